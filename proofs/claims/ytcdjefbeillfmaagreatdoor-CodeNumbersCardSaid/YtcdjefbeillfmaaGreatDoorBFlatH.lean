/- Rows that are grown by others: what stood in them stays. No walk. -/
import Derived.Test.YtcdjefbeillfmaaGreatDoorBFlatG
namespace Go.Proofs.YtcdjefbeillfmaaGreatDoor
open Go.ChangeShapes Go.WideShapes Go.ChangeAt Go.RowKit Go.Sort
set_option linter.unusedVariables false
set_option maxRecDepth 100000

/-- The rows as they are marked, and the first k of them grown by whatever it is. -/
structure G4 (w : World) (base K k : Nat) (val : Nat → Value) (len : Nat → Nat) (G : Nat → Value) (X : Nat → List Value) : Prop where
  rows : Fam w base K val len (fun j => mcells j (len j))
  grown : Fam w base k G (fun j => len j + 64) X
  mark : ∀ i, i < k → (X i).take (len i * 1) = mcells i (len i)
  far : ∀ i j, i < k → j < K → i ≠ j → ∀ b, (G i).ownBlock = some b → (val j).ownBlock ≠ some b
theorem G4.keep {w w' : World} {base K k : Nat} {val : Nat → Value} {len : Nat → Nat} {G : Nat → Value} {X : Nat → List Value} (h : G4 w base K k val len G X) (hg : w.grownBy w' none) : G4 w' base K k val len G X :=
  ⟨h.rows.keep hg, h.grown.keep hg, h.mark, h.far⟩
theorem G3.start {w : World} {base K k : Nat} {val : Nat → Value} {len : Nat → Nat} {G : Nat → Value} (h : G3 w base K k val len G) (X : Nat → List Value) : G4 w base K 0 val len G X :=
  ⟨h.rows, fun i hi => absurd hi (by omega), fun i hi => absurd hi (by omega), fun i j hi => absurd hi (by omega)⟩
theorem g4_next {w w' : World} {base K k : Nat} {val : Nat → Value} {len : Nat → Nat} {G : Nat → Value} {X : Nat → List Value} {v' : Value} {ys : List Value} (h : G4 w base K k val len G X) (hl : Lone K val) (hk : k < K)
    (ho : w'.ownsRow base 5 1 v' (len k + 64) (mcells k (len k) ++ ys)) (hg : Grew w w' (val k) v' (len k) 64) :
    G4 w' base K (k + 1) val len (upd G k v') (upd X k (mcells k (len k) ++ ys)) := by
  have hlen : (mcells k (len k)).length = len k * 1 := (h.rows k hk).1
  have htake : (mcells k (len k) ++ ys).take (len k * 1) = mcells k (len k) := by rw [← hlen]; exact List.take_left
  have hmark : ∀ i, i < k + 1 → (upd X k (mcells k (len k) ++ ys) i).take (len i * 1) = mcells i (len i) := by
    intro i hi
    by_cases e : i = k
    · subst e; rw [upd_same]; exact htake
    · rw [upd_other _ _ _ _ e]; exact h.mark i (by omega)
  rcases hg with ⟨g, cap, hv, hv', hgr⟩ | ⟨cap, hv', hgr⟩
  · have hbk : (val k).ownBlock = some g := by rw [hv]; rfl
    refine ⟨fun j hj => ?_, fun i hi => ?_, hmark, fun i j hi hj hne b hb => ?_⟩
    · by_cases e : j = k
      · subst e
        rw [hv'] at ho
        have := own_prefix ho
        rw [htake] at this
        rw [hv]
        exact this
      · exact (h.rows j hj).kept hgr (.inr (hl k j hk hj (Ne.symm e) g hbk))
    · by_cases e : i = k
      · subst e; rw [upd_same, upd_same]; exact ho
      · rw [upd_other _ _ _ _ e, upd_other _ _ _ _ e]
        exact (h.grown i (by omega)).kept hgr (.inr (fun hb => h.far i k (by omega) hk e g hb hbk))
    · by_cases e : i = k
      · subst e
        rw [upd_same, hv'] at hb
        have : g = b := by simpa [Value.ownBlock] using hb
        subst this
        exact hl i j hk hj hne g hbk
      · rw [upd_other _ _ _ _ e] at hb
        exact h.far i j (by omega) hj hne b hb
  · have h' := h.keep hgr
    refine ⟨h'.rows, fun i hi => ?_, hmark, fun i j hi hj hne b hb => ?_⟩
    · by_cases e : i = k
      · subst e; rw [upd_same, upd_same]; exact ho
      · rw [upd_other _ _ _ _ e, upd_other _ _ _ _ e]; exact h'.grown i (by omega)
    · by_cases e : i = k
      · subst e
        rw [upd_same, hv'] at hb
        have : w.heap.size = b := by simpa [Value.ownBlock] using hb
        subst this
        exact fun hb' => absurd ((h.rows j hj).lt _ hb').2 (by omega)
      · rw [upd_other _ _ _ _ e] at hb
        exact h.far i j (by omega) hj hne b hb
theorem g4_set {w : World} {base K k : Nat} {val : Nat → Value} {len : Nat → Nat} {G : Nat → Value} {X : Nat → List Value} (h : G4 w base K k val len G X) {bg g0 n cap : Nat} {xs : List Value} (hgs : w.ownsRow bg 22 1 (.slice (some ⟨g0, 0, none⟩) n cap) n xs) (j : Nat) (u : Value) :
    G4 (w.setCell ⟨g0, j, none⟩ u) base K k val len G X :=
  ⟨fun i hi => (h.rows i hi).kept (hgs.stored j u).2 (.inr (own_ne hgs (h.rows i hi) (by decide) rfl)), fun i hi => (h.grown i hi).kept (hgs.stored j u).2 (.inr (own_ne hgs (h.grown i hi) (by decide) rfl)), h.mark, h.far⟩
/-- A mark within a longer row. -/
theorem mark_in {w : World} {base g n cap a N j : Nat} {X : List Value} (h : w.ownsRow base 5 1 (.slice (some ⟨g, 0, none⟩) n cap) n X) (ht : X.take (N * 1) = mcells a N) (hN : N ≤ n) (hj : j < N) :
    w.cell? ⟨g, j, none⟩ = some (.int .u8 (mbI (a : Int) (j : Int))) := by
  have hx : X[j]? = (mcells a N)[j]? := by rw [← ht, List.getElem?_take, if_pos (by omega)]
  exact (h.cellAt j (by omega)).trans (hx.trans (mcells_get hj))
theorem one_set {Y : List Value} (h : ∀ u ∈ Y, u.oneCell' = true) (i : Nat) (a : Value) (ha : a.oneCell' = true) : ∀ u ∈ Y.set i a, u.oneCell' = true := by
  intro u hu
  rcases List.mem_or_eq_of_mem_set hu with hu | rfl
  · exact h u hu
  · exact ha
theorem one_made (n : Nat) : ∀ u ∈ (madeCells (Value.int .u8 0).cells n).toList, u.oneCell' = true := by
  intro u hu
  rw [show (Value.int .u8 0).cells = #[.int .u8 0] from rfl, toList_madeCells_one] at hu
  obtain ⟨_, rfl⟩ := List.mem_replicate.1 hu
  rfl
/-- What lies below stays, and so do rows of every other kind. -/
structure Kept2 (B : Nat) (w w' : World) : Prop where
  below : Go.RowKit.Below B w w'
  rows : ∀ bb e sz v n xs, e ≠ 5 → e ≠ 22 → w.ownsRow bb e sz v n xs → w'.ownsRow bb e sz v n xs
  room : B ≤ w.heap.size
theorem Kept2.refl {B : Nat} {w : World} (h : B ≤ w.heap.size) : Kept2 B w w := ⟨Below.refl _ _, fun _ _ _ _ _ _ _ _ h => h, h⟩
theorem Kept2.size {B : Nat} {w w' : World} (h : Kept2 B w w') : w.heap.size ≤ w'.heap.size := h.below.size
theorem Kept2.still {B : Nat} {a w w' : World} (h : Kept2 B a w) (hg : w.grownBy w' none) : Kept2 B a w' :=
  ⟨h.below.grown hg (Nat.le_trans h.room h.size) (fun j hj => by cases hj), fun bb e sz v n xs h1 h2 ho => (h.rows bb e sz v n xs h1 h2 ho).kept hg (by cases v.ownBlock <;> simp), h.room⟩
theorem draws_none (w : World) (n : Nat) : w.grownBy (w.drewN n) none := ⟨rfl, rfl, rfl, Nat.le_refl _, fun _ _ _ => rfl⟩
theorem Kept2.set {B : Nat} {a w : World} (h : Kept2 B a w) {bb e size g n cap : Nat} {xs : List Value} (ho : w.ownsRow bb e size (.slice (some ⟨g, 0, none⟩) n cap) n xs) (he : e = 5 ∨ e = 22) (hB : B ≤ g) (j : Nat) (u : Value) : Kept2 B a (w.setCell ⟨g, j, none⟩ u) :=
  ⟨h.below.setCell (p := ⟨g, j, none⟩) hB _, fun bb' e' sz v m ys h1 h2 ho' => (h.rows bb' e' sz v m ys h1 h2 ho').kept (ho.stored j u).2 (.inr (own_ne ho (h.rows bb' e' sz v m ys h1 h2 ho') (by rcases he with rfl | rfl; exact Ne.symm h1; exact Ne.symm h2) rfl)), h.room⟩
theorem Kept2.grew {B : Nat} {a w w' : World} (h : Kept2 B a w) {base nn m : Nat} {gv v' : Value} {xs : List Value} (hgv : w.ownsRow base 5 1 gv nn xs) (hB : B ≤ base) (hg : Grew w w' gv v' nn m) : Kept2 B a w' :=
  ⟨below_grew h.below hgv hB (Nat.le_trans h.room h.size) hg, fun bb e sz v n xs h1 h2 ho => other_kept hgv (h.rows bb e sz v n xs h1 h2 ho) (Ne.symm h1) hg, h.room⟩
end Go.Proofs.YtcdjefbeillfmaaGreatDoor
