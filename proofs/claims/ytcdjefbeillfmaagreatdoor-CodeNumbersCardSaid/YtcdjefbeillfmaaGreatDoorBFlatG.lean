/- Rows that are grown one behind the other: none comes into another one's way. No walk. -/
import Derived.Test.YtcdjefbeillfmaaGreatDoorBFlat0
namespace Go.Proofs.YtcdjefbeillfmaaGreatDoor
open Go.ChangeShapes Go.WideShapes Go.ChangeAt Go.RowKit Go.Sort
set_option linter.unusedVariables false
set_option maxRecDepth 100000

theorem mcells_prefix (k a b : Nat) : (mcells k (a + b)).take (a * 1) = mcells k a := by
  simp only [mcells, ← List.map_take, List.take_range, Nat.mul_one]
  congr 2
  omega
/-- The rows as they are marked, and the first k of them grown. -/
structure G3 (w : World) (base K k : Nat) (val : Nat → Value) (len : Nat → Nat) (G : Nat → Value) : Prop where
  rows : Fam w base K val len (fun j => mcells j (len j))
  grown : Fam w base k G (fun j => len j + 64) (fun j => mcells j (len j + 64))
  lone : Lone k G
  far : ∀ i j, i < k → j < K → i ≠ j → ∀ b, (G i).ownBlock = some b → (val j).ownBlock ≠ some b
theorem G3.keep {w w' : World} {base K k : Nat} {val : Nat → Value} {len : Nat → Nat} {G : Nat → Value} (h : G3 w base K k val len G) (hg : w.grownBy w' none) : G3 w' base K k val len G :=
  ⟨h.rows.keep hg, h.grown.keep hg, h.lone, h.far⟩
/-- Where a row is that is being grown. -/
def Home (K k : Nat) (val : Nat → Value) (len : Nat → Nat) (G : Nat → Value) (gv : Value) (m : Nat) : Prop :=
  (∃ g cap, val k = .slice (some ⟨g, 0, none⟩) (len k) cap ∧ gv = .slice (some ⟨g, 0, none⟩) (len k + m) cap) ∨
  (∀ b, gv.ownBlock = some b → (∀ j, j < K → (val j).ownBlock ≠ some b) ∧ ∀ i, i < k → (G i).ownBlock ≠ some b)
theorem home_start {w : World} {base K k : Nat} {val : Nat → Value} {len : Nat → Nat} {G : Nat → Value} (h : G3 w base K k val len G) (hk : k < K) : Home K k val len G (val k) 0 := by
  rcases (h.rows k hk).2 with ⟨hv, _⟩ | ⟨g, cap, cur, hv, _⟩
  · exact .inr (fun b hb => by rw [hv] at hb; simp [Value.ownBlock] at hb)
  · exact .inl ⟨g, cap, hv, hv⟩
theorem g3_app {w w' : World} {base K k m : Nat} {val : Nat → Value} {len : Nat → Nat} {G : Nat → Value} {gv v' : Value} (h : G3 w base K k val len G) (hl : Lone K val) (hk : k < K) (hh : Home K k val len G gv m)
    (ho : w'.ownsRow base 5 1 v' (len k + m + 1) (mcells k (len k + m + 1))) (hg : Grew w w' gv v' (len k + m) 1) : G3 w' base K k val len G ∧ Home K k val len G v' (m + 1) := by
  rcases hg with ⟨g, cap, hv, hv', hgr⟩ | ⟨cap, hv', hgr⟩
  · rcases hh with ⟨g2, cap2, hvk, hgv⟩ | hh
    · rw [hv] at hgv
      injection hgv with e1 e2 e3
      injection e1 with e1
      injection e1 with e1
      subst e1 e3
      have hbk : (val k).ownBlock = some g := by rw [hvk]; rfl
      refine ⟨⟨fun j hj => ?_, fun i hi => ?_, h.lone, h.far⟩, .inl ⟨g, cap, hvk, by rw [hv']; rfl⟩⟩
      · by_cases e : j = k
        · subst e
          rw [hv'] at ho
          have := own_prefix (n := len j) (m := m + 1) (by rw [← Nat.add_assoc]; exact ho)
          rw [Nat.add_assoc, mcells_prefix] at this
          rw [hvk]
          exact this
        · exact (h.rows j hj).kept hgr (.inr (hl k j hk hj (Ne.symm e) g hbk))
      · exact (h.grown i hi).kept hgr (.inr (fun hb => h.far i k hi hk (by omega) g hb hbk))
    · have hb : gv.ownBlock = some g := by rw [hv]; rfl
      obtain ⟨h1, h2⟩ := hh g hb
      refine ⟨⟨fun j hj => (h.rows j hj).kept hgr (.inr (h1 j hj)), fun i hi => (h.grown i hi).kept hgr (.inr (h2 i hi)), h.lone, h.far⟩, .inr (fun b hb' => ?_)⟩
      rw [hv'] at hb'
      have : g = b := by simpa [Value.ownBlock] using hb'
      subst this
      exact ⟨h1, h2⟩
  · refine ⟨h.keep hgr, .inr (fun b hb => ?_)⟩
    rw [hv'] at hb
    have : w.heap.size = b := by simpa [Value.ownBlock] using hb
    subst this
    exact ⟨fun j hj hb' => absurd ((h.rows j hj).lt _ hb').2 (by omega), fun i hi hb' => absurd ((h.grown i hi).lt _ hb').2 (by omega)⟩
/-- One more is grown. -/
theorem g3_next {w : World} {base K k : Nat} {val : Nat → Value} {len : Nat → Nat} {G : Nat → Value} {gv : Value} (h : G3 w base K k val len G) (hl : Lone K val) (hk : k < K) (hh : Home K k val len G gv 64)
    (ho : w.ownsRow base 5 1 gv (len k + 64) (mcells k (len k + 64))) : G3 w base K (k + 1) val len (upd G k gv) := by
  have hv : ∀ j, j < K → j ≠ k → ∀ b, gv.ownBlock = some b → (val j).ownBlock ≠ some b := by
    intro j hj hne b hb
    rcases hh with ⟨g, cap, hvk, hgv⟩ | hh
    · rw [hgv] at hb
      have : g = b := by simpa [Value.ownBlock] using hb
      subst this
      exact hl k j hk hj (Ne.symm hne) g (by rw [hvk]; rfl)
    · exact (hh b hb).1 j hj
  have hG : ∀ i, i < k → ∀ b, gv.ownBlock = some b → (G i).ownBlock ≠ some b := by
    intro i hi b hb
    rcases hh with ⟨g, cap, hvk, hgv⟩ | hh
    · rw [hgv] at hb
      have : g = b := by simpa [Value.ownBlock] using hb
      subst this
      exact fun hb' => h.far i k hi hk (by omega) g hb' (by rw [hvk]; rfl)
    · exact (hh b hb).2 i hi
  refine ⟨h.rows, fun i hi => ?_, fun i j hi hj hne b hb => ?_, fun i j hi hj hne b hb => ?_⟩
  · by_cases e : i = k
    · subst e; rw [upd_same]; exact ho
    · rw [upd_other _ _ _ _ e]; exact h.grown i (by omega)
  · by_cases e : i = k
    · subst e
      rw [upd_same] at hb
      rw [upd_other _ _ _ _ (Ne.symm hne)]
      exact hG j (by omega) b hb
    · rw [upd_other _ _ _ _ e] at hb
      by_cases e' : j = k
      · subst e'
        rw [upd_same]
        exact fun hb' => hG i (by omega) b hb' hb
      · rw [upd_other _ _ _ _ e']
        exact h.lone i j (by omega) (by omega) hne b hb
  · by_cases e : i = k
    · subst e
      rw [upd_same] at hb
      exact hv j hj (Ne.symm hne) b hb
    · rw [upd_other _ _ _ _ e] at hb
      exact h.far i j (by omega) hj hne b hb
/-- A row of another kind stays. -/
theorem other_kept {w w' : World} {base base' e size n m nn : Nat} {gv v' v : Value} {xs ys : List Value} (hgv : w.ownsRow base 5 1 gv nn xs) (hO : w.ownsRow base' e size v n ys) (hne : 5 ≠ e) (hg : Grew w w' gv v' nn m) : w'.ownsRow base' e size v n ys := by
  rcases hg with ⟨g, cap, hv, _, hgr⟩ | ⟨cap, _, hgr⟩
  · exact hO.kept hgr (.inr (own_ne hgv hO hne (by rw [hv]; rfl)))
  · exact hO.kept hgr (by cases v.ownBlock <;> simp)
theorem below_grew {a w w' : World} {B base nn m : Nat} {gv v' : Value} {xs : List Value} (hb : Go.RowKit.Below B a w) (hgv : w.ownsRow base 5 1 gv nn xs) (hB : B ≤ base) (hBw : B ≤ w.heap.size) (hg : Grew w w' gv v' nn m) : Go.RowKit.Below B a w' := by
  rcases hg with ⟨g, cap, hv, _, hgr⟩ | ⟨cap, _, hgr⟩
  · refine hb.grown hgr hBw (fun k hk => ?_)
    cases hk
    have := (hgv.lt g (by rw [hv]; rfl)).1
    omega
  · exact hb.grown hgr hBw (fun k hk => by cases hk)
theorem g3_set {w : World} {base K k : Nat} {val : Nat → Value} {len : Nat → Nat} {G : Nat → Value} (h : G3 w base K k val len G) {bg g0 n cap : Nat} {xs : List Value} (hgs : w.ownsRow bg 22 1 (.slice (some ⟨g0, 0, none⟩) n cap) n xs) (j : Nat) (u : Value) :
    G3 (w.setCell ⟨g0, j, none⟩ u) base K k val len G :=
  ⟨fun i hi => (h.rows i hi).kept (hgs.stored j u).2 (.inr (own_ne hgs (h.rows i hi) (by decide) rfl)), fun i hi => (h.grown i hi).kept (hgs.stored j u).2 (.inr (own_ne hgs (h.grown i hi) (by decide) rfl)), h.lone, h.far⟩
theorem row_set {w : World} {base base' e e' size size' n n' g0 cap : Nat} {v : Value} {xs ys : List Value} (h : w.ownsRow base e size v n xs) (hgs : w.ownsRow base' e' size' (.slice (some ⟨g0, 0, none⟩) n' cap) n' ys) (hne : v.ownBlock ≠ some g0) (j : Nat) (u : Value) :
    (w.setCell ⟨g0, j, none⟩ u).ownsRow base e size v n xs := h.kept (hgs.stored j u).2 (.inr hne)
theorem old_fact {wA wr : World} (hb : Go.RowKit.Below wA.heap.size wA wr) {p : Addr} {v : Value} (hc : wA.cell? p = some v) (hp : p.block < wA.heap.size) : wr.cell? p = some v := (hb.cell hp).trans hc
/-- The cell of a mark. -/
theorem mark_cell {w : World} {base n g cap a N j : Nat} (h : w.ownsRow base 5 1 (.slice (some ⟨g, 0, none⟩) n cap) n (mcells a N)) (hN : N = n) (hj : j < n) :
    w.cell? ⟨g, j, none⟩ = some (.int .u8 (mbI (a : Int) (j : Int))) := by
  subst hN
  exact (h.cellAt j (by omega)).trans (mcells_get hj)
end Go.Proofs.YtcdjefbeillfmaaGreatDoor
