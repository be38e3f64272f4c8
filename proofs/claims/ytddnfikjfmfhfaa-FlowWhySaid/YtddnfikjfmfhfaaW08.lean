/- Texts of this proof, one behind the other. -/
import Derived.Laws.EntriesVeiled
import Derived.Laws.ResultCell
import Derived.Deep.QuietTactic
import Derived.BigQuiet
import Derived.Test.YtddnfikjfmfhfaaW05
import Derived.Test.YtddnfikjfmfhfaaW04
import Derived.Test.YtddnfikjfmfhfaaW06
import Derived.Test.YtddnfikjfmfhfaaW07
section
/- Serving, in plain words: want by want, by their days. No walk. -/
namespace Go.Proofs.Ytddnfikjfmfhfaa
set_option linter.unusedVariables false

/-- The wants at these places. -/
def atPlaces (ws : List Wt) (P : List Nat) : List (Int × Wt) := P.map (fun p : Nat => ((p : Int), ws.getD p default))
/-- Serving: of the lots in that order, the wants in that order. -/
def serveRun (S : List Lt) (ws : List Wt) (P : List Nat) (q : Int → Int) : List (Int × Int × Int) × Bool × (Int → Int) := Fl.runG Lt.id servesB Wt.qty S (atPlaces ws P) q
/-- How far it has come: these places are still to be served. -/
def Far (S : List Lt) (ws : List Wt) (P : List Nat) (q0 : Int → Int) (R : List Nat) (q : Int → Int) (U : List Us) : Prop :=
  (serveRun S ws P q0).2 = (serveRun S ws R q).2 ∧ ((serveRun S ws P q0).2.1 = true → (serveRun S ws P q0).1 = U.map useT ++ (serveRun S ws R q).1)
theorem far_start (S : List Lt) (ws : List Wt) (P : List Nat) (q0 : Int → Int) : Far S ws P q0 P q0 [] := ⟨rfl, fun _ => by simp⟩
section
variable {S : List Lt} {ws : List Wt} {P : List Nat} {q0 : Int → Int} {p : Nat} {R : List Nat} {q : Int → Int} {U : List Us} {x : Wt}
theorem Far.step (h : Far S ws P q0 (p :: R) q U) (hx : ws[p]? = some x) {V : List Us} {q' : Int → Int} (hV : V.map useT = (Fl.takeG Lt.id servesB p x S x.qty q).1) (hz : (Fl.takeG Lt.id servesB p x S x.qty q).2.1 = 0) (hq : q' = (Fl.takeG Lt.id servesB p x S x.qty q).2.2) : Far S ws P q0 R q' (U ++ V) := by
  have e : serveRun S ws (p :: R) q = ((Fl.takeG Lt.id servesB p x S x.qty q).1 ++ (serveRun S ws R q').1, (serveRun S ws R q').2) := by
    have hgd : ws.getD p default = x := by rw [List.getD_eq_getElem?_getD, hx]; rfl
    unfold serveRun atPlaces
    rw [List.map_cons, hgd]
    conv => lhs; unfold Fl.runG
    rw [if_pos hz, hq]
  obtain ⟨h1, h2⟩ := h
  rw [e] at h1 h2
  refine ⟨h1, fun ht => ?_⟩
  rw [h2 ht, List.map_append, hV, List.append_assoc]
theorem Far.fail (h : Far S ws P q0 (p :: R) q U) (hx : ws[p]? = some x) (hz : (Fl.takeG Lt.id servesB p x S x.qty q).2.1 ≠ 0) : (serveRun S ws P q0).2.1 = false := by
  have e : (serveRun S ws (p :: R) q).2.1 = false := by
    have hgd : ws.getD p default = x := by rw [List.getD_eq_getElem?_getD, hx]; rfl
    unfold serveRun atPlaces
    rw [List.map_cons, hgd]
    unfold Fl.runG
    rw [if_neg hz]
  rw [h.1, e]
theorem Far.end_ (h : Far S ws P q0 [] q U) : serveRun S ws P q0 = (U.map useT, true, q) := by
  obtain ⟨h1, h2⟩ := h
  have e : serveRun S ws [] q = ([], true, q) := rfl
  rw [e] at h1 h2
  have h3 := h2 (by rw [h1])
  apply Prod.ext
  · rw [h3]; simp
  · exact h1
end
theorem takeG_range (p : Int) (w : Wt) : ∀ (S : List Lt) (n : Int) (q : Int → Int), (∀ i, 0 ≤ q i) → ∀ i, 0 ≤ (Fl.takeG Lt.id servesB p w S n q).2.2 i ∧ (Fl.takeG Lt.id servesB p w S n q).2.2 i ≤ q i
  | [], n, q, h, i => ⟨h i, Int.le_refl _⟩
  | x :: r, n, q, h, i => by
    unfold Fl.takeG
    split
    · rename_i hc
      have hb : ∀ i, 0 ≤ Fl.bmp q x.id (-(min n (q x.id))) i ∧ Fl.bmp q x.id (-(min n (q x.id))) i ≤ q i := fun i => by
        have := h i
        unfold Fl.bmp
        split
        · rename_i e; subst e; omega
        · omega
      have := takeG_range p w r (n - min n (q x.id)) _ (fun i => (hb i).1) i
      exact ⟨this.1, Int.le_trans this.2 (hb i).2⟩
    · exact takeG_range p w r n q h i
theorem takeS_uses (p day : Int) : ∀ (l : List Lt) (n : Int) (q : Int → Int), (takeS p day l n q).1.length ≤ l.length
  | [], n, q => Nat.le_refl _
  | x :: r, n, q => by
    unfold takeS
    split
    · exact Nat.zero_le _
    · split
      · split
        · simp only [List.length_cons]; exact Nat.succ_le_succ (takeS_uses p day r _ _)
        · simp
      · simp only [List.length_cons]; exact Nat.le_succ_of_le (takeS_uses p day r _ _)
theorem takeS_rest (p day : Int) : ∀ (l : List Lt) (n : Int) (q : Int → Int), 0 ≤ n → 0 ≤ (takeS p day l n q).2.1
  | [], n, q, h => h
  | x :: r, n, q, h => by
    unfold takeS
    split
    · exact h
    · split
      · split
        · exact takeS_rest p day r _ _ (by omega)
        · show 0 ≤ n - min n (q x.id); omega
      · exact takeS_rest p day r _ _ h
theorem shelfOf_all (S : List Lt) (q : Int → Int) (it : List UInt8) (h : ∀ x ∈ S, 0 < q x.id) : shelfOf S q it = ofItem S it := by
  unfold shelfOf ofItem
  apply List.filter_congr
  intro x hx
  rw [decide_eq_true (h x hx), Bool.and_true]
/-- One want has taken: the shelves are those of what is left. -/
theorem shelves_after (p : Int) (w : Wt) (S : List Lt) (q : Int → Int) (hn : (S.map Lt.id).Nodup) :
    updL (fun it => shelfOf S q it) w.item (takeS p w.day (shelfOf S q w.item) w.qty q).2.2.2 = (fun it => shelfOf S (Fl.takeG Lt.id servesB p w S w.qty q).2.2 it) := by
  obtain ⟨_, _, _, h4⟩ := take_shelf p w S w.qty q hn
  funext it
  by_cases e : it = w.item
  · subst e; rw [updL_same]; exact h4
  · rw [updL_other _ _ _ _ e]
    refine (shelf_other p w it e S w.qty q hn S (fun x hx y hy hid => ?_)).symm
    exact Fl.id_inj Lt.id hn hy hx hid
theorem shelf_on {S l : List Lt} {q : Int → Int} (it : List UInt8) (hf : ∀ x ∈ S, x.Fits ∧ x.id ∈ l.map Lt.id) (hq : ∀ i, q i ≤ 1073741824) : OnShelf q (fun i => i ∈ l.map Lt.id) (shelfOf S q it) := fun x hx => by
  unfold shelfOf at hx
  rw [List.mem_filter] at hx
  obtain ⟨h1, h2⟩ := hx
  simp only [Bool.and_eq_true, decide_eq_true_eq] at h2
  exact ⟨(hf x h1).1, (hf x h1).2, h2.2, hq _⟩
theorem shelf_nodup {S : List Lt} {q : Int → Int} (it : List UInt8) (hn : (S.map Lt.id).Nodup) : ((shelfOf S q it).map Lt.id).Nodup := hn.sublist (List.Sublist.map _ (List.filter_sublist))
theorem shelf_short (S : List Lt) (q : Int → Int) (it : List UInt8) : (shelfOf S q it).length ≤ S.length := List.length_filter_le _ _
theorem lright_qty {x : Lt} (h : lrightB x = true) : 1 ≤ x.qty ∧ x.qty ≤ 1073741824 := by
  unfold lrightB qtyB at h; simp only [Bool.and_eq_true, decide_eq_true_eq] at h; omega
theorem qtyOf_range {l : List Lt} (h : ∀ x ∈ l, lrightB x = true) (i : Int) : 0 ≤ qtyOf l i ∧ qtyOf l i ≤ 1073741824 := by
  unfold qtyOf
  split
  · rename_i x hx
    have := lright_qty (h x (lastId_some l hx).1); omega
  · omega
theorem wantB_parts {x : Wt} (h : wantB x = true) : x.item.length ≤ 12 ∧ 1 ≤ x.qty ∧ x.qty ≤ 1125899906842624 := by
  unfold wantB at h
  simp only [Bool.and_eq_true, decide_eq_true_eq] at h
  refine ⟨?_, h.2.2.1, h.2.2.2⟩
  have := h.1
  unfold rightL at this
  simp only [Bool.and_eq_true, decide_eq_true_eq] at this
  omega
end Go.Proofs.Ytddnfikjfmfhfaa
end
section
/- flow.byDay: the wants' places, by their days. -/
namespace Go.Proofs.Ytddnfikjfmfhfaa
open Go.ChangeShapes Go.WideShapes Go.ChangeAt Go.RowKit Go.Maps
set_option linter.unusedVariables false

theorem insertI_none (A : Option Addr) (c : Nat) (fv : Value) (w : World) : Calls Try.prog 86 #[.slice A 0 c, .int .i64 0, .int .i64 0, fv] w fun e w' => e = .returned (.tuple #[]) ∧ w = w' := by
  go_enter Try.func86, Try.ntmps86
  go_wp2
  go_loop [8] (fun i => i = .int .i64 1) (fun _ => 0)
  case atStart => rfl
  case round =>
    obtain rfl := hrel
    go_wp2
    go_end0
    exact ⟨rfl, rfl⟩
theorem stableI_none (A : Option Addr) (c : Nat) (fv : Value) (w : World) : Calls Try.prog 76 #[.slice A 0 c, .int .i64 0, fv] w fun e w' => e = .returned (.tuple #[]) ∧ w = w' := by
  go_enter Try.func76, Try.ntmps76
  go_wp2
  go_loop [7, 8] (fun a b => a = .int .i64 0 ∧ b = .int .i64 20) (fun _ _ => 0)
  case atStart => exact ⟨rfl, rfl⟩
  case round =>
    obtain ⟨rfl, rfl⟩ := hrel
    go_wp2_with (go_at_call 86; ((with_reducible refine (insertI_none _ _ _ _).mono ?_); rintro e w1 ⟨rfl, rfl⟩))
    go_loop [6] (fun i => i = .int .i64 20) (fun _ => 0)
    case atStart => rfl
    case round =>
      obtain rfl := hrel
      go_wp2
      go_end0
      exact ⟨rfl, rfl⟩

theorem days_none {ws : List Wt} (h : ws.length = 0) : Days ws [] := ⟨by rw [h]; exact List.Perm.refl _, List.Pairwise.nil⟩
/-- The stable sort of the places, however many there are. -/
theorem sortDays (ws : List Wt) (hlen : ws.length ≤ 1099511627776) (bx n₀ base g : Nat) (A : Option Addr) (c cap : Nat) (w : World) (hbx : w.cell? ⟨bx, 0, none⟩ = some (.slice A ws.length c)) (hbxl : bx < w.heap.size) (hbxg : bx ≠ g) (hl : Lies w n₀ A (wcells ws)) (hn₀ : n₀ ≤ g)
    (h : w.ownsRow base 3 1 (.slice (some ⟨g, 0, none⟩) ws.length cap) ws.length (ncells ((List.range ws.length).map (fun i : Nat => (i : Int))))) :
    Calls Try.prog 60 #[.slice (some ⟨g, 0, none⟩) ws.length cap, .func (.func 61) #[] #[.pointer (some ⟨bx, 0, none⟩)]] w (DaysRow ws base (.slice (some ⟨g, 0, none⟩) ws.length cap) w) := by
  by_cases hpos : 0 < ws.length
  · have HC := Lib.hid (stableDays ws hpos hlen bx n₀ base g A c cap w hbx hbxl hbxg hl hn₀ h)
    clear hbx hl h hbxl hbxg hn₀
    go_enter Try.func60, Try.ntmps60
    go_wp2_with (go_at_call 76; ((with_reducible refine HC.out.mono ?_); rintro e w1 ⟨rfl, hx⟩; have HX := Lib.hid hx; clear hx))
    go_end0
    exact ⟨rfl, HX.out⟩
  · have h0 : ws.length = 0 := by omega
    have HR := Lib.hid h
    have HN := Lib.hid (days_none h0)
    clear hbx hl h hbxl hbxg hn₀ hpos
    have H0 := Lib.hid h0
    rw [h0]
    clear h0
    go_enter Try.func60, Try.ntmps60
    go_wp2_with (go_at_call 76; ((with_reducible refine (stableI_none _ _ _ _).mono ?_); rintro e w1 ⟨rfl, rfl⟩))
    go_end0
    refine ⟨rfl, [], HN.out, ?_, Below.refl _ _⟩
    have := HR.out
    rw [H0.out] at this ⊢
    simpa [ncells] using this

/-- What byDay answers. -/
def DayTo (ws : List Wt) (w : World) (e : Ending) (w' : World) : Prop := ∃ g P, e = .returned (.slice (some ⟨g, 0, none⟩) ws.length ws.length) ∧ Days ws P ∧ w'.ownsRow w.heap.size 3 1 (.slice (some ⟨g, 0, none⟩) ws.length ws.length) ws.length (ncells (P.map (fun i : Nat => (i : Int)))) ∧ Below w.heap.size w w'
set_option maxHeartbeats 1000000 in
theorem byDay_any (v : Value) (ws : List Wt) (w : World) (hlen : ws.length ≤ 1099511627776) (hv : WSl w w.heap.size v ws) :
    Calls Try.prog 48 #[v] w (DayTo ws w) := by
  obtain ⟨A, c, rfl, hc1, hc2, hcz, hl⟩ := id hv
  obtain ⟨i0, hi, hz0, hz1, hz2⟩ := info_parts infoI
  have H1 := Lib.hid hi
  have H2 := Lib.hid hz0
  have H3 := Lib.hid hz1
  have H4 := Lib.hid hz2
  have HL := Lib.hid hl
  have hbx : (w.alloc (.cells #[.slice A ws.length c] 23)).cell? ⟨w.heap.size, 0, none⟩ = some (.slice A ws.length c) := by
    have := fresh_cell w #[.slice A ws.length c] 23 0
    rwa [addr0] at this
  have HBX := Lib.hid hbx
  clear hl hv hi hz0 hz1 hz2 hbx
  go_enter Try.func48, Try.ntmps48
  go_wp2_with (at_make; refine wpList_make_full _ rfl _ _ 74 rfl (w.heap.size + 1) 3 i0 (.int .i64 0) 1 Try.underlying74 H1.out H2.out H3.out .i64 .i64 _ _ ws.length rfl rfl rfl rfl (by rw [H4.out]; omega) (by unfold maxLen; omega) (by simp) ?_; intro w1 hgm' hg1'; have hgm := Lib.hid hgm'; have hg1 := Lib.hid hg1'; clear hgm' hg1')
  generalize hY : (madeCells (Value.int .i64 0).cells (ws.length * 1)).toList = Y0 at hgm
  clear hY
  have hb1 : Hid (Below (w.heap.size + 1) (w.alloc (.cells #[.slice A ws.length c] 23)) w1) := Lib.hid ((Below.refl _ _).grown hg1.out (by simp) (fun j hj => by cases hj))
  obtain ⟨g, hgE, hgle⟩ : ∃ g, (w.alloc (.cells #[.slice A ws.length c] 23)).heap.size = g ∧ w.heap.size + 1 ≤ g := ⟨_, rfl, by simp⟩
  rw [hgE] at hgm
  simp only [World.size_alloc] at hgE
  rw [hgE]
  clear hgE hg1
  go_loopw [10] (fun i wr => ∃ (k : Nat) (Y : List Value), k ≤ ws.length ∧ i = .int .i64 k ∧ Hid (Y.take k = ncells ((List.range k).map (fun i : Nat => (i : Int)))) ∧ Hid (wr.ownsRow (w.heap.size + 1) 3 1 (.slice (some ⟨g, 0, none⟩) ws.length ws.length) ws.length Y) ∧ Hid (Below (w.heap.size + 1) (w.alloc (.cells #[.slice A ws.length c] 23)) wr)) (fun i _ => ws.length - (intOf i).toNat)
  case atStart => exact ⟨0, Y0, Nat.zero_le _, rfl, Lib.hid (by simp [ncells]), hgm, hb1⟩
  case round =>
    clear hgm hb1
    obtain ⟨k, Y, hk, rfl, HY, HR, HB⟩ := hrel
    by_cases hlt : k < ws.length
    · have hYl := HR.out.1
      obtain ⟨y, hy⟩ : ∃ y, Y[k]? = some y := ⟨_, List.getElem?_eq_getElem (by omega)⟩
      have hcy := (HR.out.cellAt k (by omega)).trans hy
      have hfy := HR.out.frozenAt k
      have hgl := (HR.out.lt g rfl).2
      have hst : Hid ((Y.set k (.int .i64 k)).take (k + 1) = ncells ((List.range (k + 1)).map (fun i : Nat => (i : Int)))) := Lib.hid (by
        rw [take_set HY.out (by omega), List.range_succ]; simp [ncells])
      have HR2 := Lib.hid (HR.out.stored k (.int .i64 k)).1
      have HB2 := Lib.hid (HB.out.setCell (p := ⟨g, k, none⟩) hgle (.int .i64 k))
      clear hy hYl
      go_wp2
      go_roundw
      case rel => exact ⟨k + 1, _, by omega, by go_num, hst, HR2, HB2⟩
      case measure => simp [intOf]; omega
    · obtain rfl : k = ws.length := by omega
      have hYl := HR.out.1
      have hYE := HY.out
      rw [List.take_of_length_le (by omega)] at hYE
      have HRR : Hid (wr.ownsRow (w.heap.size + 1) 3 1 (.slice (some ⟨g, 0, none⟩) ws.length ws.length) ws.length (ncells ((List.range ws.length).map (fun i : Nat => (i : Int))))) := Lib.hid (by rw [← hYE]; exact HR.out)
      have hbxw : wr.cell? ⟨w.heap.size, 0, none⟩ = some (.slice A ws.length c) := (HB.out.cell (p := ⟨w.heap.size, 0, none⟩) (Nat.lt_succ_self _)).trans HBX.out
      have HBW := Lib.hid hbxw
      have hsz := HB.out.size
      simp only [World.size_alloc] at hsz
      have HLW : Hid (Lies wr w.heap.size A (wcells ws)) := Lib.hid ((HL.out.alloc_ (Nat.le_refl _) _).below (HB.out.mono (Nat.le_succ _)))
      clear hYl hYE hbxw
      go_wp2_with (go_at_call 60; ((with_reducible refine (sortDays ws hlen w.heap.size w.heap.size (w.heap.size + 1) g A c ws.length wr HBW.out (by omega) (by omega) HLW.out (by omega) HRR.out).mono ?_); rintro e w3 ⟨rfl, P, hP', ho', hb3'⟩; have hP := Lib.hid hP'; have ho := Lib.hid ho'; have hb3 := Lib.hid hb3'; clear hP' ho' hb3'))
      go_ret
      exact ⟨g, P, rfl, hP.out, base_less ho.out (by omega), (below_alloc1 w (.cells #[.slice A ws.length c] 23)).trans ((HB.out.trans hb3.out).mono (by omega))⟩
end Go.Proofs.Ytddnfikjfmfhfaa
end
section
/- flow.serve. -/
namespace Go.Proofs.Ytddnfikjfmfhfaa
open Go.ChangeShapes Go.WideShapes Go.ChangeAt Go.RowKit Go.Maps
set_option linter.unusedVariables false

/-- The answer's struct, in a block of its own: nothing in it. -/
structure Blank (w : World) (b : Nat) : Prop where
  c0 : w.cell? ⟨b, 0, none⟩ = some (.map none)
  c1 : w.cell? ⟨b, 1, none⟩ = some (.map none)
  c2 : w.cell? ⟨b, 2, none⟩ = some (.slice none 0 0)
  f0 : w.frozen? ⟨b, 0, none⟩ = false
  f1 : w.frozen? ⟨b, 1, none⟩ = false
  f2 : w.frozen? ⟨b, 2, none⟩ = false
theorem blank_new (w : World) : Blank (w.alloc (.cells #[.map none, .map none, .slice none 0 0] 56)) w.heap.size := by
  have h := fresh_cell w #[.map none, .map none, .slice none 0 0] 56
  have g : ∀ j, (w.alloc (.cells #[.map none, .map none, .slice none 0 0] 56)).cell? ⟨w.heap.size, j, none⟩ = (#[Value.map none, .map none, .slice none 0 0])[j]? := fun j => by have := h j; rwa [addr0] at this
  have f : ∀ j, (w.alloc (.cells #[.map none, .map none, .slice none 0 0] 56)).frozen? ⟨w.heap.size, j, none⟩ = false := fun j => World.frozen?_alloc_at _ _ _ _ rfl
  exact ⟨g 0, g 1, g 2, f 0, f 1, f 2⟩
theorem Blank.below {w w' : World} {B b : Nat} (h : Blank w b) (hb : Below B w w') (hlt : b < B) : Blank w' b := by
  have hc : ∀ o, w'.cell? ⟨b, o, none⟩ = w.cell? ⟨b, o, none⟩ := fun o => hb.cell (p := ⟨b, o, none⟩) hlt
  have hf : ∀ o, w'.frozen? ⟨b, o, none⟩ = w.frozen? ⟨b, o, none⟩ := fun o => World.frozen?_of_block (hb.block b hlt)
  exact ⟨(hc 0).trans h.c0, (hc 1).trans h.c1, (hc 2).trans h.c2, (hf 0).trans h.f0, (hf 1).trans h.f1, (hf 2).trans h.f2⟩
/-- Nothing, and false. -/
def noServing : Ending := .returned (.tuple #[.agg #[.map none, .map none, .slice none 0 0], .bool false])

set_option maxHeartbeats 4000000 in
set_option maxRecDepth 100000 in
theorem serve_no (v1 v2 : Value) (l : List Lt) (ws : List Wt) (w : World) (hl : l.length ≤ 1099511627776) (hw : ws.length ≤ 1099511627776) (hs : Sized l) (h1 : LSl w w.heap.size v1 l) (h2 : WSl w w.heap.size v2 ws) (hb : mayB l ws = false) :
    Calls Try.prog 32 #[v1, v2] w fun e w' => e = noServing ∧ Below w.heap.size w w' := by
  have HV1 := Lib.hid h1
  have HV2 := Lib.hid h2
  have HS := Lib.hid hs
  obtain ⟨A, c, rfl, hc1, hc2, hcz, _⟩ := id h1
  obtain ⟨A2, c2, rfl, hc3, hc4, hcz2, _⟩ := id h2
  have HB := Lib.hid hb
  obtain ⟨W0, hW0⟩ : ∃ W0, W0 = w.alloc (.cells #[.map none, .map none, .slice none 0 0] 56) := ⟨_, rfl⟩
  obtain ⟨b4, hb4, hb4le⟩ : ∃ b4, w.heap.size = b4 ∧ w.heap.size ≤ b4 := ⟨_, rfl, Nat.le_refl _⟩
  have HBL : Hid (Blank W0 b4) := Lib.hid (by rw [hW0, ← hb4]; exact blank_new w)
  have hz : b4 < W0.heap.size := by rw [hW0, ← hb4]; simp
  have HV1' : Hid (LSl W0 W0.heap.size (.slice A l.length c) l) := Lib.hid (by rw [hW0]; exact HV1.out.alloc_ (Nat.le_refl _) _ |>.mono (by simp))
  have HV2' : Hid (WSl W0 W0.heap.size (.slice A2 ws.length c2) ws) := Lib.hid (by rw [hW0]; exact HV2.out.alloc_ (Nat.le_refl _) _ |>.mono (by simp))
  have HW : Hid (Below w.heap.size w W0) := Lib.hid (by rw [hW0]; exact below_alloc1 w _)
  clear h1 h2 hs hb
  go_enter Try.func32, Try.ntmps32
  go_wp2_with fail
  try rw [← hW0]
  try rw [hb4]
  clear hW0 hb4
  go_wp2_with (go_at_call 37; ((with_reducible refine (together_any _ _ l ws _ hl hw HS.out HV1'.out HV2'.out).mono ?_); rintro e w1 ⟨rfl, hb1'⟩; rw [HB.out]; have hb1 := Lib.hid hb1'; have HBL1 := HBL.out.below hb1.out hz; obtain ⟨k0, k1, k2, k3, k4, k5⟩ := HBL1; clear hb1'))
  (try simp only [Exit.inBlock, Exit.then])
  refine bodyPost_ret (v := .tuple #[.agg #[.map none, .map none, .slice none 0 0], .bool false]) (by rw [results_cell_tmp rfl]; go_simp) rfl ?_
  exact ⟨rfl, (((HW.out.trans (hb1.out.mono HW.out.size)).setCell (p := ⟨b4, 0, none⟩) hb4le _).setCell (p := ⟨b4, 1, none⟩) hb4le _).setCell (p := ⟨b4, 2, none⟩) hb4le _⟩

/-- Serving begins: the shelves, what is left, no uses. -/
theorem mid_start {w2 w3 : World} {base bm n bl nl : Nat} {sv : List UInt8 → Value} {sh : List UInt8 → List Lt} {q : Int → Int} {S : Int → Prop} (hsh : Shelves w2 base bm n sv sh) (hb3 : Below w2.heap.size w2 w3) (hq : IMap (.int .i64 0) w3 bl nl (fun i => .int .i64 (q i)) S) (hbl : w2.heap.size ≤ bl) :
    ∀ it, Mid (w3.alloc (.cells #[.map (some bm), .map (some bl), .slice none 0 0] 56)) w3.heap.size bm bl (bm + 1) n nl sv sh it (sv it) (sh it) (.slice none 0 0) q S [] := fun it => by
  have hs3 := hsh.still (below_none0 hb3)
  have hs4 := hs3.alloc (.cells #[.map (some bm), .map (some bl), .slice none 0 0] 56)
  have g : ∀ j, (w3.alloc (.cells #[.map (some bm), .map (some bl), .slice none 0 0] 56)).cell? ⟨w3.heap.size, j, none⟩ = (#[Value.map (some bm), .map (some bl), .slice none 0 0])[j]? := fun j => by
    have := fresh_cell w3 #[.map (some bm), .map (some bl), .slice none 0 0] 56 j; rwa [addr0] at this
  have hbm : bm < w2.heap.size := by obtain ⟨S', hS⟩ := hsh.map; exact hS.lt
  have hu := hs4.under
  have ho2 : ∀ y k, (sv y).ownBlock = some k → bm + 1 ≤ k ∧ k < bl := fun y k hk => by
    have h1 := (hsh.rows y).lt k hk
    have := hsh.under
    omega
  exact { c0 := g 0, c1 := g 1, c2 := g 2, f2 := World.frozen?_alloc_at _ _ _ _ rfl, map := hs4.map, rows := fun y _ => base_less (hs4.rows y) hu, cur := base_less (hs4.rows it) hu, home := rfl, apart := hs4.apart, left := hq.alloc _, uses := World.ownsRow_nil _ _ _ _, o1 := Nat.lt_succ_self _, o2 := ho2, o3 := by omega, o4 := hq.lt, o5 := by simp }
theorem placesAt {w : World} {base g n cap : Nat} {P : List Nat} (h : w.ownsRow base 3 1 (.slice (some ⟨g, 0, none⟩) n cap) n (ncells (P.map (fun i : Nat => (i : Int))))) {k p : Nat} (hk : P[k]? = some p) : w.cell? ⟨g, k, none⟩ = some (.int .i64 (p : Int)) := by
  have hlt := (List.getElem?_eq_some_iff.1 hk).1
  have hl := h.1
  simp only [ncells, List.length_map, Nat.mul_one] at hl
  rw [h.cellAt k (by omega)]
  simp [ncells, hk]
/-- One want is served, or not. -/
theorem take_serv (b : Bool) (bs bm bl base n nl : Nat) (sv : List UInt8 → Value) (uv : Value) (q : Int → Int) (l S : List Lt) (U : List Us) (p : Int) (x : Wt) (w : World)
    (hM : ∀ it, Mid w bs bm bl base n nl sv (fun it => shelfOf S q it) it (sv it) (shelfOf S q it) uv q (fun i => i ∈ l.map Lt.id) U) (hf : ∀ x ∈ S, x.Fits ∧ x.id ∈ l.map Lt.id) (hq : ∀ i, 0 ≤ q i ∧ q i ≤ 1073741824) (hnd : (S.map Lt.id).Nodup) (hS : S.length ≤ 300) (hn : n ≤ 1000000) (hnl : nl ≤ 1000000) (hU : U.length ≤ 10000000)
    (hx : wantB x = true) (hp0 : 0 ≤ p) (hp1 : p ≤ 1000000) (hz : decide ((Fl.takeG Lt.id servesB p x S x.qty q).2.1 = 0) = b) :
    Calls Try.prog 49 #[.pointer (some ⟨bs, 0, none⟩), .int .i64 p, aggW x] w fun e w' => e = .returned (.bool b) ∧ ∃ sv' uv' V,
      (∀ it, Mid w' bs bm bl base (n + 1) nl sv' (fun it => shelfOf S (Fl.takeG Lt.id servesB p x S x.qty q).2.2 it) it (sv' it) (shelfOf S (Fl.takeG Lt.id servesB p x S x.qty q).2.2 it) uv' (Fl.takeG Lt.id servesB p x S x.qty q).2.2 (fun i => i ∈ l.map Lt.id) (U ++ V)) ∧
      Fr w w' bm bs uv uv' ∧ V.map useT = (Fl.takeG Lt.id servesB p x S x.qty q).1 ∧ V.length ≤ 300 := by
  obtain ⟨hx1, hx2, hx3⟩ := wantB_parts hx
  have hsh := shelf_short S q x.item
  refine (take_any bs bm bl base n nl sv (fun it => shelfOf S q it) uv q (fun i => i ∈ l.map Lt.id) U p x w (hM x.item) (shelf_on x.item hf (fun i => (hq i).2)) (shelf_nodup x.item hnd) (Nat.le_trans hsh hS) hn hnl hU (by unfold maxLen; omega) hx2 hx3 hp0 hp1).mono ?_
  rintro e w' ⟨sv', uv', rfl, h1, h2⟩
  obtain ⟨t1, t2, t3, _⟩ := take_shelf p x S x.qty q hnd
  have hsa := shelves_after p x S q hnd
  refine ⟨ret_bool (by rw [← hz]; simp only [t2]), sv', uv', _, fun it => ?_, h2, t1, Nat.le_trans (takeS_uses p x.day _ _ _) (Nat.le_trans hsh hS)⟩
  have h3 := h1 it
  rw [show (fun it => shelfOf S q it) x.item = shelfOf S q x.item from rfl, hsa, t3] at h3
  exact h3
theorem days_get {ws : List Wt} {P : List Nat} (h : Days ws P) {k p : Nat} (hk : P[k]? = some p) : ∃ x, ws[p]? = some x ∧ x ∈ ws := by
  have hm : p ∈ List.range ws.length := h.perm.mem_iff.1 (List.mem_of_getElem? hk)
  have hlt := List.mem_range.1 hm
  exact ⟨ws[p], List.getElem?_eq_getElem hlt, List.getElem_mem hlt⟩
theorem drop_get {P : List Nat} {k p : Nat} (hk : P[k]? = some p) : P.drop k = p :: P.drop (k + 1) := by
  obtain ⟨h1, h2⟩ := List.getElem?_eq_some_iff.1 hk
  rw [List.drop_eq_getElem_cons h1, h2]

/-- What serving answers where there is enough. -/
def ServedTo (l : List Lt) (ws : List Wt) (w : World) (e : Ending) (w' : World) : Prop := ∃ S P, Stab l S ∧ Days ws P ∧ Below w.heap.size w w' ∧
  (((serveRun S ws P (qtyOf l)).2.1 = false ∧ e = noServing) ∨
   ((serveRun S ws P (qtyOf l)).2.1 = true ∧ ∃ bm bl nl uv U, e = .returned (.tuple #[.agg #[.map (some bm), .map (some bl), uv], .bool true]) ∧ (serveRun S ws P (qtyOf l)).1 = List.map useT U ∧
      w'.ownsRow w.heap.size 44 3 uv U.length (ucells U) ∧ IMap (.int .i64 0) w' bl nl (fun i => .int .i64 ((serveRun S ws P (qtyOf l)).2.2 i)) (fun i => i ∈ l.map Lt.id)))
set_option maxHeartbeats 4000000 in
set_option maxRecDepth 100000 in
theorem serve_may (v1 v2 : Value) (l : List Lt) (ws : List Wt) (w : World) (hl : l.length ≤ 1099511627776) (hw : ws.length ≤ 1099511627776) (hs : Sized l) (h1 : LSl w w.heap.size v1 l) (h2 : WSl w w.heap.size v2 ws) (hb : mayB l ws = true) :
    Calls Try.prog 32 #[v1, v2] w (ServedTo l ws w) := by
  obtain ⟨hl3, hw3, hlr, hwr, hnd⟩ := mayB_true hb
  have HV1 := Lib.hid h1
  have HV2 := Lib.hid h2
  have HS := Lib.hid hs
  obtain ⟨A, c, rfl, hc1, hc2, hcz, _⟩ := id h1
  obtain ⟨A2, c2, rfl, hc3, hc4, hcz2, _⟩ := id h2
  have HB := Lib.hid hb
  obtain ⟨W0, hW0⟩ : ∃ W0, W0 = w.alloc (.cells #[.map none, .map none, .slice none 0 0] 56) := ⟨_, rfl⟩
  obtain ⟨b4, hb4, hb4le⟩ : ∃ b4, w.heap.size = b4 ∧ w.heap.size ≤ b4 := ⟨_, rfl, Nat.le_refl _⟩
  have HBL : Hid (Blank W0 b4) := Lib.hid (by rw [hW0, ← hb4]; exact blank_new w)
  have hz : b4 < W0.heap.size := by rw [hW0, ← hb4]; simp
  have HV1' : Hid (LSl W0 W0.heap.size (.slice A l.length c) l) := Lib.hid (by rw [hW0]; exact HV1.out.alloc_ (Nat.le_refl _) _ |>.mono (by simp))
  have HV2' : Hid (WSl W0 W0.heap.size (.slice A2 ws.length c2) ws) := Lib.hid (by rw [hW0]; exact HV2.out.alloc_ (Nat.le_refl _) _ |>.mono (by simp))
  have HW : Hid (Below w.heap.size w W0) := Lib.hid (by rw [hW0]; exact below_alloc1 w _)
  clear h1 h2 hs hb
  go_enter Try.func32, Try.ntmps32
  go_wp2_with fail
  try rw [← hW0]
  try rw [hb4]
  clear hW0 hb4
  go_wp2_with (first
    | (go_at_call 37; ((with_reducible refine (together_any _ _ l ws _ hl hw HS.out HV1'.out HV2'.out).mono ?_); rintro e w1 ⟨rfl, hb1'⟩; rw [HB.out]; have hb1 := Lib.hid hb1'; have HBL1 := Lib.hid (HBL.out.below hb1.out hz); clear hb1'))
    | (go_at_call 47; ((with_reducible refine (byItem_any _ l _ (Nat.le_trans hl3 (by decide)) HS.out (HV1'.out.at_ hb1.out)).mono ?_); rintro e w2 ⟨bm, n, S, sv, base, rfl, hS', hsh', hn', hbm', hb2'⟩; have hS := Lib.hid hS'; have hsh := Lib.hid hsh'; have hb2 := Lib.hid (below_two hb1.out hb2'); have hbm := Lib.hid hbm'; clear hb2' hS' hsh' hbm'))
    | (go_at_call 38; ((with_reducible refine (quantities_any _ l _ hl HS.out (HV1'.out.at_ hb2.out)).mono ?_); rintro e w3 ⟨bl, rfl, hq', hbl', hb3'⟩; have hq := Lib.hid hq'; have hbl := Lib.hid hbl'; have hb3b := Lib.hid hb3'; have hb3 := Lib.hid (below_two hb2.out hb3'); clear hq' hb3' hbl')))
  obtain ⟨bs, hbs, hbsle⟩ : ∃ bs, w3.heap.size = bs ∧ w3.heap.size ≤ bs := ⟨_, rfl, Nat.le_refl _⟩
  obtain ⟨W3, hW3⟩ : ∃ W3, W3 = w3.alloc (.cells #[.map (some bm), .map (some bl), .slice none 0 0] 56) := ⟨_, rfl⟩
  have HQ0 : Hid (∀ i, 0 ≤ qtyOf l i ∧ qtyOf l i ≤ 1073741824) := Lib.hid (fun i => qtyOf_range hlr i)
  have HSF : Hid (∀ x ∈ S, x.Fits ∧ x.id ∈ l.map Lt.id) := Lib.hid (fun x hx => by
    have hm := hS.out.perm.mem_iff.1 hx
    exact ⟨HS.out x hm, List.mem_map_of_mem hm⟩)
  have HND : Hid ((S.map Lt.id).Nodup) := Lib.hid ((hS.out.perm.map Lt.id).nodup_iff.2 hnd)
  have HS3 : Hid (S.length ≤ 300) := Lib.hid (by rw [hS.out.length]; exact hl3)
  have HM0 : Hid (∀ it, Mid W3 bs bm bl (bm + 1) n l.length sv (fun it => shelfOf S (qtyOf l) it) it (sv it) (shelfOf S (qtyOf l) it) (.slice none 0 0) (qtyOf l) (fun i => i ∈ l.map Lt.id) []) := Lib.hid (by
    rw [hW3, ← hbs]
    have hse : (fun it => shelfOf S (qtyOf l) it) = (fun it => ofItem S it) := funext (fun it => shelfOf_all S _ it (fun x hx => by
      have hm := hS.out.perm.mem_iff.1 hx
      rw [qtyOf_mem hnd hm]
      have := lright_qty (hlr x hm); omega))
    have hsh2 : Shelves w2 base bm n sv (fun it => shelfOf S (qtyOf l) it) := by rw [hse]; exact hsh.out
    exact mid_start hsh2 hb3b.out hq.out hbl.out)
  have HB3 : Hid (Below W0.heap.size W0 W3) := Lib.hid (by rw [hW3]; exact hb3.out.alloc hb3.out.size _)
  have hbmW : W0.heap.size ≤ bm := Nat.le_trans hb1.out.size hbm.out
  have HV3 : Hid (WSl W3 W3.heap.size (.slice A2 ws.length c2) ws) := Lib.hid (HV2'.out.at_ HB3.out)
  have hn3 : n ≤ 300 := Nat.le_trans hn' hl3
  have hbsW : bs < W3.heap.size := (HM0.out []).o5
  have hwr' := Lib.hid hwr
  try rw [← hW3]
  try rw [hbs]
  clear hW3 hbs hsh hb2 hbm hq hbl hb3b hb3 hlr hnd hwr hn' hbsle HV1 HV1' HV2 HB hb1 HBL1
  go_wp2_with (go_at_call 48; ((with_reducible refine (byDay_any _ ws _ hw HV3.out).mono ?_); rintro e w4 ⟨g, P, rfl, hP', ho', hb4'⟩; have hP := Lib.hid hP'; have ho := Lib.hid ho'; have hb4 := Lib.hid hb4'; clear hP' ho' hb4'))
  have HM4 : Hid (∀ it, Mid w4 bs bm bl (bm + 1) n l.length sv (fun it => shelfOf S (qtyOf l) it) it (sv it) (shelfOf S (qtyOf l) it) (.slice none 0 0) (qtyOf l) (fun i => i ∈ l.map Lt.id) []) := Lib.hid (fun it => (HM0.out it).still (below_none0 hb4.out))
  have HB4 : Hid (Below W0.heap.size W0 w4) := Lib.hid (HB3.out.trans (hb4.out.mono HB3.out.size))
  have hgs : bs < g := by have := (ho.out.lt g rfl).1; omega
  have hgw : g < w4.heap.size := (ho.out.lt g rfl).2
  have HPA : Hid (∀ (k p : Nat), P[k]? = some p → w4.cell? ⟨g, k, none⟩ = some (.int .i64 (p : Int))) := Lib.hid (fun k p hk => placesAt ho.out hk)
  have hPl : P.length = ws.length := by rw [hP.out.perm.length_eq, List.length_range]
  have HPL := Lib.hid hPl
  have hbmw : bm ≤ w4.heap.size := by have := HM4.out []; have := this.o1; have := (HM4.out []).o3; have := (HM4.out []).o4; have := (HM4.out []).o5; omega
  have HF0 : Hid (Fr w4 w4 bm bs (.slice none 0 0) (.slice none 0 0)) := Lib.hid (Fr.refl _ _ _ _)
  have HFAR : Hid (Far S ws P (qtyOf l) P (qtyOf l) []) := Lib.hid (far_start _ _ _ _)
  clear hPl HM0 HV3 hb4 ho HB3
  go_loopw [22] (fun i wr => ∃ (k n1 : Nat) (sv1 : List UInt8 → Value) (q : Int → Int) (uv : Value) (U : List Us), k ≤ ws.length ∧ i = .int .i64 k ∧
      Hid (Far S ws P (qtyOf l) (P.drop k) q U) ∧ Hid (∀ it, Mid wr bs bm bl (bm + 1) n1 l.length sv1 (fun it => shelfOf S q it) it (sv1 it) (shelfOf S q it) uv q (fun i => i ∈ l.map Lt.id) U) ∧ Hid (Fr w4 wr bm bs (.slice none 0 0) uv) ∧ n1 ≤ 300 + k ∧ Hid (U.length ≤ 300 * k) ∧ Hid (∀ i, 0 ≤ q i ∧ q i ≤ 1073741824))
    (fun i _ => ws.length - (intOf i).toNat)
  case atStart => exact ⟨0, n, sv, qtyOf l, _, [], Nat.zero_le _, rfl, HFAR, HM4, HF0, hn3, Lib.hid (Nat.zero_le _), HQ0⟩
  case round =>
    clear HFAR HM4 HF0 hn3
    obtain ⟨k, n1, sv1, q, uv, U, hk, rfl, HFA, HM, HF, hn1, HU, HQ⟩ := hrel
    have HBr : Hid (Below W0.heap.size W0 wr) := Lib.hid (HB4.out.trans (HF.out.below.mono hbmW))
    have HBLr := Lib.hid (HBL.out.below HBr.out hz)
    by_cases hlt : k < ws.length
    · obtain ⟨p, hp⟩ : ∃ p, P[k]? = some p := ⟨_, List.getElem?_eq_getElem (by rw [HPL.out]; exact hlt)⟩
      obtain ⟨x, hx, hxm⟩ := days_get hP.out hp
      have hplt : p < ws.length := (List.getElem?_eq_some_iff.1 hx).1
      have hcp : wr.cell? ⟨g, k, none⟩ = some (.int .i64 (p : Int)) := (HF.out.cell hgs hgw (by simp [Value.ownBlock]) k).trans (HPA.out k p hp)
      obtain ⟨_, _, he, _, _, _, hLW⟩ := (HV2'.out.below HBr.out)
      cases he
      obtain ⟨ad, rfl, hab, hr0, hr1, hr2⟩ := hLW.rowW hx
      have HX := Lib.hid hx
      have HDG := Lib.hid (drop_get hp)
      have HXB := Lib.hid (hwr'.out x hxm)
      have hgr : g < wr.heap.size := Nat.lt_of_lt_of_le hgw HF.out.below.size
      clear hx hxm hp
      obtain ⟨b, hb⟩ : ∃ b, decide ((Fl.takeG Lt.id servesB p x S x.qty q).2.1 = 0) = b := ⟨_, rfl⟩
      have HZ := Lib.hid hb
      clear hb
      have hU := HU.out
      have hCall := fun (b : Bool) (hz : decide ((Fl.takeG Lt.id servesB p x S x.qty q).2.1 = 0) = b) => take_serv b bs bm bl (bm + 1) n1 l.length sv1 uv q l S U p x wr HM.out HSF.out HQ.out HND.out HS3.out (by omega) (by omega) (by omega) HXB.out (by omega) (by omega) hz
      have HC := Lib.hid hCall
      clear hCall hU
      cases b
      · go_wp2_with (go_at_call 49; ((with_reducible refine (HC.out false HZ.out).mono ?_); rintro e w6 ⟨rfl, sv2, uv2, V, hM6', hF6', hV', hVl'⟩; have hM6 := Lib.hid hM6'; have hF6 := Lib.hid hF6'; have hBL6 := HBL.out.below (HBr.out.trans (hF6'.below.mono hbmW)) hz; obtain ⟨k0, k1, k2, k3, k4, k5⟩ := hBL6; clear hM6' hF6' hV' hVl'))
        (try simp only [Exit.inBlock, Exit.then])
        refine bodyPost_ret (v := .tuple #[.agg #[.map none, .map none, .slice none 0 0], .bool false]) (by rw [results_cell_tmp rfl]; go_simp) rfl ?_
        have hfa := HFA.out
        rw [HDG.out] at hfa
        have hB6 := HBr.out.trans (hF6.out.below.mono hbmW)
        exact ⟨S, P, hS.out, hP.out, (((HW.out.trans (hB6.mono HW.out.size)).setCell (p := ⟨b4, 0, none⟩) hb4le _).setCell (p := ⟨b4, 1, none⟩) hb4le _).setCell (p := ⟨b4, 2, none⟩) hb4le _, .inl ⟨hfa.fail HX.out (of_decide_eq_false HZ.out), rfl⟩⟩
      · go_wp2_with (go_at_call 49; ((with_reducible refine (HC.out true HZ.out).mono ?_); rintro e w6 ⟨rfl, sv2, uv2, V, hM6', hF6', hV', hVl'⟩; have hM6 := Lib.hid hM6'; have hF6 := Lib.hid hF6'; have hV := Lib.hid hV'; have hVl := Lib.hid hVl'; clear hM6' hF6' hV' hVl'))
        go_roundw
        case rel => exact ⟨k + 1, n1 + 1, sv2, _, uv2, U ++ V, by omega, by go_num, Lib.hid (by have hfa := HFA.out; rw [HDG.out] at hfa; exact hfa.step HX.out hV.out (of_decide_eq_true HZ.out) rfl), hM6, Lib.hid (HF.out.trans hF6.out), by omega, Lib.hid (by have := hVl.out; have := HU.out; rw [List.length_append]; omega), Lib.hid (fun i => by have h1 := takeG_range p x S x.qty q (fun i => (HQ.out i).1) i; have := HQ.out i; omega)⟩
        case measure => simp [intOf]; omega
    · obtain rfl : k = ws.length := by omega
      obtain ⟨k0, k1, k2, k3, k4, k5⟩ := HBLr.out
      have hm0 := (HM.out []).c0
      have hm1 := (HM.out []).c1
      have hbsw := (HM.out []).o5
      have ho1 := (HM.out []).o1
      have ho3 := (HM.out []).o3
      have ho4 := (HM.out []).o4
      obtain ⟨Av, cv, rfl, _, _, _⟩ := own_form (HM.out []).uses
      have hm2 := (HM.out []).c2
      go_wp2
      (try simp only [Exit.inBlock, Exit.then])
      refine bodyPost_ret (v := .tuple #[.agg #[.map (some bm), .map (some bl), .slice Av U.length cv], .bool true]) (by rw [results_cell_tmp rfl]; go_simp) rfl ?_
      have hfa := HFA.out
      rw [List.drop_eq_nil_of_le (by rw [HPL.out]; exact Nat.le_refl _)] at hfa
      have hend := hfa.end_
      have hle : w.heap.size ≤ bs + 1 := by have := HW.out.size; omega
      have hbb : b4 < bs + 1 := by omega
      have hbl4 : bl ≠ b4 := by omega
      refine ⟨S, P, hS.out, hP.out, (((HW.out.trans (HBr.out.mono HW.out.size)).setCell (p := ⟨b4, 0, none⟩) hb4le _).setCell (p := ⟨b4, 1, none⟩) hb4le _).setCell (p := ⟨b4, 2, none⟩) hb4le _, .inr ⟨by rw [hend], bm, bl, l.length, _, U, rfl, by rw [hend], ?_, ?_⟩⟩
      · exact base_less (ownsRow_setCell_below (ownsRow_setCell_below (ownsRow_setCell_below (HM.out []).uses (a := ⟨b4, 0, none⟩) hbb _) (a := ⟨b4, 1, none⟩) hbb _) (a := ⟨b4, 2, none⟩) hbb _) hle
      · rw [hend]
        exact (((HM.out []).left.cell (a := ⟨b4, 0, none⟩) hbl4 _).cell (a := ⟨b4, 1, none⟩) hbl4 _).cell (a := ⟨b4, 2, none⟩) hbl4 _
end Go.Proofs.Ytddnfikjfmfhfaa
end
section
/- flow.Fill, flow.Fits. -/
namespace Go.Proofs.Ytddnfikjfmfhfaa
open Go.ChangeShapes Go.WideShapes Go.ChangeAt Go.RowKit Go.Maps
set_option linter.unusedVariables false

/-- What Fill answers where lots and wants may be together. -/
def FilledTo (l : List Lt) (ws : List Wt) (w : World) (e : Ending) (w' : World) : Prop := ∃ S P, Stab l S ∧ Days ws P ∧ Below w.heap.size w w' ∧
  (((serveRun S ws P (qtyOf l)).2.1 = false ∧ e = .returned (.tuple #[.slice none 0 0, .bool false])) ∨
   ((serveRun S ws P (qtyOf l)).2.1 = true ∧ ∃ uv U, e = .returned (.tuple #[uv, .bool true]) ∧ (serveRun S ws P (qtyOf l)).1 = List.map useT U ∧ w'.ownsRow w.heap.size 44 3 uv U.length (ucells U)))
section
variable (v1 v2 : Value) (l : List Lt) (ws : List Wt) (w : World) (hl : l.length ≤ 1099511627776) (hw : ws.length ≤ 1099511627776) (hs : Sized l) (h1 : LSl w w.heap.size v1 l) (h2 : WSl w w.heap.size v2 ws)
include hl hw hs h1 h2
theorem fill_no (hb : mayB l ws = false) : Calls Try.prog 13 #[v1, v2] w fun e w' => e = .returned (.tuple #[.slice none 0 0, .bool false]) ∧ Below w.heap.size w w' := by
  have HC := Lib.hid (serve_no v1 v2 l ws w hl hw hs h1 h2 hb)
  clear hs h1 h2 hb
  go_enter Try.func13, Try.ntmps13
  go_wp2_with fail
  refine HC.out.mono ?_
  rintro e w1 ⟨rfl, hb1'⟩
  have hb1 := Lib.hid hb1'
  clear hb1'
  unfold noServing
  go_wp2
  go_ret2
  exact ⟨rfl, below_two hb1.out (below_alloc1 _ _)⟩
theorem fill_may (hb : mayB l ws = true) : Calls Try.prog 13 #[v1, v2] w (FilledTo l ws w) := by
  have HC := Lib.hid (serve_may v1 v2 l ws w hl hw hs h1 h2 hb)
  clear hs h1 h2 hb
  go_enter Try.func13, Try.ntmps13
  go_wp2_with fail
  refine HC.out.mono ?_
  rintro e w1 ⟨S, P, hS', hP', hb1', h⟩
  have hb1 := Lib.hid hb1'
  have hS := Lib.hid hS'
  have hP := Lib.hid hP'
  clear hb1' hS' hP'
  rcases h with ⟨hr', rfl⟩ | ⟨hr', bm, bl, nl, uv, U, rfl, hu', ho', hq'⟩
  · have hr := Lib.hid hr'
    clear hr'
    unfold noServing
    go_wp2
    go_ret2
    exact ⟨S, P, hS.out, hP.out, below_two hb1.out (below_alloc1 _ _), .inl ⟨hr.out, rfl⟩⟩
  · obtain ⟨Av, cv, rfl, _, _, _⟩ := own_form ho'
    have hr := Lib.hid hr'
    have hu := Lib.hid hu'
    have ho := Lib.hid ho'
    clear hr' hu' ho' hq'
    go_wp2
    go_ret2
    exact ⟨S, P, hS.out, hP.out, below_two hb1.out (below_alloc1 _ _), .inr ⟨hr.out, _, U, rfl, hu.out, ho.out.alloc _⟩⟩
theorem fits_no (hb : mayB l ws = false) : Calls Try.prog 18 #[v1, v2] w fun e w' => e = .returned (.bool false) ∧ Below w.heap.size w w' := by
  have HC := Lib.hid (serve_no v1 v2 l ws w hl hw hs h1 h2 hb)
  clear hs h1 h2 hb
  go_enter Try.func18, Try.ntmps18
  go_wp2_with fail
  refine HC.out.mono ?_
  rintro e w1 ⟨rfl, hb1'⟩
  have hb1 := Lib.hid hb1'
  clear hb1'
  unfold noServing
  go_wp2
  go_ret
  exact ⟨rfl, below_two hb1.out (below_alloc1 _ _)⟩
theorem fits_may (hb : mayB l ws = true) : Calls Try.prog 18 #[v1, v2] w fun e w' => ∃ S P, Stab l S ∧ Days ws P ∧ Below w.heap.size w w' ∧ e = .returned (.bool (serveRun S ws P (qtyOf l)).2.1) := by
  have HC := Lib.hid (serve_may v1 v2 l ws w hl hw hs h1 h2 hb)
  clear hs h1 h2 hb
  go_enter Try.func18, Try.ntmps18
  go_wp2_with fail
  refine HC.out.mono ?_
  rintro e w1 ⟨S, P, hS', hP', hb1', h⟩
  have hb1 := Lib.hid hb1'
  have hS := Lib.hid hS'
  have hP := Lib.hid hP'
  clear hb1' hS' hP'
  rcases h with ⟨hr', rfl⟩ | ⟨hr', bm, bl, nl, uv, U, rfl, hu', ho', hq'⟩
  · have hr := Lib.hid hr'
    clear hr'
    unfold noServing
    go_wp2
    go_ret
    exact ⟨S, P, hS.out, hP.out, below_two hb1.out (below_alloc1 _ _), ret_bool hr.out.symm⟩
  · obtain ⟨Av, cv, rfl, _, _, _⟩ := own_form ho'
    have hr := Lib.hid hr'
    clear hr' hu' ho' hq'
    go_wp2
    go_ret
    exact ⟨S, P, hS.out, hP.out, below_two hb1.out (below_alloc1 _ _), ret_bool hr.out.symm⟩
end
end Go.Proofs.Ytddnfikjfmfhfaa
end
section
/- Serving does just what can be done: no walk. -/
namespace Go.Proofs.Ytddnfikjfmfhfaa
set_option linter.unusedVariables false

/-- Some amounts of the lots serve all wants. -/
def CanAll (l : List Lt) (q : Int → Int) (ws : List Wt) : Prop := Fl.Feas Lt.id servesB Wt.qty l q ws
theorem cmpL_un {a b : Lt} (h : cmpL a b ≤ 0) : a.un ≤ b.un := by
  unfold cmpL at h
  rcases cmpI_cases a.un b.un with ⟨h1, e⟩ | ⟨h1, e⟩ | ⟨h1, e⟩
  · omega
  · rw [e] at h; simp at h
  · omega
theorem all_ahead {S : List Lt} (hS : S.Pairwise (fun a b => a.un ≤ b.un)) : ∀ {W : List Wt}, W.Pairwise (fun a b => a.day ≤ b.day) → Fl.AllAhead servesB S W
  | [], _ => trivial
  | w :: W, h => by
    rw [List.pairwise_cons] at h
    refine ⟨hS.imp (fun {a b} hab ha hb w' hw' ha' => ?_), all_ahead hS h.2⟩
    have hd := h.1 w' hw'
    unfold servesB hasB at *
    simp only [Bool.and_eq_true, decide_eq_true_eq] at ha hb ha' ⊢
    refine ⟨?_, ?_⟩
    · rw [← ha'.1, hb.1, ha.1]
    · omega
theorem places_wants {ws : List Wt} {P : List Nat} (h : P.Perm (List.range ws.length)) : ((atPlaces ws P).map Prod.snd).Perm ws := by
  have e : (atPlaces ws P).map Prod.snd = P.map (fun p => ws.getD p default) := by
    unfold atPlaces; rw [List.map_map]; rfl
  rw [e]
  have e2 : (List.range ws.length).map (fun p => ws.getD p default) = ws := by
    apply List.ext_getElem
    · simp
    · intro i h1 h2
      simp [List.getD_eq_getElem?_getD, List.getElem?_eq_getElem h2]
  have := h.map (fun p => ws.getD p default)
  rwa [e2] at this
theorem places_days {ws : List Wt} {P : List Nat} (h : Days ws P) : ((atPlaces ws P).map Prod.snd).Pairwise (fun a b => a.day ≤ b.day) := by
  have e : (atPlaces ws P).map Prod.snd = P.map (fun p => ws.getD p default) := by
    unfold atPlaces; rw [List.map_map]; rfl
  rw [e, List.pairwise_map]
  refine h.sorted.imp (fun {i j} hij => ?_)
  unfold dayAt at hij
  omega
/-- Serving by days, of what is over first, serves all just if any amounts do. -/
theorem serve_iff {l S : List Lt} {ws : List Wt} {P : List Nat} (hS : Stab l S) (hP : Days ws P) (hb : mayB l ws = true) : (serveRun S ws P (qtyOf l)).2.1 = true ↔ CanAll l (qtyOf l) ws := by
  obtain ⟨_, _, hlr, hwr, hnd⟩ := mayB_true hb
  have hn : (S.map Lt.id).Nodup := (hS.perm.map Lt.id).nodup_iff.2 hnd
  have hW := places_wants hP.perm
  unfold serveRun CanAll
  rw [Fl.runG_iff hn (atPlaces ws P) (qtyOf l) (all_ahead (hS.pairs.imp (fun h => cmpL_un h)) (places_days hP)) (fun x hx => by
      have hm : x.2 ∈ ws := hW.mem_iff.1 (List.mem_map_of_mem hx)
      have := (wantB_parts (hwr _ hm)).2.1; omega) (fun x hx => (qtyOf_range hlr _).1)]
  exact ⟨fun h => (h.perm hW).lots hS.perm, fun h => (h.perm hW.symm).lots hS.perm.symm⟩
/-- What Fits tells. -/
def fitsP (l : List Lt) (ws : List Wt) : Prop := mayB l ws = true ∧ CanAll l (qtyOf l) ws
open Classical in
theorem fits_any (v1 v2 : Value) (l : List Lt) (ws : List Wt) (w : World) (hl : l.length ≤ 1099511627776) (hw : ws.length ≤ 1099511627776) (hs : Sized l) (h1 : LSl w w.heap.size v1 l) (h2 : WSl w w.heap.size v2 ws) :
    Calls Try.prog 18 #[v1, v2] w fun e w' => e = .returned (.bool (decide (fitsP l ws))) ∧ Go.RowKit.Below w.heap.size w w' := by
  by_cases hb : mayB l ws = true
  · refine (fits_may v1 v2 l ws w hl hw hs h1 h2 hb).mono ?_
    rintro e w' ⟨S, P, hS, hP, hbl, rfl⟩
    have hi := serve_iff hS hP hb
    refine ⟨ret_bool ?_, hbl⟩
    cases hr : (serveRun S ws P (qtyOf l)).2.1 with
    | true => rw [decide_eq_true]; exact ⟨hb, hi.1 hr⟩
    | false => rw [decide_eq_false]; exact fun h => by rw [hi.2 h.2] at hr; cases hr
  · refine (fits_no v1 v2 l ws w hl hw hs h1 h2 (by simpa using hb)).mono ?_
    rintro e w' ⟨rfl, hbl⟩
    exact ⟨ret_bool (decide_eq_false (fun h => hb h.1)).symm, hbl⟩
/-- Longer days: each lot in the place of one that serves no more. -/
theorem tot_map {y : Int → Int} {g : Lt → Lt} : ∀ {l : List Lt}, (∀ x ∈ l, (g x).id = x.id) → Fl.tot Lt.id y (l.map g) = Fl.tot Lt.id y l
  | [], _ => rfl
  | x :: r, h => by
    simp only [List.map_cons, Fl.tot]
    rw [h x (by simp), tot_map (fun z hz => h z (by simp [hz]))]
theorem CanAll.longer {l : List Lt} {g : Lt → Lt} (hid : ∀ x ∈ l, (g x).id = x.id) (hsv : ∀ x ∈ l, ∀ w, servesB x w = true → servesB (g x) w = true) : ∀ {q : Int → Int} {ws : List Wt}, CanAll l q ws → CanAll (l.map g) q ws
  | q, [], h => fun x hx => by
    obtain ⟨z, hz, rfl⟩ := List.mem_map.1 hx
    rw [hid z hz]; exact h z hz
  | q, w :: ws, ⟨y, hy, h⟩ => ⟨y, ⟨hy.pos, fun x hx h0 => by
    obtain ⟨z, hz, rfl⟩ := List.mem_map.1 hx
    rw [hid z hz] at h0
    exact hsv z hz w (hy.may z hz h0), by rw [tot_map hid]; exact hy.sum⟩, CanAll.longer hid hsv h⟩
/-- A lot more. -/
theorem CanAll.more {l : List Lt} {m : Lt} (hm : ∀ x ∈ l, x.id ≠ m.id) : ∀ {q q' : Int → Int} {ws : List Wt}, CanAll l q ws → (∀ x ∈ l, q' x.id = q x.id) → 0 ≤ q' m.id → CanAll (l ++ [m]) q' ws
  | q, q', [], h, hq, h0 => fun x hx => by
    rcases List.mem_append.1 hx with hx | hx
    · rw [hq x hx]; exact h x hx
    · simp only [List.mem_singleton] at hx; subst hx; exact h0
  | q, q', w :: ws, ⟨y, hy, h⟩, hq, h0 => by
    have ey : ∀ x ∈ l, (if x.id = m.id then 0 else y x.id) = y x.id := fun x hx => if_neg (hm x hx)
    refine ⟨fun i => if i = m.id then 0 else y i, ⟨fun i => ?_, fun x hx hp => ?_, ?_⟩, CanAll.more hm h (fun x hx => ?_) ?_⟩
    · (try simp only); split
      · omega
      · exact hy.pos i
    · rcases List.mem_append.1 hx with hx | hx
      · simp only [ey x hx] at hp; exact hy.may x hx hp
      · simp only [List.mem_singleton] at hx; subst hx; simp at hp
    · have hta : ∀ (a b : List Lt) (y : Int → Int), Fl.tot Lt.id y (a ++ b) = Fl.tot Lt.id y a + Fl.tot Lt.id y b := by
        intro a b y
        induction a with
        | nil => simp [Fl.tot]
        | cons z r ih => simp only [List.cons_append, Fl.tot]; rw [ih]; omega
      rw [hta, Fl.tot_congr Lt.id ey]
      simp [Fl.tot]
      exact hy.sum
    · simp only [ey x hx, hq x hx]
    · simp; exact h0
end Go.Proofs.Ytddnfikjfmfhfaa
end
section
/- Whether uses serve wants, use by use: no walk. -/
namespace Go.Proofs.Ytddnfikjfmfhfaa
open Go.ChangeShapes Go.WideShapes Go.ChangeAt Go.RowKit Go.Maps
set_option linter.unusedVariables false
/-- One use of a want that is there. -/
def useOk (l : List Lt) (x : Wt) (u : Us) (q : Int → Int) (n : Int) : Bool := servesB (foundL l u.lot) x && !(decide (u.qty < 1) || decide (q u.lot < u.qty) || decide (n < u.qty))
/-- Uses, one behind the other: what is left of the lots, what is still wanted. -/
def checkGo (l : List Lt) (ws : List Wt) : List Us → (Int → Int) → List Int → Bool
  | [], q, nd => nd.all (fun n => !decide (0 < n))
  | u :: r, q, nd =>
    if u.want < 0 ∨ (ws.length : Int) ≤ u.want then false
    else if useOk l (ws.getD u.want.toNat default) u q (nd.getD u.want.toNat 0) = true then
      checkGo l ws r (Fl.bmp q u.lot (-u.qty)) (nd.set u.want.toNat (nd.getD u.want.toNat 0 - u.qty))
    else false
def checkB (l : List Lt) (ws : List Wt) (us : List Us) : Bool := mayB l ws && checkGo l ws us (qtyOf l) (ws.map Wt.qty)
section
variable {l : List Lt} {ws : List Wt} {us : List Us} {k : Nat} {u : Us} {q : Int → Int} {nd : List Int} {b : Bool}
theorem drop_at {α : Type} {us : List α} {k : Nat} {u : α} (hu : us[k]? = some u) : us.drop k = u :: us.drop (k + 1) := by
  obtain ⟨h1, h2⟩ := List.getElem?_eq_some_iff.1 hu
  rw [List.drop_eq_getElem_cons h1, h2]
theorem check_out (h : checkGo l ws (us.drop k) q nd = b) (hu : us[k]? = some u) (ho : u.want < 0 ∨ (ws.length : Int) ≤ u.want) : b = false := by
  rw [drop_at hu] at h; unfold checkGo at h; rw [if_pos ho] at h; exact h.symm
theorem check_bad (h : checkGo l ws (us.drop k) q nd = b) (hu : us[k]? = some u) {p : Nat} {x : Wt} {n : Int} (hp : u.want = p) (hx : ws[p]? = some x) (hn : nd[p]? = some n) (ho : useOk l x u q n = false) : b = false := by
  rw [drop_at hu] at h; unfold checkGo at h
  have e1 : ws.getD u.want.toNat default = x := by rw [hp]; simp [List.getD_eq_getElem?_getD, hx]
  have e2 : nd.getD u.want.toNat 0 = n := by rw [hp]; simp [List.getD_eq_getElem?_getD, hn]
  rw [e1, e2, ho] at h
  split at h
  · exact h.symm
  · exact h.symm
theorem check_step (h : checkGo l ws (us.drop k) q nd = b) (hu : us[k]? = some u) {p : Nat} {x : Wt} {n : Int} (hp : u.want = p) (hx : ws[p]? = some x) (hn : nd[p]? = some n) (ho : useOk l x u q n = true) :
    checkGo l ws (us.drop (k + 1)) (Fl.bmp q u.lot (-u.qty)) (nd.set p (n - u.qty)) = b := by
  rw [drop_at hu] at h; unfold checkGo at h
  have e1 : ws.getD u.want.toNat default = x := by rw [hp]; simp [List.getD_eq_getElem?_getD, hx]
  have e2 : nd.getD u.want.toNat 0 = n := by rw [hp]; simp [List.getD_eq_getElem?_getD, hn]
  have hlt := (List.getElem?_eq_some_iff.1 hx).1
  rw [e1, e2, ho, if_neg (by omega), if_pos rfl, hp] at h
  simpa using h
end
/-- A use, in a block of its own. -/
def UseAt (w : World) (b : Nat) (x : Us) : Prop := w.cell? ⟨b, 0, none⟩ = some (.int .i64 x.want) ∧ w.cell? ⟨b, 1, none⟩ = some (.int .i64 x.lot) ∧ w.cell? ⟨b, 2, none⟩ = some (.int .i64 x.qty)
theorem UseAt.kept {w w' : World} {b : Nat} {x : Us} (h : UseAt w b x) (hk : ∀ o, w'.cell? ⟨b, o, none⟩ = w.cell? ⟨b, o, none⟩) : UseAt w' b x := ⟨(hk 0).trans h.1, (hk 1).trans h.2.1, (hk 2).trans h.2.2⟩
theorem UseAt.grown {w w' : World} {b : Nat} {x : Us} {row : Option Nat} (h : UseAt w b x) (hb : b < w.heap.size) (hg : w.grownBy w' row) (hne : some b ≠ row) : UseAt w' b x := h.kept (fun o => World.cell?_of_block (hg.block b hb hne))
theorem useAt_new (w : World) (x : Us) : UseAt (w.alloc (.cells #[.int .i64 x.want, .int .i64 x.lot, .int .i64 x.qty] 44)) w.heap.size x := by
  have h := encU_new w x
  have g : ∀ j u, (encU x)[j]? = some u → (w.alloc (.cells #[.int .i64 x.want, .int .i64 x.lot, .int .i64 x.qty] 44)).cell? ⟨w.heap.size, j, none⟩ = some u := fun j u hu => by have := h j u hu; rwa [addr0] at this
  exact ⟨g 0 _ rfl, g 1 _ rfl, g 2 _ rfl⟩
theorem imap_bmp {z : Value} {w : World} {b n : Nat} {q : Int → Int} {a t : Int} {S : Int → Prop} (h : IMap z w b n (updK (fun i => .int .i64 (q i)) a (.int .i64 (q a - t))) S) : IMap z w b n (fun i => .int .i64 (Fl.bmp q a (-t) i)) S := by
  have e : (updK (fun i => Value.int .i64 (q i)) a (.int .i64 (q a - t))) = fun i => Value.int .i64 (Fl.bmp q a (-t) i) := by
    funext i
    by_cases e : i = a
    · subst e; simp [updK, Fl.bmp, Int.sub_eq_add_neg]
    · simp [updK, Fl.bmp, e]
  rw [e] at h; exact h
end Go.Proofs.Ytddnfikjfmfhfaa
end
section
/- slices.IndexFunc, ContainsFunc at []int64, with flow.Check$1. -/
namespace Go.Proofs.Ytddnfikjfmfhfaa
open Go.ChangeShapes Go.WideShapes Go.ChangeAt Go.RowKit
set_option linter.unusedVariables false
theorem more_b (b : Bool) (x : Int) (w : World) (h : decide (0 < x) = b) : Calls Try.prog 43 #[.int .i64 x] w fun e w' => e = .returned (.bool b) ∧ Below w.heap.size w w' := by
  go_enter Try.func43, Try.ntmps43
  go_wp2
  go_ret
  exact ⟨rfl, Below.refl _ _⟩
set_option maxRecDepth 100000 in
set_option maxHeartbeats 1000000 in
theorem indexI_any (A : Option Addr) (c : Nat) (l : List Int) (B : Nat) (w : World) (hB : B ≤ w.heap.size) (hlen : l.length ≤ 1099511627776) (hl : Lies w B A (ncells l)) :
    Calls Try.prog 57 #[.slice A l.length c, .func (.func 43) #[] #[]] w fun e w' => e = .returned (.int .i64 (idxOf (fun n => decide (0 < n)) l)) ∧ Below w.heap.size w w' := by
  have eg := enters_of Try.func43 (by kernel_rfl) rfl
  have HL := Lib.hid hl
  clear hl
  go_enter Try.func57, Try.ntmps57
  go_wp2
  go_loopw [8] (fun i wr => ∃ k : Nat, k ≤ l.length ∧ i = .int .i64 k ∧ Hid ((l.take k).any (fun n => decide (0 < n)) = false) ∧ Hid (Below w.heap.size w wr)) (fun i _ => l.length - (intOf i).toNat)
  case atStart => exact ⟨0, Nat.zero_le _, rfl, Lib.hid (by simp), Lib.hid (Below.refl _ _)⟩
  case round =>
    obtain ⟨k, hk, rfl, HN, HB⟩ := hrel
    by_cases hlt : k < l.length
    · obtain ⟨x, hx⟩ : ∃ x, l[k]? = some x := ⟨_, List.getElem?_eq_getElem hlt⟩
      obtain ⟨ad, rfl, hab, hx0⟩ := (HL.out.below (HB.out.mono hB)).get (j := k) (u := .int .i64 x) (by simp [ncells, hx])
      have HX := Lib.hid hx
      clear hx
      cases hpx : decide (0 < x)
      · have HC := Lib.hid (fun W => more_b false x W hpx)
        have hst : Hid ((l.take (k + 1)).any (fun n => decide (0 < n)) = false) := Lib.hid (any_take_succ _ HX.out HN.out hpx)
        clear hpx
        go_wp2_with (first | (go_at_fn 43; ((with_reducible refine (HC.out _).mono ?_); rintro e w2 ⟨rfl, hb2'⟩; have hb2 := Lib.hid hb2'; clear hb2')) | (go_at_call 43; ((with_reducible refine (HC.out _).mono ?_); rintro e w2 ⟨rfl, hb2'⟩; have hb2 := Lib.hid hb2'; clear hb2')))
        have hbn := Lib.hid (below_two HB.out hb2.out)
        clear hb2 HC
        go_roundw
        case rel => exact ⟨k + 1, by omega, by go_num, hst, hbn⟩
        case measure => simp [intOf]; omega
      · have HC := Lib.hid (fun W => more_b true x W hpx)
        have HI := Lib.hid (idxOf_hit _ l k x HX.out hpx HN.out)
        clear hpx
        go_wp2_with (first | (go_at_fn 43; ((with_reducible refine (HC.out _).mono ?_); rintro e w2 ⟨rfl, hb2'⟩; have hb2 := Lib.hid hb2'; clear hb2')) | (go_at_call 43; ((with_reducible refine (HC.out _).mono ?_); rintro e w2 ⟨rfl, hb2'⟩; have hb2 := Lib.hid hb2'; clear hb2')))
        go_ret
        exact ⟨by rw [HI.out]; rfl, below_two HB.out hb2.out⟩
    · obtain rfl : k = l.length := by omega
      go_wp2
      go_ret
      exact ⟨by rw [idxOf_none _ l (by have := HN.out; rwa [List.take_of_length_le (Nat.le_refl _)] at this)]; rfl, HB.out⟩
theorem containsI_any (A : Option Addr) (c : Nat) (l : List Int) (B : Nat) (w : World) (hB : B ≤ w.heap.size) (hlen : l.length ≤ 1099511627776) (hl : Lies w B A (ncells l)) :
    Calls Try.prog 42 #[.slice A l.length c, .func (.func 43) #[] #[]] w fun e w' => e = .returned (.bool (l.any (fun n => decide (0 < n)))) ∧ Below w.heap.size w w' := by
  have HC := Lib.hid (indexI_any A c l B w hB hlen hl)
  have HV := Lib.hid (idxOf_any (fun n => decide (0 < n)) l)
  clear hl
  generalize idxOf (fun n => decide (0 < n)) l = r at HC HV
  go_enter Try.func42, Try.ntmps42
  go_wp2_with (go_at_call 57; ((with_reducible refine HC.out.mono ?_); rintro e w2 ⟨rfl, hb2'⟩; have hb2 := Lib.hid hb2'; clear hb2'))
  go_ret
  exact ⟨by rw [← HV.out]; rfl, hb2.out⟩
end Go.Proofs.Ytddnfikjfmfhfaa
end
