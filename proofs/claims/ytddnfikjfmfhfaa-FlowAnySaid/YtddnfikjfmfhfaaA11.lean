/- Texts of this proof, one behind the other. -/
import Derived.Laws.StructEq
import Derived.Deep.QuietTactic
import Derived.BigQuiet
import Derived.Test.YtddnfikjfmfhfaaA10
import Derived.Test.YtddnfikjfmfhfaaA03
import Derived.Test.YtddnfikjfmfhfaaA09
import Derived.Test.YtddnfikjfmfhfaaA08
import Derived.Test.YtddnfikjfmfhfaaA00
section
/- A way that brings more, step by step: no walk. -/
namespace Go.Proofs.Ytddnfikjfmfhfaa
set_option linter.unusedVariables false
def upd2 (h : Nat → Nat → Int) (v k : Nat) (t : Int) : Nat → Nat → Int := fun u j => if u = v ∧ j = k then h u j + t else h u j
theorem upd2_same (h : Nat → Nat → Int) (v k : Nat) (t : Int) : upd2 h v k t v k = h v k + t := by simp [upd2]
theorem upd2_row (h : Nat → Nat → Int) (v k : Nat) (t : Int) {u : Nat} (j : Nat) (hu : u ≠ v) : upd2 h v k t u j = h u j := by simp [upd2, hu]
theorem upd2_col (h : Nat → Nat → Int) (v k : Nat) (t : Int) (u : Nat) {j : Nat} (hj : j ≠ k) : upd2 h v k t u j = h u j := by simp [upd2, hj]
theorem sum_col (h : Nat → Nat → Int) {v : Nat} (k : Nat) (t : Int) {M : Nat} (hv : v < M) (k' : Nat) : sumN (fun u => upd2 h v k t u k') M = sumN (fun u => h u k') M + (if k' = k then t else 0) := by
  by_cases e : k' = k
  · subst e
    have h1 := sumN_upd (fun u => h u k') v t M
    rw [if_pos hv] at h1
    rw [if_pos rfl, ← h1]
    exact sumN_congr (fun u _ => by by_cases e : u = v <;> simp [upd2, e])
  · rw [if_neg e, Int.add_zero]
    exact sumN_congr (fun u _ => upd2_col h v k t u e)
theorem sum_row (h : Nat → Nat → Int) (v : Nat) {k : Nat} (t : Int) {N : Nat} (hk : k < N) (u : Nat) : sumN (fun j => upd2 h v k t u j) N = sumN (fun j => h u j) N + (if u = v then t else 0) := by
  by_cases e : u = v
  · subst e
    have h1 := sumN_upd (fun j => h u j) k t N
    rw [if_pos hk] at h1
    rw [if_pos rfl, ← h1]
    exact sumN_congr (fun j _ => by by_cases e : j = k <;> simp [upd2, e])
  · rw [if_neg e, Int.add_zero]
    exact sumN_congr (fun j _ => upd2_row h v k t j e)
/-- Which lot a want was come to by, which want a lot: every way back ends at the want w. -/
def Ways (l : List Lt) (ws : List Wt) (w : Nat) (h : Nat → Nat → Int) (f b : Nat → Int) (G : Nat → Prop) (rk : Nat → Nat) : Prop :=
  ∀ v, G v → v < ws.length ∧ ((b v < 0 ∧ v = w) ∨ ∃ k : Nat, b v = (k : Int) ∧ k < l.length ∧ 0 < h v k ∧ ∃ v' : Nat, f k = (v' : Int) ∧ rk v' < rk v ∧ G v' ∧ svAt l ws k v' = true)
/-- The lots along the way back from e. -/
def wayK (f b : Nat → Int) (e : Nat) : Nat → Nat
  | 0 => e
  | i + 1 => (b (f (wayK f b e i)).toNat).toNat
def wayV (f b : Nat → Int) (e : Nat) (i : Nat) : Nat := (f (wayK f b e i)).toNat
/-- The i-th lot of the way is a lot that was come to by a want. -/
def Step (l : List Lt) (ws : List Wt) (f b : Nat → Int) (G : Nat → Prop) (e i : Nat) : Prop :=
  wayK f b e i < l.length ∧ f (wayK f b e i) = (wayV f b e i : Int) ∧ G (wayV f b e i) ∧ svAt l ws (wayK f b e i) (wayV f b e i) = true
section
variable {l : List Lt} {ws : List Wt} {w : Nat} {h : Nat → Nat → Int} {f b : Nat → Int} {G : Nat → Prop} {rk : Nat → Nat} {e i : Nat}
theorem step_start (he : e < l.length) {v0 : Nat} (hf : f e = (v0 : Int)) (hg : G v0) (hs : svAt l ws e v0 = true) : Step l ws f b G e 0 := by
  have hv : wayV f b e 0 = v0 := by unfold wayV wayK; rw [hf]; simp
  refine ⟨he, ?_, ?_, ?_⟩
  · rw [hv]; exact hf
  · rw [hv]; exact hg
  · rw [hv]; exact hs
theorem step_next (hw : Ways l ws w h f b G rk) (hs : Step l ws f b G e i) (hb : 0 ≤ b (wayV f b e i)) :
    b (wayV f b e i) = (wayK f b e (i + 1) : Int) ∧ 0 < h (wayV f b e i) (wayK f b e (i + 1)) ∧ Step l ws f b G e (i + 1) ∧ rk (wayV f b e (i + 1)) < rk (wayV f b e i) := by
  obtain ⟨h1, h2, h3, h4⟩ := hs
  obtain ⟨hv, hh⟩ := hw _ h3
  rcases hh with ⟨hn, _⟩ | ⟨k, hk, hkl, hp, v', hf, hr, hg, hsv⟩
  · omega
  · have e1 : wayK f b e (i + 1) = k := by
      show (b (f (wayK f b e i)).toNat).toNat = k
      have : (f (wayK f b e i)).toNat = wayV f b e i := rfl
      rw [this, hk]; simp
    have e2 : wayV f b e (i + 1) = v' := by unfold wayV; rw [e1, hf]; simp
    rw [e1, e2]
    refine ⟨hk, hp, ⟨by rw [e1]; exact hkl, by rw [e1, e2]; exact hf, by rw [e2]; exact hg, by rw [e1, e2]; exact hsv⟩, hr⟩
theorem step_end (hw : Ways l ws w h f b G rk) (hs : Step l ws f b G e i) (hb : b (wayV f b e i) < 0) : wayV f b e i = w := by
  obtain ⟨hv, hh⟩ := hw _ hs.2.2.1
  rcases hh with ⟨_, h⟩ | ⟨k, hk, _⟩
  · exact h
  · omega
end
/-- So far the way has been gone, forth: at the i-th lot m is lacking. -/
structure Mid2 (l : List Lt) (ws : List Wt) (h h2 : Nat → Nat → Int) (left2 : Nat → Int) (f b : Nat → Int) (rk : Nat → Nat) (e i : Nat) (m : Int) : Prop where
  pos : ∀ u k, u < ws.length → k < l.length → 0 ≤ h2 u k
  may : ∀ u k, u < ws.length → k < l.length → 0 < h2 u k → svAt l ws k u = true
  same : ∀ u k, rk u ≤ rk (wayV f b e i) → h2 u k = h u k
  lft : ∀ k, k < l.length → 0 ≤ left2 k
  col : ∀ k, k < l.length → left2 k + sumN (fun u => h2 u k) ws.length = (lotAt l k).qty - (if k = wayK f b e i then m else 0)
  row : ∀ u, u < ws.length → sumN (fun k => h2 u k) l.length = sumN (fun k => h u k) l.length
section
variable {l : List Lt} {ws : List Wt} {w : Nat} {need m : Int} {h h2 : Nat → Nat → Int} {left left2 : Nat → Int} {f b : Nat → Int} {G : Nat → Prop} {rk : Nat → Nat} {e i : Nat}
theorem mid2_start (hh : Has l ws w need h left) (hm0 : 0 ≤ m) (hml : m ≤ left e) : Mid2 l ws h h (fun k => if k = e then left k - m else left k) f b rk e 0 m := by
  refine ⟨hh.pos, hh.may, fun u k _ => rfl, fun k hk => ?_, fun k hk => ?_, fun u hu => rfl⟩
  · have := hh.lft k hk
    split
    · rename_i e'; subst e'; omega
    · exact this
  · have := hh.col k hk
    show (if k = e then left k - m else left k) + _ = _ - (if k = e then m else 0)
    split <;> omega
theorem Mid2.next (hw : Ways l ws w h f b G rk) (hs : Step l ws f b G e i) (hb : 0 ≤ b (wayV f b e i)) (hm0 : 0 ≤ m) (hmh : m ≤ h (wayV f b e i) (wayK f b e (i + 1))) (hM : Mid2 l ws h h2 left2 f b rk e i m) :
    Mid2 l ws h (upd2 (upd2 h2 (wayV f b e i) (wayK f b e i) m) (wayV f b e i) (wayK f b e (i + 1)) (-m)) left2 f b rk e (i + 1) m := by
  obtain ⟨hbk, hp, hs2, hrk⟩ := step_next hw hs hb
  have hv := (hw _ hs.2.2.1).1
  have hne : wayK f b e (i + 1) ≠ wayK f b e i := fun e' => by
    have : wayV f b e (i + 1) = wayV f b e i := by unfold wayV; rw [e']
    rw [this] at hrk; omega
  have hk1 := hs.1
  have hk2 := hs2.1
  refine ⟨fun u k hu hk => ?_, fun u k hu hk hpos => ?_, fun u k hr => ?_, hM.lft, fun k hk => ?_, fun u hu => ?_⟩
  · have h0 := hM.pos u k hu hk
    by_cases e1 : u = wayV f b e i
    · subst e1
      by_cases e2 : k = wayK f b e (i + 1)
      · subst e2
        rw [upd2_same, upd2_col _ _ _ _ _ hne, hM.same _ _ (Nat.le_refl _)]; omega
      · rw [upd2_col _ _ _ _ _ e2]
        by_cases e3 : k = wayK f b e i
        · subst e3; rw [upd2_same]; omega
        · rw [upd2_col _ _ _ _ _ e3]; exact h0
    · rw [upd2_row _ _ _ _ _ e1, upd2_row _ _ _ _ _ e1]; exact h0
  · by_cases e1 : u = wayV f b e i
    · subst e1
      by_cases e3 : k = wayK f b e i
      · subst e3; exact hs.2.2.2
      · by_cases e2 : k = wayK f b e (i + 1)
        · subst e2
          rw [upd2_same, upd2_col _ _ _ _ _ hne] at hpos
          exact hM.may _ _ hu hk (by omega)
        · rw [upd2_col _ _ _ _ _ e2, upd2_col _ _ _ _ _ e3] at hpos
          exact hM.may _ _ hu hk hpos
    · rw [upd2_row _ _ _ _ _ e1, upd2_row _ _ _ _ _ e1] at hpos
      exact hM.may _ _ hu hk hpos
  · have e1 : u ≠ wayV f b e i := fun e' => by subst e'; omega
    rw [upd2_row _ _ _ _ _ e1, upd2_row _ _ _ _ _ e1]
    exact hM.same u k (by omega)
  · rw [sum_col _ _ _ hv, sum_col _ _ _ hv]
    have h0 := hM.col k hk
    by_cases e3 : k = wayK f b e i
    · subst e3
      rw [if_pos rfl] at h0
      rw [if_pos rfl, if_neg (fun h => hne h.symm), if_neg (fun h => hne h.symm)]; omega
    · rw [if_neg e3] at h0
      rw [if_neg e3]
      by_cases e2 : k = wayK f b e (i + 1)
      · rw [if_pos e2, if_pos e2]; omega
      · rw [if_neg e2, if_neg e2]; omega
  · rw [sum_row _ _ _ hk2, sum_row _ _ _ hk1, hM.row u hu]
    by_cases e1 : u = wayV f b e i
    · rw [if_pos e1, if_pos e1]; omega
    · rw [if_neg e1, if_neg e1]; omega
theorem Mid2.end_ (hh : Has l ws w need h left) (hw : Ways l ws w h f b G rk) (hs : Step l ws f b G e i) (hb : b (wayV f b e i) < 0) (hm0 : 0 ≤ m) (hM : Mid2 l ws h h2 left2 f b rk e i m) :
    Has l ws w (need - m) (upd2 h2 (wayV f b e i) (wayK f b e i) m) left2 := by
  have hvw := step_end hw hs hb
  have hv := (hw _ hs.2.2.1).1
  have hk1 := hs.1
  refine ⟨fun u k hu hk => ?_, fun u k hu hk hpos => ?_, hM.lft, fun k hk => ?_, fun u hu => ?_⟩
  · have h0 := hM.pos u k hu hk
    unfold upd2; split <;> omega
  · by_cases e1 : u = wayV f b e i ∧ k = wayK f b e i
    · obtain ⟨rfl, rfl⟩ := e1; exact hs.2.2.2
    · unfold upd2 at hpos; rw [if_neg e1] at hpos
      exact hM.may _ _ hu hk hpos
  · rw [sum_col _ _ _ hv]
    have h0 := hM.col k hk
    by_cases e3 : k = wayK f b e i
    · rw [if_pos e3] at h0 ⊢; omega
    · rw [if_neg e3] at h0 ⊢; omega
  · rw [sum_row _ _ _ hk1, hM.row u hu, hh.row u hu, hvw]
    by_cases h1 : u < w
    · rw [if_pos h1, if_pos h1, if_neg (by omega)]; omega
    · rw [if_neg h1, if_neg h1]
      by_cases h2 : u = w
      · rw [if_pos h2, if_pos h2, if_pos h2]; omega
      · rw [if_neg h2, if_neg h2, if_neg h2]; omega
end
end Go.Proofs.Ytddnfikjfmfhfaa
end
section
/- storemankit.SameLots: are two lists of lots the same? storemanlaw04.count. -/
namespace Go.Proofs.Ytddnfikjfmfhfaa
open Go.ChangeShapes Go.WideShapes Go.ChangeAt Go.RowKit
set_option linter.unusedVariables false

theorem str_eq (a b : List UInt8) : ((⟨a.toArray⟩ : ByteArray).toList == (⟨b.toArray⟩ : ByteArray).toList) = decide (a = b) := by
  rw [ByteArray.toList_eq, ByteArray.toList_eq]
  by_cases h : a = b <;> simp [h]
theorem eq_win (f u f' u' : Int) (w : World) (n : Nat) : (Op.equalIn (n + 2) 40 (.agg #[.int .i64 f, .int .i64 u]) (.agg #[.int .i64 f', .int .i64 u'])).run Try.prog w = .ok (decide (f = f' ∧ u = u')) w := by
  have u2 := Try.underlying3
  have a2 := Try.isAgg3
  have z2 := Try.sizeOf3
  have hS : Try.prog.underlying 40 = some (.struct (Try.prog.fieldsOf 40)) := by kernel_rfl
  have hp : Try.prog.stoodInHeld 40 = false := by kernel_rfl
  rw [run_equalIn_agg w (n + 1) 40 _ _ hS hp]
  simp only [Program.fieldsOf, Try.underlying40]
  go_simp
  by_cases h1 : f = f' <;> by_cases h2 : u = u' <;> simp [h1, h2]
theorem lot_iff (x y : Lt) : x = y ↔ x.id = y.id ∧ x.item = y.item ∧ x.fr = y.fr ∧ x.un = y.un ∧ x.qty = y.qty ∧ x.arr = y.arr :=
  ⟨fun h => by subst h; exact ⟨rfl, rfl, rfl, rfl, rfl, rfl⟩, fun h => Lt.ext_ h.1 h.2.1 h.2.2.1 h.2.2.2.1 h.2.2.2.2.1 h.2.2.2.2.2⟩
theorem dec_lot (x y : Lt) : decide (x = y) = decide (x.id = y.id ∧ x.item = y.item ∧ x.fr = y.fr ∧ x.un = y.un ∧ x.qty = y.qty ∧ x.arr = y.arr) := by congr 1; exact propext (lot_iff x y)
theorem eq_lot (x y : Lt) (w : World) : (Op.equalIn 10000 42 (aggL x) (aggL y)).run Try.prog w = .ok (decide (x = y)) w := by
  have u2 := Try.underlying2
  have a2 := Try.isAgg2
  have z2 := Try.sizeOf2
  have u3 := Try.underlying3
  have a3 := Try.isAgg3
  have z3 := Try.sizeOf3
  have u4 := Try.underlying4
  have a4 := Try.isAgg4
  have z4 := Try.sizeOf4
  have u9 := Try.underlying9
  have a9 := Try.isAgg9
  have z9 := Try.sizeOf9
  have a5 := Try.isAgg40
  have z5 := Try.sizeOf40
  have hS : Try.prog.underlying 42 = some (.struct (Try.prog.fieldsOf 42)) := by kernel_rfl
  have hp : Try.prog.stoodInHeld 42 = false := by kernel_rfl
  have hw := fun f u f' u' w => eq_win f u f' u' w 9997
  rw [show (10000 : Nat) = 9999 + 1 from rfl, run_equalIn_agg w 9999 42 _ _ hS hp]
  simp only [Program.fieldsOf, Try.underlying42]
  go_simp
  have e := dec_lot x y
  rw [e]
  clear hw hS hp u2 a2 z2 u3 a3 z3 u4 a4 z4 u9 a9 z9 a5 z5 e
  by_cases h1 : x.id = y.id
  · by_cases h2 : x.item = y.item
    · by_cases h3 : x.fr = y.fr
      · by_cases h4 : x.un = y.un
        · by_cases h5 : x.qty = y.qty <;> by_cases h6 : x.arr = y.arr <;> simp [h1, h2, h3, h4, h5, h6]
        · simp [h1, h2, h3, h4]
      · simp [h1, h2, h3]
    · simp [h1, h2]
  · simp [h1]
theorem eql_lot (x y : Lt) (w : World) : (binOp .eql 42 (aggL x) (aggL y)).run Try.prog w = .ok (.bool (decide (x = y))) w := by
  rw [run_eql_struct, eq_lot]; rfl
theorem neq_lot (x y : Lt) (w : World) : (binOp .neq 42 (aggL x) (aggL y)).run Try.prog w = .ok (.bool (!decide (x = y))) w := by
  rw [run_neq_struct, eq_lot]; rfl

def sameB (l m : List Lt) : Bool := decide (l = m)
theorem LSl.six {w : World} {B : Nat} {A : Option Addr} {n c : Nat} {l : List Lt} (h : LSl w B (.slice A n c) l) {k : Nat} {x : Lt} (hk : l[k]? = some x) : ∃ ad, A = some ad ∧ ad.block < B ∧ Six w (ad.add (k * 6)) x := by
  obtain ⟨A', c', hv, _, _, _, hl⟩ := h
  injection hv with hA
  subst hA
  exact hl.six hk
/-- A comparison of two lots' values, told once. -/
def CmpRun (b : Bool) (x y : Lt) : Prop := ∀ w, (binOp .neq 42 (.agg #[.int .i64 x.id, .string ⟨x.item.toArray⟩, .int .i64 x.fr, .int .i64 x.un, .int .i64 x.qty, .bool x.arr]) (.agg #[.int .i64 y.id, .string ⟨y.item.toArray⟩, .int .i64 y.fr, .int .i64 y.un, .int .i64 y.qty, .bool y.arr])).run Try.prog w = .ok (.bool b) w

set_option maxHeartbeats 1000000 in
theorem same_any (l m : List Lt) (v1 v2 : Value) (w : World) (h1 : LSl w w.heap.size v1 l) (h2 : LSl w w.heap.size v2 m) (hl : l.length ≤ 1099511627776) (hm : m.length ≤ 1099511627776) :
    Calls Try.prog 19 #[v1, v2] w fun e w' => e = .returned (.bool (sameB l m)) ∧ Below w.heap.size w w' := by
  obtain ⟨A, c, rfl, hc1, hc2, _, hl1⟩ := id h1
  obtain ⟨A', c', rfl, hc1', hc2', _, hl1'⟩ := id h2
  have HV1 := Lib.hid h1
  have HV2 := Lib.hid h2
  clear h1 h2 hl1 hl1'
  by_cases hlen : l.length = m.length
  · have hle1 : l.length ≤ m.length := by omega
    have hle2 : m.length ≤ l.length := by omega
    have hb1 : ((l.length : Int) == (m.length : Int)) = true := by simp [hlen]
    have hb2 : ((l.length : Int) != (m.length : Int)) = false := by simp [hlen]
    have HLEN := Lib.hid hlen
    clear hlen
    go_enter Try.func19, Try.ntmps19
    go_wp2
    clear hb1 hb2
    go_loopw [5] (fun i wr => ∃ k : Nat, k ≤ l.length ∧ i = .int .i64 k ∧ Hid (Below w.heap.size w wr) ∧ Hid (l.take k = m.take k)) (fun i _ => l.length - (intOf i).toNat)
    case atStart => exact ⟨0, Nat.zero_le _, rfl, Lib.hid (Below.refl _ _), Lib.hid rfl⟩
    case round =>
      obtain ⟨k, hk, rfl, HB, HTK⟩ := hrel
      by_cases hlt : k < l.length
      · obtain ⟨x, hx⟩ : ∃ x, l[k]? = some x := ⟨_, List.getElem?_eq_getElem hlt⟩
        obtain ⟨y, hy⟩ : ∃ y, m[k]? = some y := ⟨_, List.getElem?_eq_getElem (by omega)⟩
        obtain ⟨ap, hap, _, hp0, hp1, hp2, hp3, hp4, hp5⟩ := (HV1.out.below HB.out).six hx
        obtain ⟨aq, haq, _, hq0, hq1, hq2, hq3, hq4, hq5⟩ := (HV2.out.below HB.out).six hy
        subst hap haq
        have HX := Lib.hid hx
        have HY := Lib.hid hy
        clear hx hy
        have hltm : k < m.length := by omega
        by_cases hxy : x = y
        · have hne : CmpRun false x y := fun w => by have := neq_lot x y w; simp only [hxy, decide_true, Bool.not_true] at this ⊢; exact this
          unfold CmpRun at hne
          have HXY := Lib.hid hxy
          clear hxy
          go_wp2
          go_quiet (fail)
          go_wp2
          go_roundw
          case rel => exact ⟨k + 1, by omega, by go_num, Lib.hid (below_draws HB.out _), Lib.hid (by rw [List.take_add_one, List.take_add_one, HTK.out, HX.out, HY.out, HXY.out])⟩
          case measure => simp [intOf]; omega
        · have hne : CmpRun true x y := fun w => by have := neq_lot x y w; rw [decide_eq_false hxy] at this; exact this
          unfold CmpRun at hne
          have HXY := Lib.hid hxy
          clear hxy
          go_wp2
          go_quiet (fail)
          go_wp2
          go_ret
          refine ⟨ret_bool ?_, below_draws HB.out _⟩
          symm
          simp only [sameB, decide_eq_false_iff_not]
          intro e
          subst e
          exact HXY.out (Option.some.inj (HX.out.symm.trans HY.out))
      · obtain rfl : k = l.length := by omega
        go_wp2
        go_ret
        refine ⟨ret_bool ?_, HB.out⟩
        have h := HTK.out
        rw [List.take_of_length_le (Nat.le_refl _), List.take_of_length_le (by omega)] at h
        simp [sameB, h]
  · have hb1 : ((l.length : Int) == (m.length : Int)) = false := by simp; omega
    have hb2 : ((l.length : Int) != (m.length : Int)) = true := by simp; omega
    have HLEN := Lib.hid hlen
    clear hlen
    go_enter Try.func19, Try.ntmps19
    go_wp2
    go_ret
    refine ⟨ret_bool ?_, Below.refl _ _⟩
    symm
    simp only [sameB, decide_eq_false_iff_not]
    rintro rfl
    exact HLEN.out rfl
theorem same_yes (l : List Lt) (v1 v2 : Value) (w : World) (h1 : LSl w w.heap.size v1 l) (h2 : LSl w w.heap.size v2 l) (hl : l.length ≤ 1099511627776) :
    Calls Try.prog 19 #[v1, v2] w fun e w' => e = .returned (.bool true) ∧ Below w.heap.size w w' := by
  refine (same_any l l v1 v2 w h1 h2 hl hl).mono ?_
  rintro e w' ⟨rfl, hb⟩
  exact ⟨ret_bool (by simp [sameB]), hb⟩
end Go.Proofs.Ytddnfikjfmfhfaa
end
section
/- An append whose source may be nil (cut out of LSortMath). -/
namespace Go.Proofs.Ytddnfikjfmfhfaa
open Go.ChangeShapes Go.WideShapes Go.ChangeAt Go.RowKit Go.Maps Go.Sort
set_option linter.unusedVariables false
theorem run_append_any {P : Program} (w : World) (base : Nat) (t ty e : TypeId) (i : TypeInfo) (z : Value) (size bytes : Nat) (ht : P.underlying t = some (.slice e)) (hi : P.info? e = some i) (hz : i.zero = some z)
    (hsize : i.size = size) (hby : i.bytes = bytes) (hzs : z.cells.size = size) (hsz : 0 < size) (v : Value) (n : Nat) (xs : List Value) (hown : w.ownsRow base e size v n xs)
    (ao : Option Addr) (m c : Nat) (news : List Value) (hl : news.length = m * size) (h0 : ao = none → m = 0 ∧ c = 0) (hnews : ∀ a, ao = some a → ∀ j u, news[j]? = some u → w.cell? (a.add j) = some u) (h1 : ∀ u ∈ news, u.oneCell' = true)
    (h63 : n + m ≤ maxLen) (hbytes : (n + m) * bytes ≤ 140737488355328) (hbase : base ≤ w.heap.size) :
    ∃ v' w', (Builtin.append_ #[t, t] ty #[v, .slice ao m c]).run P w = .ok v' w' ∧ w'.ownsRow base e size v' (n + m) (xs ++ news) ∧ w.grownBy w' v.ownBlock ∧ (v'.ownBlock = v.ownBlock ∨ v'.ownBlock = some w.heap.size) := by
  cases ao with
  | some a =>
    obtain ⟨v', w', hr, h2, h3, h4, h5⟩ := run_append_own_at (P := P) w base t ty e i z size bytes ht hi hz hsize hby hzs hsz v n xs hown a m c news hl (hnews a rfl) h1 h63 hbytes hbase
    exact ⟨v', w', hr, h2, h3, h5⟩
  | none =>
    obtain ⟨rfl, rfl⟩ := h0 rfl
    have hn : news = [] := List.eq_nil_of_length_eq_zero (by simpa using hl)
    subst hn
    refine ⟨v, w, ?_, by simpa using hown, World.grownBy.refl _ _, .inl rfl⟩
    rcases hown.2 with ⟨rfl, rfl⟩ | ⟨g, cap, cur, rfl, _, _, hnc, _⟩
    · simp [Builtin.append_, run_underlying ht, sizeOf, typeInfo, hi, Builtin.lenOf, Builtin.firstCells]
    · simp [Builtin.append_, run_underlying ht, sizeOf, typeInfo, hi, hnc, storeCells, Builtin.lenOf, Builtin.firstCells]

theorem wpList_append_any {P : Program} (w : World) {ops : Array Oper} {rest : List Oper} {o : Oper} {a : Act} {Q : Exit → Act → World → Prop} (hgd : o.guard = none) (s x : Operand) (t : TypeId)
    (ho : o.op = .call { callee := .builtin .append, args := #[s, x], argTypes := #[t, t] })
    (base : Nat) (e : TypeId) (i : TypeInfo) (z : Value) (size bytes : Nat) (ht : P.underlying t = some (.slice e)) (hi : P.info? e = some i) (hz : i.zero = some z)
    (hsize : i.size = size) (hby : i.bytes = bytes) (hzs : z.cells.size = size) (hsz : 0 < size)
    (v : Value) (n : Nat) (xs : List Value) (hs : a.eval s = v) (hown : w.ownsRow base e size v n xs)
    (ao : Option Addr) (m c : Nat) (news : List Value) (hx : a.eval x = .slice ao m c) (hl : news.length = m * size) (h0 : ao = none → m = 0 ∧ c = 0) (hnews : ∀ a, ao = some a → ∀ j u, news[j]? = some u → w.cell? (a.add j) = some u) (h1 : ∀ u ∈ news, u.oneCell' = true)
    (h63 : n + m ≤ maxLen) (hbytes : (n + m) * bytes ≤ 140737488355328) (hbase : base ≤ w.heap.size)
    (h : ∀ v' w', w'.ownsRow base e size v' (n + m) (xs ++ news) → Hid (w.grownBy w' v.ownBlock) → Hid (v'.ownBlock = v.ownBlock ∨ v'.ownBlock = some w.heap.size) → wpList P ops Q rest (a.put o.dst v') w') : wpList P ops Q (o :: rest) a w := by
  refine wpList_plain hgd fun K hK => ?_
  obtain ⟨v', w', hr, h2, h3, h4⟩ := run_append_any (P := P) w base t o.type e i z size bytes ht hi hz hsize hby hzs hsz v n xs hown ao m c news hl h0 hnews h1 h63 hbytes hbase
  unfold Oper.wp execOp
  simp only [ho, resolve, invoke, builtin, Sem.run_bind, Sem.run_pure, Result.andThen_ok, List.map_toArray, List.map_cons, List.map_nil, hs, hx, hr]
  exact hK _ _ (h v' w' h2 h3 h4)
end Go.Proofs.Ytddnfikjfmfhfaa
end
section
/- storemankit.CopyLots: the lots of a list, in memory of their own. -/
namespace Go.Proofs.Ytddnfikjfmfhfaa
open Go.ChangeShapes Go.WideShapes Go.ChangeAt Go.RowKit
set_option linter.unusedVariables false
theorem lcells_one_ (l : List Lt) : ∀ u ∈ lcells l, u.oneCell' = true := by
  induction l with
  | nil => intro u hu; simp [lcells] at hu
  | cons x r ih =>
    intro u hu
    rcases List.mem_append.1 (show u ∈ encL x ++ lcells r from hu) with h | h
    · exact encL_one x u h
    · exact ih u h
set_option maxRecDepth 100000 in
set_option maxHeartbeats 1000000 in
/-- Copied: the same lots, in a row of its own. -/
theorem copy_any (v : Value) (l : List Lt) (w : World) (hlen : l.length ≤ 1099511627776) (hv : LSl w w.heap.size v l) :
    Calls Try.prog 29 #[v] w fun e w' => ∃ v', e = .returned v' ∧ w'.ownsRow w.heap.size 42 6 v' l.length (lcells l) ∧ Below w.heap.size w w' := by
  obtain ⟨i0, hi, hz0, hz1, hz2⟩ := info_parts infoLot
  have H1 := Lib.hid hi
  have H2 := Lib.hid hz0
  have H3 := Lib.hid hz1
  have H4 := Lib.hid hz2
  obtain ⟨A, c, rfl, hc1, hc2, hcz, hl⟩ := id hv
  have HL : Hid (∀ a, A = some a → ∀ j u, (lcells l)[j]? = some u → w.cell? (a.add j) = some u) := Lib.hid (fun a ha j u hu => by
    obtain ⟨ad, h1, _, h2⟩ := hl.get hu
    rw [h1] at ha; cases ha; exact h2)
  have HCZ : Hid (A = none → l.length = 0 ∧ c = 0) := Lib.hid (fun h => by have := hcz h; omega)
  have HNIL : Hid (w.ownsRow w.heap.size 42 6 (.slice none 0 0) 0 []) := Lib.hid (World.ownsRow_nil _ _ _ _)
  clear hi hz0 hz1 hz2 hl hv
  go_enter Try.func29, Try.ntmps29
  go_wp2_with (at_builtin; refine wpList_append_any _ rfl _ _ 22 rfl w.heap.size 42 i0 _ 6 56 Try.underlying22 H1.out H2.out H3.out H4.out rfl (by decide) _ 0 [] rfl HNIL.out A l.length c (lcells l) rfl (lcells_length l) HCZ.out HL.out (lcells_one_ l) (by unfold maxLen; omega) (by omega) (Nat.le_refl _) ?_; intro v1 w1 hown1 hg1 ha1; have ho1 := Lib.hid hown1; have hG1 := Lib.hid hg1.out; clear hown1 hg1 ha1)
  go_ret
  refine ⟨v1, rfl, ?_, (Below.refl _ _).grown hG1.out (Nat.le_refl _) (fun j hj => by exact absurd hj (by simp [Act.eval, Value.ownBlock]))⟩
  have h := ho1.out
  rw [Nat.zero_add, List.nil_append] at h
  exact h
end Go.Proofs.Ytddnfikjfmfhfaa
end
section
/- FlowMore's three steps: no walk. -/
namespace Go.Proofs.Ytddnfikjfmfhfaa
set_option linter.unusedVariables false
theorem mayB_of {l : List Lt} {ws : List Wt} (h1 : l.length ≤ 300) (h2 : ws.length ≤ 20000) (h3 : ∀ x ∈ l, lrightB x = true) (h4 : ∀ x ∈ ws, wantB x = true) (h5 : (l.map Lt.id).Nodup) : mayB l ws = true := by
  simp only [mayB, Bool.and_eq_true, decide_eq_true_eq, List.all_eq_true]
  exact ⟨⟨h1, h2⟩, h3, h4, h5⟩
theorem fits_less {l : List Lt} {ws : List Wt} {k : Nat} (h : fitsP l ws) (hk : k < ws.length) : fitsP l (ws.take k ++ ws.drop (k + 1)) := by
  obtain ⟨hb, hc⟩ := h
  obtain ⟨h1, h2, h3, h4, h5⟩ := mayB_true hb
  have hp : ws.Perm (ws[k] :: (ws.take k ++ ws.drop (k + 1))) := by
    have e : ws = ws.take k ++ ws[k] :: ws.drop (k + 1) := by rw [← List.drop_eq_getElem_cons hk, List.take_append_drop]
    have := (List.perm_middle (a := ws[k]) (l₁ := ws.take k) (l₂ := ws.drop (k + 1)))
    rw [← e] at this
    exact this
  refine ⟨mayB_of h1 ?_ h3 (fun x hx => h4 x (hp.mem_iff.2 (List.mem_cons_of_mem _ hx))) h5, (Fl.Feas.perm hp hc).less⟩
  have := hp.length_eq
  simp only [List.length_cons] at this
  omega
/-- Longer days for the lot of that number. -/
def longer (i a b : Int) (x : Lt) : Lt := if x.id = i then ⟨x.id, x.item, max (x.fr - b) 0, min (x.un + a) 4001, x.qty, x.arr⟩ else x
theorem longer_id (i a b : Int) (x : Lt) : (longer i a b x).id = x.id := by unfold longer; split <;> rfl
theorem longer_ids (i a b : Int) (l : List Lt) : (l.map (longer i a b)).map Lt.id = l.map Lt.id := by
  rw [List.map_map]; exact List.map_congr_left (fun x _ => longer_id i a b x)
theorem longer_right {i a b : Int} {x : Lt} (ha : 0 ≤ a) (hb : 0 ≤ b) (h : lrightB x = true) : lrightB (longer i a b x) = true := by
  unfold longer
  split
  · unfold lrightB daysB at h ⊢
    simp only [Bool.and_eq_true, decide_eq_true_eq] at h ⊢
    refine ⟨h.1, h.2.1, ?_, h.2.2.2⟩
    omega
  · exact h
theorem longer_serves {i a b : Int} {x : Lt} (ha : 0 ≤ a) (hb : 0 ≤ b) (w : Wt) (h : servesB x w = true) : servesB (longer i a b x) w = true := by
  unfold longer
  split
  · unfold servesB hasB at h ⊢
    simp only [Bool.and_eq_true, decide_eq_true_eq] at h ⊢
    refine ⟨h.1, ?_⟩
    omega
  · exact h
theorem qtyOf_longer {i a b : Int} {l : List Lt} (hn : (l.map Lt.id).Nodup) (j : Int) : qtyOf (l.map (longer i a b)) j = qtyOf l j := by
  have hn' : ((l.map (longer i a b)).map Lt.id).Nodup := by rw [longer_ids]; exact hn
  by_cases hj : j ∈ l.map Lt.id
  · obtain ⟨x, hx, rfl⟩ := List.mem_map.1 hj
    rw [qtyOf_mem hn hx, ← longer_id i a b x, qtyOf_mem hn' (List.mem_map_of_mem hx)]
    unfold longer; split <;> rfl
  · have h1 : qtyOf l j = 0 := by unfold qtyOf; rw [(lastId_none l j).2 hj]
    have h2 : qtyOf (l.map (longer i a b)) j = 0 := by unfold qtyOf; rw [(lastId_none _ j).2 (by rw [longer_ids]; exact hj)]
    rw [h1, h2]
theorem fits_longer {l : List Lt} {ws : List Wt} {i a b : Int} (h : fitsP l ws) (ha : 0 ≤ a) (hb : 0 ≤ b) : fitsP (l.map (longer i a b)) ws := by
  obtain ⟨hm, hc⟩ := h
  obtain ⟨h1, h2, h3, h4, h5⟩ := mayB_true hm
  refine ⟨mayB_of (by rw [List.length_map]; exact h1) h2 (fun x hx => ?_) h4 (by rw [longer_ids]; exact h5), ?_⟩
  · obtain ⟨z, hz, rfl⟩ := List.mem_map.1 hx
    exact longer_right ha hb (h3 z hz)
  · have e : qtyOf (l.map (longer i a b)) = qtyOf l := funext (fun j => qtyOf_longer h5 j)
    rw [e]
    exact CanAll.longer (fun x _ => longer_id i a b x) (fun x _ w hs => longer_serves ha hb w hs) hc
theorem fits_more {l : List Lt} {m : Lt} {ws : List Wt} (h : fitsP l ws) (hm : mayB (l ++ [m]) [] = true) : fitsP (l ++ [m]) ws := by
  obtain ⟨hm0, hc⟩ := h
  obtain ⟨_, h2, _, h4, h5⟩ := mayB_true hm0
  obtain ⟨g1, _, g3, _, g5⟩ := mayB_true hm
  refine ⟨mayB_of g1 h2 g3 h4 g5, CanAll.more (q := qtyOf l) (fun x hx e => ?_) hc (fun x hx => ?_) (qtyOf_range g3 _).1⟩
  · rw [List.map_append, List.nodup_append] at g5
    exact g5.2.2 x.id (List.mem_map_of_mem hx) m.id (by simp) e
  · rw [qtyOf_mem g5 (List.mem_append_left _ hx), qtyOf_mem h5 hx]
theorem check_none (l : List Lt) : checkB l [] [] = mayB l [] := by unfold checkB; simp [checkGo]
end Go.Proofs.Ytddnfikjfmfhfaa
end
section
/- storemanlaw05.awake: the chapter's example. -/
namespace Go.Proofs.Ytddnfikjfmfhfaa
open Go.ChangeShapes Go.WideShapes Go.ChangeAt Go.RowKit Go.Maps
set_option linter.unusedVariables false

def fxL : List Lt := [⟨1, [65], 0, 5, 3, false⟩, ⟨2, [65], 0, 9, 4, false⟩]
def fxW : List Wt := [⟨[65], 7, 2⟩, ⟨[65], 2, 5⟩]
def fxV : List Wt := [⟨[65], 4, 6⟩, ⟨[65], 8, 2⟩]
def fxU : List Us := [⟨1, 1, 3⟩, ⟨1, 2, 2⟩, ⟨0, 2, 2⟩]
theorem Days.unique {ws : List Wt} {P Q : List Nat} (h : Days ws P) (k : Days ws Q) : P = Q := by
  refine List.Perm.eq_of_pairwise (le := fun i j => dayAt ws i < dayAt ws j ∨ (dayAt ws i = dayAt ws j ∧ i < j)) (fun a b _ _ hab hba => ?_) h.sorted k.sorted (h.perm.trans k.perm.symm)
  exfalso; omega
theorem fx_stab {S : List Lt} (h : Stab fxL S) : S = fxL := h.unique (stab_self (by decide))
theorem fx_days : Days fxW [1, 0] := ⟨by decide, by decide⟩
theorem fx_days2 : Days fxV [0, 1] := ⟨by decide, by decide⟩
theorem fx_may : mayB fxL fxW = true := by decide
theorem fx_may2 : mayB fxL fxV = true := by decide
theorem useT_inj : ∀ {U V : List Us}, U.map useT = V.map useT → U = V
  | [], [], _ => rfl
  | [], _ :: _, h => by simp at h
  | _ :: _, [], h => by simp at h
  | a :: U, b :: V, h => by
    simp only [List.map_cons, List.cons.injEq, useT, Prod.mk.injEq] at h
    obtain ⟨⟨h1, h2, h3⟩, h4⟩ := h
    have e : a = b := Us.ext_ h1 h2 h3
    subst e
    rw [useT_inj (U := U) (V := V) h4]
theorem fx_run : (serveRun fxL fxW [1, 0] (qtyOf fxL)).2.1 = true ∧ (serveRun fxL fxW [1, 0] (qtyOf fxL)).1 = fxU.map useT := by decide
theorem fx_run2 : (serveRun fxL fxV [0, 1] (qtyOf fxL)).2.1 = false := by decide
theorem fx_sized : Sized fxL := by
  intro x hx
  simp [fxL] at hx
  rcases hx with rfl | rfl <;> (unfold Lt.Fits; decide)
theorem fill_ex (v1 v2 : Value) (w : World) (h1 : LSl w w.heap.size v1 fxL) (h2 : WSl w w.heap.size v2 fxW) :
    Calls Try.prog 13 #[v1, v2] w fun e w' => ∃ g cap, e = .returned (.tuple #[.slice (some ⟨g, 0, none⟩) 3 cap, .bool true]) ∧ 3 ≤ cap ∧ Below w.heap.size w w' ∧ w.heap.size ≤ g ∧ g < w'.heap.size ∧
      w'.cell? ⟨g, 0, none⟩ = some (.int .i64 1) ∧ w'.cell? ⟨g, 1, none⟩ = some (.int .i64 1) ∧ w'.cell? ⟨g, 2, none⟩ = some (.int .i64 3) ∧
      w'.cell? ⟨g, 3, none⟩ = some (.int .i64 1) ∧ w'.cell? ⟨g, 4, none⟩ = some (.int .i64 2) ∧ w'.cell? ⟨g, 5, none⟩ = some (.int .i64 2) ∧
      w'.cell? ⟨g, 6, none⟩ = some (.int .i64 0) ∧ w'.cell? ⟨g, 7, none⟩ = some (.int .i64 2) ∧ w'.cell? ⟨g, 8, none⟩ = some (.int .i64 2) := by
  refine (fill_may v1 v2 fxL fxW w (by decide) (by decide) fx_sized h1 h2 fx_may).mono ?_
  rintro e w' ⟨S, P, hS, hP, hb, h⟩
  rw [fx_stab hS, hP.unique fx_days] at h
  rcases h with ⟨h, _⟩ | ⟨_, uv, U, rfl, hu, ho⟩
  · rw [fx_run.1] at h; cases h
  · have hU : U = fxU := useT_inj (by rw [← hu, fx_run.2])
    subst hU
    obtain ⟨g, cap, rfl, hg1, hg2, hg3, _⟩ := own_some ho (by decide)
    have c : ∀ j, j < 9 → w'.cell? ⟨g, j, none⟩ = (ucells fxU)[j]? := fun j hj => ho.cellAt j hj
    exact ⟨g, cap, rfl, hg3, hb, hg1, hg2, c 0 (by omega), c 1 (by omega), c 2 (by omega), c 3 (by omega), c 4 (by omega), c 5 (by omega), c 6 (by omega), c 7 (by omega), c 8 (by omega)⟩
theorem fits_ex (v1 v2 : Value) (w : World) (h1 : LSl w w.heap.size v1 fxL) (h2 : WSl w w.heap.size v2 fxV) :
    Calls Try.prog 18 #[v1, v2] w fun e w' => e = .returned (.bool false) ∧ Below w.heap.size w w' := by
  refine (fits_may v1 v2 fxL fxV w (by decide) (by decide) fx_sized h1 h2 fx_may2).mono ?_
  rintro e w' ⟨S, P, hS, hP, hb, rfl⟩
  rw [fx_stab hS, hP.unique fx_days2, fx_run2]
  exact ⟨rfl, hb⟩
abbrev fxLo : Obj := .cells #[.int .i64 1, .string ⟨#[65]⟩, .int .i64 0, .int .i64 5, .int .i64 3, .bool false, .int .i64 2, .string ⟨#[65]⟩, .int .i64 0, .int .i64 9, .int .i64 4, .bool false] 42
abbrev fxWo : Obj := .cells #[.string ⟨#[65]⟩, .int .i64 7, .int .i64 2, .string ⟨#[65]⟩, .int .i64 2, .int .i64 5] 47
abbrev fxVo : Obj := .cells #[.string ⟨#[65]⟩, .int .i64 4, .int .i64 6, .string ⟨#[65]⟩, .int .i64 8, .int .i64 2] 47
theorem fx_l (w : World) : LSl ((w.alloc fxLo).alloc fxWo) ((w.alloc fxLo).alloc fxWo).heap.size (.slice (some ⟨w.heap.size, 0, none⟩) 2 2) fxL := by
  have h : LSl (w.alloc fxLo) (w.heap.size + 1) (.slice (some ⟨w.heap.size, 0, none⟩) 2 2) fxL := ⟨_, 2, rfl, Nat.le_refl _, by simp [maxLen], fun h => (by cases h), Lies.fresh w _ 42 _ rfl⟩
  exact (h.alloc_ (by simp) _).mono (by simp)
theorem fx_w (w : World) : WSl ((w.alloc fxLo).alloc fxWo) ((w.alloc fxLo).alloc fxWo).heap.size (.slice (some ⟨w.heap.size + 1, 0, none⟩) 2 2) fxW := by
  have h : WSl ((w.alloc fxLo).alloc fxWo) ((w.alloc fxLo).heap.size + 1) (.slice (some ⟨(w.alloc fxLo).heap.size, 0, none⟩) 2 2) fxW := ⟨_, 2, rfl, Nat.le_refl _, by simp [maxLen], fun h => (by cases h), Lies.fresh _ _ 47 _ rfl⟩
  simp only [World.size_alloc] at h
  exact h.mono (by simp)
theorem fx_v (w : World) : WSl (w.alloc fxVo) (w.alloc fxVo).heap.size (.slice (some ⟨w.heap.size, 0, none⟩) 2 2) fxV := by
  have h : WSl (w.alloc fxVo) (w.heap.size + 1) (.slice (some ⟨w.heap.size, 0, none⟩) 2 2) fxV := ⟨_, 2, rfl, Nat.le_refl _, by simp [maxLen], fun h => (by cases h), Lies.fresh w _ 47 _ rfl⟩
  exact h.mono (by simp)
set_option maxRecDepth 100000 in
set_option maxHeartbeats 2000000 in
theorem awake_any (w : World) : Calls Try.prog 9 #[] w fun e w' => e = .returned (.bool true) ∧ Below w.heap.size w w' := by
  have HL0 := Lib.hid (fx_l w)
  go_enter Try.func9, Try.ntmps9
  go_wp2_with (first
    | (go_at_call 13; ((with_reducible refine (fill_ex _ _ _ HL0.out (fx_w w)).mono ?_); rintro e w1 ⟨g, cap, rfl, hcap, hb1', hg1, hg2, c0, c1, c2, c3, c4, c5, c6, c7, c8⟩; have hb1 := Lib.hid hb1'; have HL1 := Lib.hid ((HL0.out.at_ hb1').alloc_ (Nat.le_refl _) fxVo); clear hb1'))
    | (go_at_call 18; ((with_reducible refine (fits_ex _ _ _ (HL1.out.mono (by simp)) (fx_v _)).mono ?_); rintro e w2 ⟨rfl, hb2'⟩; have hb2 := Lib.hid hb2'; clear hb2')))
  go_ret
  have a := below_two (below_alloc1 w fxLo) (below_alloc1 (w.alloc fxLo) fxWo)
  exact ⟨rfl, below_two (below_two (below_two a hb1.out) (below_alloc1 w1 fxVo)) hb2.out⟩
end Go.Proofs.Ytddnfikjfmfhfaa
end
section
/- storemankit.Pick: any number brought into a range. -/
namespace Go.Proofs.Ytddnfikjfmfhfaa
open Go.ChangeShapes Go.WideShapes Go.ChangeAt Go.RowKit
set_option linter.unusedVariables false

theorem ret_int {a b : Int} (h : a = b) : Ending.returned (.int .i64 a) = .returned (.int .i64 b) := by rw [h]
/-- Some number from 0 on, below n. -/
def SomeBelow (n : Nat) (w : World) (e : Ending) (w' : World) : Prop := ∃ k : Nat, k < n ∧ e = .returned (.int .i64 (k : Int)) ∧ w = w'
theorem pick_any (x : Int) (n : Nat) (w : World) (h1 : 1 ≤ n) (h2 : n ≤ 1099511627776) (h3 : -9223372036854775808 ≤ x) (h4 : x ≤ 9223372036854775807) :
    Calls Try.prog 27 #[.int .i64 x, .int .i64 (n : Int)] w (SomeBelow n w) := by
  have hr1 := Int.tmod_lt_of_pos x (show (0 : Int) < (n : Int) by omega)
  have hr2 := Int.lt_tmod_of_pos x (show (0 : Int) < (n : Int) by omega)
  have hn0 : ((n : Int) == 0) = false := by simp; omega
  by_cases hneg : x.tmod n < 0
  · go_enter Try.func27, Try.ntmps27
    go_wp2
    go_ret
    exact ⟨(x.tmod n + n).toNat, by omega, ret_int (by rw [Int.toNat_of_nonneg (by omega)]), rfl⟩
  · go_enter Try.func27, Try.ntmps27
    go_wp2
    go_ret
    exact ⟨(x.tmod n).toNat, by omega, ret_int (by rw [Int.toNat_of_nonneg (by omega)]), rfl⟩
theorem pick_k (x : Int) (w : World) (h3 : -9223372036854775808 ≤ x) (h4 : x ≤ 9223372036854775807) :
    Calls Try.prog 27 #[.int .i64 x, .int .i64 1000] w (SomeBelow 1000 w) := pick_any x 1000 w (by omega) (by omega) h3 h4
end Go.Proofs.Ytddnfikjfmfhfaa
end
