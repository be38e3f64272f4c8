/- storemankit.SameLots: are two lists of lots the same? storemanlaw04.count. -/
import Derived.Test.YtdmgnafafafdpaaLOn
import Derived.Laws.StructEq
import Derived.Deep.QuietTactic
import Derived.BigQuiet
namespace Go.Proofs.Ytdmgnafafafdpaa
open Go.ChangeShapes Go.WideShapes Go.ChangeAt Go.RowKit
set_option linter.unusedVariables false

theorem str_eq (a b : List UInt8) : ((⟨a.toArray⟩ : ByteArray).toList == (⟨b.toArray⟩ : ByteArray).toList) = decide (a = b) := by
  rw [ByteArray.toList_eq, ByteArray.toList_eq]
  by_cases h : a = b <;> simp [h]
theorem eq_win (f u f' u' : Int) (w : World) (n : Nat) : (Op.equalIn (n + 2) 23 (.agg #[.int .i64 f, .int .i64 u]) (.agg #[.int .i64 f', .int .i64 u'])).run Try.prog w = .ok (decide (f = f' ∧ u = u')) w := by
  have u2 := Try.underlying3
  have a2 := Try.isAgg3
  have z2 := Try.sizeOf3
  have hS : Try.prog.underlying 23 = some (.struct (Try.prog.fieldsOf 23)) := by kernel_rfl
  have hp : Try.prog.stoodInHeld 23 = false := by kernel_rfl
  rw [run_equalIn_agg w (n + 1) 23 _ _ hS hp]
  simp only [Program.fieldsOf, Try.underlying23]
  go_simp
  by_cases h1 : f = f' <;> by_cases h2 : u = u' <;> simp [h1, h2]
theorem lot_iff (x y : Lt) : x = y ↔ x.id = y.id ∧ x.item = y.item ∧ x.fr = y.fr ∧ x.un = y.un ∧ x.qty = y.qty ∧ x.arr = y.arr :=
  ⟨fun h => by subst h; exact ⟨rfl, rfl, rfl, rfl, rfl, rfl⟩, fun h => Lt.ext_ h.1 h.2.1 h.2.2.1 h.2.2.2.1 h.2.2.2.2.1 h.2.2.2.2.2⟩
theorem eq_lot (x y : Lt) (w : World) : (Op.equalIn 10000 25 (aggL x) (aggL y)).run Try.prog w = .ok (decide (x = y)) w := by
  have u2 := Try.underlying2
  have a2 := Try.isAgg2
  have z2 := Try.sizeOf2
  have u3 := Try.underlying3
  have a3 := Try.isAgg3
  have z3 := Try.sizeOf3
  have u4 := Try.underlying4
  have a4 := Try.isAgg4
  have z4 := Try.sizeOf4
  have u9 := Try.underlying9
  have a9 := Try.isAgg9
  have z9 := Try.sizeOf9
  have a5 := Try.isAgg23
  have z5 := Try.sizeOf23
  have hS : Try.prog.underlying 25 = some (.struct (Try.prog.fieldsOf 25)) := by kernel_rfl
  have hp : Try.prog.stoodInHeld 25 = false := by kernel_rfl
  have hw := fun f u f' u' w => eq_win f u f' u' w 9997
  rw [show (10000 : Nat) = 9999 + 1 from rfl, run_equalIn_agg w 9999 25 _ _ hS hp]
  simp only [Program.fieldsOf, Try.underlying25]
  go_simp
  have e : decide (x = y) = decide (x.id = y.id ∧ x.item = y.item ∧ x.fr = y.fr ∧ x.un = y.un ∧ x.qty = y.qty ∧ x.arr = y.arr) := by congr 1; exact propext (lot_iff x y)
  rw [e]
  clear hw hS hp u2 a2 z2 u3 a3 z3 u4 a4 z4 u9 a9 z9 a5 z5 e
  by_cases h1 : x.id = y.id
  · by_cases h2 : x.item = y.item
    · by_cases h3 : x.fr = y.fr
      · by_cases h4 : x.un = y.un
        · by_cases h5 : x.qty = y.qty <;> by_cases h6 : x.arr = y.arr <;> simp [h1, h2, h3, h4, h5, h6]
        · simp [h1, h2, h3, h4]
      · simp [h1, h2, h3]
    · simp [h1, h2]
  · simp [h1]
theorem eql_lot (x y : Lt) (w : World) : (binOp .eql 25 (aggL x) (aggL y)).run Try.prog w = .ok (.bool (decide (x = y))) w := by
  rw [run_eql_struct, eq_lot]; rfl
theorem neq_lot (x y : Lt) (w : World) : (binOp .neq 25 (aggL x) (aggL y)).run Try.prog w = .ok (.bool (!decide (x = y))) w := by
  rw [run_neq_struct, eq_lot]; rfl

def sameB (l m : List Lt) : Bool := decide (l = m)
theorem LSl.six {w : World} {B : Nat} {A : Option Addr} {n c : Nat} {l : List Lt} (h : LSl w B (.slice A n c) l) {k : Nat} {x : Lt} (hk : l[k]? = some x) : ∃ ad, A = some ad ∧ ad.block < B ∧ Six w (ad.add (k * 6)) x := by
  obtain ⟨A', c', hv, _, _, _, hl⟩ := h
  injection hv with hA
  subst hA
  exact hl.six hk
/-- A comparison of two lots' values, told once. -/
def CmpRun (b : Bool) (x y : Lt) : Prop := ∀ w, (binOp .neq 25 (.agg #[.int .i64 x.id, .string ⟨x.item.toArray⟩, .int .i64 x.fr, .int .i64 x.un, .int .i64 x.qty, .bool x.arr]) (.agg #[.int .i64 y.id, .string ⟨y.item.toArray⟩, .int .i64 y.fr, .int .i64 y.un, .int .i64 y.qty, .bool y.arr])).run Try.prog w = .ok (.bool b) w

set_option maxHeartbeats 1000000 in
theorem same_any (l m : List Lt) (v1 v2 : Value) (w : World) (h1 : LSl w w.heap.size v1 l) (h2 : LSl w w.heap.size v2 m) (hl : l.length ≤ 1099511627776) (hm : m.length ≤ 1099511627776) :
    Calls Try.prog 13 #[v1, v2] w fun e w' => e = .returned (.bool (sameB l m)) ∧ Below w.heap.size w w' := by
  obtain ⟨A, c, rfl, hc1, hc2, _, hl1⟩ := id h1
  obtain ⟨A', c', rfl, hc1', hc2', _, hl1'⟩ := id h2
  have HV1 := Lib.hid h1
  have HV2 := Lib.hid h2
  clear h1 h2 hl1 hl1'
  by_cases hlen : l.length = m.length
  · have hle1 : l.length ≤ m.length := by omega
    have hle2 : m.length ≤ l.length := by omega
    have hb1 : ((l.length : Int) == (m.length : Int)) = true := by simp [hlen]
    have hb2 : ((l.length : Int) != (m.length : Int)) = false := by simp [hlen]
    have HLEN := Lib.hid hlen
    clear hlen
    go_enter Try.func13, Try.ntmps13
    go_wp2
    clear hb1 hb2
    go_loopw [5] (fun i wr => ∃ k : Nat, k ≤ l.length ∧ i = .int .i64 k ∧ Hid (Below w.heap.size w wr) ∧ Hid (l.take k = m.take k)) (fun i _ => l.length - (intOf i).toNat)
    case atStart => exact ⟨0, Nat.zero_le _, rfl, Lib.hid (Below.refl _ _), Lib.hid rfl⟩
    case round =>
      obtain ⟨k, hk, rfl, HB, HTK⟩ := hrel
      by_cases hlt : k < l.length
      · obtain ⟨x, hx⟩ : ∃ x, l[k]? = some x := ⟨_, List.getElem?_eq_getElem hlt⟩
        obtain ⟨y, hy⟩ : ∃ y, m[k]? = some y := ⟨_, List.getElem?_eq_getElem (by omega)⟩
        obtain ⟨ap, hap, _, hp0, hp1, hp2, hp3, hp4, hp5⟩ := (HV1.out.below HB.out).six hx
        obtain ⟨aq, haq, _, hq0, hq1, hq2, hq3, hq4, hq5⟩ := (HV2.out.below HB.out).six hy
        subst hap haq
        have HX := Lib.hid hx
        have HY := Lib.hid hy
        clear hx hy
        have hltm : k < m.length := by omega
        by_cases hxy : x = y
        · have hne : CmpRun false x y := fun w => by have := neq_lot x y w; simp only [hxy, decide_true, Bool.not_true] at this ⊢; exact this
          unfold CmpRun at hne
          have HXY := Lib.hid hxy
          clear hxy
          go_wp2
          go_quiet (fail)
          go_wp2
          go_roundw
          case rel => exact ⟨k + 1, by omega, by go_num, Lib.hid (below_draws HB.out _), Lib.hid (by rw [List.take_add_one, List.take_add_one, HTK.out, HX.out, HY.out, HXY.out])⟩
          case measure => simp [intOf]; omega
        · have hne : CmpRun true x y := fun w => by have := neq_lot x y w; rw [decide_eq_false hxy] at this; exact this
          unfold CmpRun at hne
          have HXY := Lib.hid hxy
          clear hxy
          go_wp2
          go_quiet (fail)
          go_wp2
          go_ret
          refine ⟨ret_bool ?_, below_draws HB.out _⟩
          symm
          simp only [sameB, decide_eq_false_iff_not]
          intro e
          subst e
          exact HXY.out (Option.some.inj (HX.out.symm.trans HY.out))
      · obtain rfl : k = l.length := by omega
        go_wp2
        go_ret
        refine ⟨ret_bool ?_, HB.out⟩
        have h := HTK.out
        rw [List.take_of_length_le (Nat.le_refl _), List.take_of_length_le (by omega)] at h
        simp [sameB, h]
  · have hb1 : ((l.length : Int) == (m.length : Int)) = false := by simp; omega
    have hb2 : ((l.length : Int) != (m.length : Int)) = true := by simp; omega
    have HLEN := Lib.hid hlen
    clear hlen
    go_enter Try.func13, Try.ntmps13
    go_wp2
    go_ret
    refine ⟨ret_bool ?_, Below.refl _ _⟩
    symm
    simp only [sameB, decide_eq_false_iff_not]
    rintro rfl
    exact HLEN.out rfl
theorem same_yes (l : List Lt) (v1 v2 : Value) (w : World) (h1 : LSl w w.heap.size v1 l) (h2 : LSl w w.heap.size v2 l) (hl : l.length ≤ 1099511627776) :
    Calls Try.prog 13 #[v1, v2] w fun e w' => e = .returned (.bool true) ∧ Below w.heap.size w w' := by
  refine (same_any l l v1 v2 w h1 h2 hl hl).mono ?_
  rintro e w' ⟨rfl, hb⟩
  exact ⟨ret_bool (by simp [sameB]), hb⟩
end Go.Proofs.Ytdmgnafafafdpaa
