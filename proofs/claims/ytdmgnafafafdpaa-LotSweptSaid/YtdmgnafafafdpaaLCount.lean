/- storemanlaw04.count: how many lots of a list are this one. -/
import Derived.Test.YtdmgnafafafdpaaLRights
namespace Go.Proofs.Ytdmgnafafafdpaa
open Go.ChangeShapes Go.WideShapes Go.ChangeAt Go.RowKit
set_option linter.unusedVariables false

def cnt (l : List Lt) (x : Lt) : Nat := (l.filter (fun y => decide (y = x))).length
theorem cnt_perm {l m : List Lt} (h : l.Perm m) (x : Lt) : cnt l x = cnt m x := (h.filter _).length_eq
theorem cnt_le (l : List Lt) (x : Lt) : cnt l x ≤ l.length := List.length_filter_le _ _
theorem cnt_succ {l : List Lt} {k : Nat} {y x : Lt} (h : l[k]? = some y) : cnt (l.take (k + 1)) x = cnt (l.take k) x + (if y = x then 1 else 0) := by
  unfold cnt
  rw [filter_take_succ _ h, List.length_append]
  by_cases e : y = x <;> simp [e]
def CmpEq (b : Bool) (x y : Lt) : Prop := ∀ w, (binOp .eql 25 (.agg #[.int .i64 x.id, .string ⟨x.item.toArray⟩, .int .i64 x.fr, .int .i64 x.un, .int .i64 x.qty, .bool x.arr]) (.agg #[.int .i64 y.id, .string ⟨y.item.toArray⟩, .int .i64 y.fr, .int .i64 y.un, .int .i64 y.qty, .bool y.arr])).run Try.prog w = .ok (.bool b) w

set_option maxHeartbeats 1000000 in
theorem count_any (v : Value) (l : List Lt) (x : Lt) (w : World) (hv : LSl w w.heap.size v l) (hlen : l.length ≤ 1048576) :
    Calls Try.prog 14 #[v, .agg #[.int .i64 x.id, .string ⟨x.item.toArray⟩, .int .i64 x.fr, .int .i64 x.un, .int .i64 x.qty, .bool x.arr]] w fun e w' => e = .returned (.int .i64 (cnt l x)) ∧ Below w.heap.size w w' := by
  obtain ⟨A, c, rfl, hc1, hc2, hcz, hl⟩ := id hv
  have HV := Lib.hid hv
  have hbx := Lib.hid (Box6.new w x)
  clear hv hl
  go_enter Try.func14, Try.ntmps14
  go_wp2
  go_loopw [5, 6] (fun n i wr => ∃ k : Nat, k ≤ l.length ∧ i = .int .i64 k ∧ n = .int .i64 (cnt (l.take k) x) ∧ Hid (Below (w.heap.size + 1) (w.alloc (.cells #[.int .i64 x.id, .string ⟨x.item.toArray⟩, .int .i64 x.fr, .int .i64 x.un, .int .i64 x.qty, .bool x.arr] 25)) wr)) (fun _ i _ => l.length - (intOf i).toNat)
  case atStart => exact ⟨0, Nat.zero_le _, rfl, rfl, Lib.hid (Below.refl _ _)⟩
  case round =>
    obtain ⟨k, hk, rfl, rfl, HB⟩ := hrel
    by_cases hlt : k < l.length
    · obtain ⟨y, hy⟩ : ∃ y, l[k]? = some y := ⟨_, List.getElem?_eq_getElem hlt⟩
      obtain ⟨ap, hap, _, hp0, hp1, hp2, hp3, hp4, hp5⟩ := ((HV.out.alloc_ (Nat.le_refl _) _).below (HB.out.mono (by omega))).six hy
      subst hap
      have hb6 : Box6 wr w.heap.size x := (HB.out.block w.heap.size (by omega)).trans hbx.out
      obtain ⟨d0, d1, d2, d3, d4, d5⟩ := hb6.cells
      have hs := Lib.hid (cnt_succ (x := x) hy)
      have hle := Nat.le_trans (cnt_le (l.take k) x) (List.length_take_le _ _)
      have HY := Lib.hid hy
      clear hy hb6
      generalize cnt (l.take k) x = n at hs hle ⊢
      by_cases hyx : y = x
      · have hne : CmpEq true y x := fun w => by have := eql_lot y x w; rw [decide_eq_true hyx] at this; exact this
        unfold CmpEq at hne
        have hsn : Hid (cnt (l.take (k + 1)) x = n + 1) := Lib.hid (by rw [hs.out, if_pos hyx])
        clear hyx hs
        go_wp2
        go_quiet (fail)
        go_wp2
        go_roundw
        case rel => exact ⟨k + 1, by omega, by go_num, by rw [hsn.out]; go_num, Lib.hid (below_draws HB.out _)⟩
        case measure => simp [intOf]; omega
      · have hne : CmpEq false y x := fun w => by have := eql_lot y x w; rw [decide_eq_false hyx] at this; exact this
        unfold CmpEq at hne
        have hsn : Hid (cnt (l.take (k + 1)) x = n) := Lib.hid (by rw [hs.out, if_neg hyx, Nat.add_zero])
        clear hyx hs
        go_wp2
        go_quiet (fail)
        go_wp2
        go_roundw
        case rel => exact ⟨k + 1, by omega, by go_num, by rw [hsn.out], Lib.hid (below_draws HB.out _)⟩
        case measure => simp [intOf]; omega
    · obtain rfl : k = l.length := by omega
      go_wp2
      go_ret
      exact ⟨ret_long (by rw [List.take_length]), (below_alloc1 w _).trans (HB.out.mono (by omega))⟩
end Go.Proofs.Ytdmgnafafafdpaa
