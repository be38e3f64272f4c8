/- The law CodeWithin walks through: it answers true at any two texts. -/
import Derived.Test.YtcdjefbeillfmaaDoorCAwake
namespace Go.Proofs.YtcdjefbeillfmaaDoor
open Go.ChangeShapes Go.WideShapes Go.ChangeAt Go.RowKit Go.Shelf Go.Sort
set_option linter.unusedVariables false

theorem right_take (a : ByteArray) (k : Nat) (w : World) (h : rightL a.data.toList = true) (hk : 1 ≤ k) :
    Calls Tryd.prog 9 #[.string (a.extract 0 k)] w fun e w' => e = .returned (.bool true) ∧ Below w.heap.size w w' :=
  (right_any _ w).mono fun e w' ⟨he, hb⟩ => ⟨he.trans (ret_bool (by rw [Lib.extract_data, List.drop_zero, Nat.sub_zero]; exact rightL_take h hk)), hb⟩

theorem right_app (a b : ByteArray) (w : World) (x : Bool) (ha : rightL a.data.toList = true) (hb : rightL b.data.toList = true) (hx : decide (a.size + b.size ≤ 12) = x) :
    Calls Tryd.prog 9 #[.string (a ++ b)] w fun e w' => e = .returned (.bool x) ∧ Below w.heap.size w w' :=
  (right_any _ w).mono fun e w' ⟨he, hw⟩ => ⟨he.trans (ret_bool (by
    have e1 : (a ++ b).data.toList = a.data.toList ++ b.data.toList := by simp [ByteArray.data_append]
    rw [e1, rightL_app ha hb, size_list, size_list, hx])), hw⟩

set_option maxHeartbeats 2000000 in
theorem within_any (a b : ByteArray) (w : World) (hv : Vars w) (hs : a.size ≤ 140737488355327) (hs2 : b.size ≤ 140737488355327) :
    Calls Tryd.prog 5 #[.string a, .string b] w fun e w' => e = .returned (.bool true) ∧ Below w.heap.size w w' := by
  have HV := Lib.hid hv
  clear hv
  cases hra : rightL a.data.toList with
  | false =>
    have hr := fun W => right_any a W
    rw [hra] at hr
    have HR := Lib.hid hr
    clear hr hra
    go_enter Tryd.func5, Tryd.ntmps5
    go_wp2_with fail
    refine (awake_any _ HV.out).mono ?_
    rintro e w1 ⟨rfl, h1⟩
    go_wp2_with fail
    refine (HR.out _).mono ?_
    rintro e w2 ⟨rfl, hb2⟩
    have h2 := h1.trans (hb2.mono h1.size)
    go_wp2_with fail
    go_ret
    exact ⟨rfl, h2⟩
  | true =>
    have hr := fun W => right_any a W
    rw [hra] at hr
    have HR := Lib.hid hr
    have HRA := Lib.hid hra
    have hla : a.size ≤ 12 := by have := (rightL_parts hra).2.1; rwa [size_list] at this
    clear hr hra
    go_enter Tryd.func5, Tryd.ntmps5
    go_wp2_with fail
    refine (awake_any _ HV.out).mono ?_
    rintro e w1 ⟨rfl, h1⟩
    go_wp2_with fail
    refine (HR.out _).mono ?_
    rintro e w2 ⟨rfl, hb2⟩
    have h2 := h1.trans (hb2.mono h1.size)
    clear hb2 h1
    go_wp2_with fail
    go_loopw [5] (fun i wr => ∃ k : Nat, 1 ≤ k ∧ k ≤ a.size + 1 ∧ i = .int .i64 k ∧ Below w.heap.size w wr) (fun i _ => a.size + 1 - (intOf i).toNat)
    case atStart => exact ⟨1, Nat.le_refl _, by omega, rfl, h2⟩
    case round =>
      obtain ⟨k, hk1, hk, rfl, hbr⟩ := hrel
      by_cases hlt : k ≤ a.size
      · go_wp2_with fail
        refine (right_take a k _ HRA.out hk1).mono ?_
        rintro e w3 ⟨rfl, hb3⟩
        have h3 := hbr.trans (hb3.mono hbr.size)
        clear hb3 hbr
        go_wp2_with fail
        go_roundw
        case rel => exact ⟨k + 1, by omega, by omega, by go_num, h3⟩
        case measure => simp [intOf]; omega
      · obtain rfl : k = a.size + 1 := by omega
        cases hrb : rightL b.data.toList with
        | false =>
          have hr := fun W => right_any b W
          rw [hrb] at hr
          have HRB := Lib.hid hr
          clear hr hrb
          go_wp2_with fail
          refine (HRB.out _).mono ?_
          rintro e w3 ⟨rfl, hb3⟩
          have h3 := hbr.trans (hb3.mono hbr.size)
          go_wp2_with fail
          go_ret
          exact ⟨rfl, h3⟩
        | true =>
          have hr := fun W => right_any b W
          rw [hrb] at hr
          have HRB := Lib.hid hr
          have hlb : b.size ≤ 12 := by have := (rightL_parts hrb).2.1; rwa [size_list] at this
          have HB := Lib.hid hrb
          clear hr hrb
          go_wp2_with fail
          refine (HRB.out _).mono ?_
          rintro e w3 ⟨rfl, hb3⟩
          have h3 := hbr.trans (hb3.mono hbr.size)
          clear hb3 hbr
          by_cases h12 : a.size + b.size ≤ 12
          · go_wp2_with fail
            refine (right_app a b _ true HRA.out HB.out (decide_eq_true h12)).mono ?_
            rintro e w4 ⟨rfl, hb4⟩
            have h4 := h3.trans (hb4.mono h3.size)
            go_wp2_with fail
            go_ret
            exact ⟨ret_bool (decide_eq_true (by omega)), h4⟩
          · go_wp2_with fail
            refine (right_app a b _ false HRA.out HB.out (decide_eq_false h12)).mono ?_
            rintro e w4 ⟨rfl, hb4⟩
            have h4 := h3.trans (hb4.mono h3.size)
            go_wp2_with fail
            go_ret
            exact ⟨ret_bool (by rw [decide_eq_false (by omega)]; rfl), h4⟩
end Go.Proofs.YtcdjefbeillfmaaDoor
