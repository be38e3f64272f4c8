/- The chapter's examples hold: awake answers true. -/
import Derived.Test.YtcdjefbeillfmaaGreatDoorCGet2
import Derived.Test.YtcdjefbeillfmaaGreatDoorCNum
namespace Go.Proofs.YtcdjefbeillfmaaGreatDoor
open Go.ChangeShapes Go.WideShapes Go.ChangeAt Go.RowKit Go.Shelf Go.Sort
set_option linter.unusedVariables false
set_option maxRecDepth 100000

theorem itoa_m5 : Lib.itoa (-5) = [45, 53] := by simp [Lib.itoa, Lib.decDigits]
theorem itoa_m12 : Lib.itoa (-12) = [45, 49, 50] := by simp [Lib.itoa, Lib.decDigits]
theorem num_m5 : numL [45, 53] = some (-5) := by
  have := num_text (n := -5) (by omega) (by omega)
  rwa [itoa_m5] at this

theorem get_lit (v : Value) (w : World) (hv : BSl w w.heap.size v [2, 65, 66, 9]) :
    Calls Tryz.prog 7 #[v] w fun e w' => e = .returned (.tuple #[.string ⟨#[65, 66]⟩, .int .i64 3, .bool true]) ∧ Below w.heap.size w w' :=
  (get_any v _ _ w hv (Nat.le_refl _) (by simp)).mono fun e w' ⟨he, hb⟩ => ⟨he.trans rfl, hb⟩
theorem number_lit (w : World) (hv : Vars w) : Calls Tryz.prog 16 #[.string ⟨#[45, 53]⟩] w fun e w' => e = .returned (.tuple #[.int .i64 (-5), .bool true]) ∧ Below w.heap.size w w' :=
  (number_any ⟨#[45, 53]⟩ w hv (by simp [ByteArray.size])).mono fun e w' ⟨he, hb⟩ => ⟨he.trans (ret_ib (by show (numL [45, 53]).getD 0 = _; rw [num_m5]; rfl) (by show (numL [45, 53]).isSome = _; rw [num_m5]; rfl)), hb⟩
theorem right_kit (w : World) : Calls Tryz.prog 15 #[.string ⟨#[75, 73, 84, 45, 55]⟩] w fun e w' => e = .returned (.bool true) ∧ Below w.heap.size w w' :=
  (right_any _ w).mono fun e w' ⟨he, hb⟩ => ⟨he.trans (ret_bool (by decide)), hb⟩
theorem right_7a (w : World) : Calls Tryz.prog 15 #[.string ⟨#[55, 65]⟩] w fun e w' => e = .returned (.bool false) ∧ Below w.heap.size w w' :=
  (right_any _ w).mono fun e w' ⟨he, hb⟩ => ⟨he.trans (ret_bool (by decide)), hb⟩
theorem right_none (w : World) : Calls Tryz.prog 15 #[.string ⟨#[]⟩] w fun e w' => e = .returned (.bool false) ∧ Below w.heap.size w w' :=
  (right_any _ w).mono fun e w' ⟨he, hb⟩ => ⟨he.trans (ret_bool (by decide)), hb⟩
theorem put_lit (w : World) : Calls Tryz.prog 12 #[.string ⟨#[65, 66]⟩] w (Bytes [2, 65, 66] w) :=
  (put_any ⟨#[65, 66]⟩ w).mono fun e w' h => by
    have e1 : putL (⟨#[65, 66]⟩ : ByteArray).data.toList = [2, 65, 66] := by decide
    rwa [e1] at h
theorem text_lit (w : World) (hv : Vars w) : Calls Tryz.prog 17 #[.int .i64 (-12)] w fun e w' => e = .returned (.string ⟨#[45, 49, 50]⟩) ∧ Below w.heap.size w w' :=
  (text_any (-12) w hv (by omega) (by omega)).mono fun e w' ⟨he, hb⟩ => ⟨he.trans (by rw [itoa_m12]), hb⟩

set_option maxHeartbeats 2000000 in
theorem awake_any (w : World) (hv : Vars w) : Calls Tryz.prog 5 #[] w fun e w' => e = .returned (.bool true) ∧ Below w.heap.size w w' := by
  have HV := Lib.hid hv
  clear hv
  have hown := World.ownsRow_lit (base := w.heap.size) (e := 5) (size := 1) w #[.int .u8 2, .int .u8 65, .int .u8 66, .int .u8 9] 4 (Nat.le_refl _) (by simp [maxLen]) rfl
  have hbs : BSl (w.alloc (.cells #[.int .u8 2, .int .u8 65, .int .u8 66, .int .u8 9] 5)) (w.alloc (.cells #[.int .u8 2, .int .u8 65, .int .u8 66, .int .u8 9] 5)).heap.size (.slice (some ⟨w.heap.size, 0, none⟩) 4 4) [2, 65, 66, 9] := BSl.own (l := [2, 65, 66, 9]) hown
  have HB := Lib.hid hbs
  have hb0 : Below w.heap.size w (w.alloc (.cells #[.int .u8 2, .int .u8 65, .int .u8 66, .int .u8 9] 5)) := (Below.refl _ w).alloc (Nat.le_refl _) _
  clear hown hbs
  go_enter Tryz.func5, Tryz.ntmps5
  go_wp2_with fail
  refine (get_lit _ _ HB.out).mono ?_
  rintro e w1 ⟨rfl, hb1⟩
  have h1 : Below w.heap.size w w1 := hb0.trans (hb1.mono (by simp))
  have V1 := Lib.hid (HV.out.below h1)
  clear hb1 hb0 HB
  go_wp2_with fail
  refine (number_lit _ V1.out).mono ?_
  rintro e w2 ⟨rfl, hb2⟩
  have h2 : Below w.heap.size w w2 := h1.trans (hb2.mono h1.size)
  clear hb2 h1 V1
  go_wp2_with fail
  refine (right_kit _).mono ?_
  rintro e w3 ⟨rfl, hb3⟩
  have h3 : Below w.heap.size w w3 := h2.trans (hb3.mono h2.size)
  clear hb3 h2
  go_wp2_with fail
  refine (right_7a _).mono ?_
  rintro e w4 ⟨rfl, hb4⟩
  have h4 : Below w.heap.size w w4 := h3.trans (hb4.mono h3.size)
  clear hb4 h3
  go_wp2_with fail
  refine (right_none _).mono ?_
  rintro e w5 ⟨rfl, hb5⟩
  have h5 : Below w.heap.size w w5 := h4.trans (hb5.mono h4.size)
  clear hb5 h4
  go_wp2_with fail
  refine (put_lit _).mono ?_
  rintro e w6 ⟨v6, rfl, hrow6, hb6⟩
  have h6 : Below w.heap.size w w6 := h5.trans (hb6.mono h5.size)
  have hz6 := h6.size
  have hs6 := (BSl.own hrow6).below ((Below.refl _ w6).alloc (Nat.le_refl _) (.cells #[.int .u8 2, .int .u8 65, .int .u8 66] 5))
  have hl6 : BSl (w6.alloc (.cells #[.int .u8 2, .int .u8 65, .int .u8 66] 5)) (w6.alloc (.cells #[.int .u8 2, .int .u8 65, .int .u8 66] 5)).heap.size (.slice (some ⟨w6.heap.size, 0, none⟩) 3 3) [2, 65, 66] :=
    BSl.own (l := [2, 65, 66]) (World.ownsRow_lit (base := w6.heap.size) (e := 5) (size := 1) w6 #[.int .u8 2, .int .u8 65, .int .u8 66] 3 (Nat.le_refl _) (by simp [maxLen]) rfl)
  have h7 : Below w.heap.size w (w6.alloc (.cells #[.int .u8 2, .int .u8 65, .int .u8 66] 5)) := h6.alloc hz6 _
  have S6 := Lib.hid (hs6.mono (by simp : w6.heap.size ≤ (w6.alloc (.cells #[.int .u8 2, .int .u8 65, .int .u8 66] 5)).heap.size))
  have L6 := Lib.hid hl6
  clear hs6 hl6 hb6 h5 hrow6 h6
  go_wp2_with fail
  refine (same_any _ _ _ _ _ _ S6.out L6.out (Nat.le_refl _) (by simp) (by simp)).mono ?_
  rintro e w8 ⟨rfl, hb8⟩
  have h8 : Below w.heap.size w w8 := h7.trans (hb8.mono h7.size)
  have V8 := Lib.hid (HV.out.below h8)
  clear hb8 h7 S6 L6
  go_wp2_with fail
  refine (text_lit _ V8.out).mono ?_
  rintro e w9 ⟨rfl, hb9⟩
  have h9 : Below w.heap.size w w9 := h8.trans (hb9.mono h8.size)
  clear hb9 h8
  go_wp2_with fail
  go_ret
  exact ⟨rfl, h9⟩
end Go.Proofs.YtcdjefbeillfmaaGreatDoor
