/- The law CodeTexts walks through: it answers true at any text. -/
import Derived.Test.YtcdjefbeillfmaaGreatDoorCAwake
import Derived.Test.YtcdjefbeillfmaaGreatDoorCNref
namespace Go.Proofs.YtcdjefbeillfmaaGreatDoor
open Go.ChangeShapes Go.WideShapes Go.ChangeAt Go.RowKit Go.Shelf Go.Sort
set_option linter.unusedVariables false
set_option maxRecDepth 100000

set_option maxHeartbeats 2000000 in
theorem texts_any (s : ByteArray) (w : World) (hv : Vars w) (hs : s.size ≤ 140737488355327) :
    Calls Tryz.prog 13 #[.string s] w fun e w' => e = .returned (.bool true) ∧ Below w.heap.size w w' := by
  have HV := Lib.hid hv
  clear hv
  by_cases hl : 100000 < s.size
  · go_enter Tryz.func13, Tryz.ntmps13
    go_wp2_with fail
    refine (awake_any _ HV.out).mono ?_
    rintro e w1 ⟨rfl, hb1⟩
    go_wp2_with fail
    go_ret
    exact ⟨rfl, hb1⟩
  · go_enter Tryz.func13, Tryz.ntmps13
    go_wp2_with fail
    refine (number_any s _ HV.out (by omega)).mono ?_
    rintro e w1 ⟨rfl, h1⟩
    go_wp2_with fail
    refine (rnumber_any s _ (by omega)).mono ?_
    rintro e w2 ⟨rfl, rfl⟩
    go_wp2_with fail
    refine (right_any s _).mono ?_
    rintro e w3 ⟨rfl, hb3⟩
    have h3 := h1.trans (hb3.mono h1.size)
    clear hb3 h1
    go_wp2_with fail
    refine (rright_any s _).mono ?_
    rintro e w4 ⟨rfl, rfl⟩
    go_wp2_with fail
    refine (put_any s _).mono ?_
    rintro e w5 ⟨v5, rfl, hrow5, hb5⟩
    have h5 := h3.trans (hb5.mono h3.size)
    have S5 := Lib.hid (BSl.own hrow5)
    clear hb5 h3 hrow5
    go_wp2_with fail
    refine (rput_any s _ (by omega)).mono ?_
    rintro e w6 ⟨v6, rfl, hrow6, hb6⟩
    have h6 := h5.trans (hb6.mono h5.size)
    have hput : (putL s.data.toList).length ≤ 13 := by
      unfold putL
      split
      · rename_i h; have := orNoneL_length h; rw [List.length_cons]; omega
      · simp
    have S6 := Lib.hid (BSl.own hrow6)
    have S5' := Lib.hid ((S5.out.below hb6).mono hb6.size)
    clear hb6 h5 hrow6 S5
    go_wp2_with fail
    refine (same_any _ _ _ _ _ _ S5'.out S6.out (Nat.le_refl _) (by omega) (by omega)).mono ?_
    rintro e w7 ⟨rfl, hb7⟩
    have h7 := h6.trans (hb7.mono h6.size)
    have V7 := Lib.hid (HV.out.below h7)
    clear hb7 h6 S5' S6
    go_wp2_with fail
    refine (awake_any _ V7.out).mono ?_
    rintro e w8 ⟨rfl, hb8⟩
    have h8 := h7.trans (hb8.mono h7.size)
    go_wp2_with fail
    go_ret
    exact ⟨rfl, h8⟩
end Go.Proofs.YtcdjefbeillfmaaGreatDoor
