/- The contracts of code.Right, letter, inner and of the reference's Right. -/
import Derived.Test.YtdmgnafafafdpaaProg
import Derived.Test.YtdmgnafafafdpaaCMath
import Derived.WalkKit
import Derived.ProofKit
import Derived.Lib.Hide
import Derived.Lib.OthersKept
namespace Go.Proofs.Ytdmgnafafafdpaa
open Go.ChangeShapes Go.WideShapes Go.ChangeAt Go.RowKit
set_option linter.unusedVariables false

theorem ret_bool {a b : Bool} (h : a = b) : Ending.returned (.bool a) = .returned (.bool b) := by rw [h]


theorem letter_yes (r : Int) (w : World) (h0 : 65 ≤ r) (h1 : r ≤ 90) : Calls Try.prog 33 #[.int .i32 r] w fun e w' => e = .returned (.bool true) ∧ w = w' := by
  go_enter Try.func33, Try.ntmps33
  go_wp2
  go_ret
  exact ⟨rfl, rfl⟩
theorem letter_no (r : Int) (w : World) (h : ¬ (65 ≤ r ∧ r ≤ 90)) : Calls Try.prog 33 #[.int .i32 r] w fun e w' => e = .returned (.bool false) ∧ w = w' := by
  by_cases h0 : 65 ≤ r
  · have h1 : decide (r ≤ 90) = false := by simp; omega
    clear h
    go_enter Try.func33, Try.ntmps33
    go_wp2
    go_ret
    exact ⟨rfl, rfl⟩
  · have h1 : decide (65 ≤ r) = false := by simpa using h0
    clear h
    go_enter Try.func33, Try.ntmps33
    go_wp2
    go_ret
    exact ⟨rfl, rfl⟩
theorem inner_yes (r : Int) (w : World) (h : (48 ≤ r ∧ r ≤ 57) ∨ r = 45) : Calls Try.prog 34 #[.int .i32 r] w fun e w' => e = .returned (.bool true) ∧ w = w' := by
  rcases h with ⟨h0, h1⟩ | rfl
  · go_enter Try.func34, Try.ntmps34
    go_wp2
    go_ret
    exact ⟨rfl, rfl⟩
  · go_enter Try.func34, Try.ntmps34
    go_wp2
    go_ret
    exact ⟨rfl, rfl⟩
theorem inner_no (r : Int) (w : World) (h : ¬ ((48 ≤ r ∧ r ≤ 57) ∨ r = 45)) : Calls Try.prog 34 #[.int .i32 r] w fun e w' => e = .returned (.bool false) ∧ w = w' := by
  have h45 : (r == 45) = false := by simp; omega
  by_cases h0 : 48 ≤ r
  · have h1 : decide (r ≤ 57) = false := by simp; omega
    clear h
    go_enter Try.func34, Try.ntmps34
    go_wp2
    go_ret
    exact ⟨rfl, rfl⟩
  · have h1 : decide (48 ≤ r) = false := by simpa using h0
    clear h
    go_enter Try.func34, Try.ntmps34
    go_wp2
    go_ret
    exact ⟨rfl, rfl⟩

theorem size_list (s : ByteArray) : s.data.toList.length = s.size := by rw [Array.length_toList]; rfl
theorem get_list (s : ByteArray) (k : Nat) (h : k < s.size) : s.data.toList[k]? = some s[k] := by
  rw [List.getElem?_eq_getElem (by rw [size_list]; exact h)]; rfl
theorem below_iter (w : World) (s : ByteArray) (pos : Nat) : Below w.heap.size w (w.iter s pos) := (Below.refl _ _).alloc (Nat.le_refl _) _

set_option maxHeartbeats 1000000 in
theorem right_any (s : ByteArray) (w : World) :
    Calls Try.prog 19 #[.string s] w fun e w' => e = .returned (.bool (rightL s.data.toList)) ∧ Below w.heap.size w w' := by
  by_cases hs1 : 1 ≤ s.size
  · by_cases hs2 : s.size ≤ 12
    · go_enter Try.func19, Try.ntmps19
      go_wp2_with fail
      go_loopw [] (fun wr => ∃ pos : Nat, pos ≤ s.size ∧ wr = w.iter s pos ∧ Hid (allOk 0 (s.data.toList.take pos) = true)) (fun wr => s.size - wr.iterPos w.heap.size)
      case atStart => exact ⟨0, Nat.zero_le _, rfl, Lib.hid rfl⟩
      case round =>
        obtain ⟨pos, hpos, rfl, HA⟩ := hrel
        by_cases hp : pos < s.size
        · by_cases ha : (s[pos]'hp).toNat < 128
          · have hnx := fun ty => run_next_ascii (P := Try.prog) w s pos ty hp ha
            have hc := get_list s pos hp
            by_cases hu : 65 ≤ (s[pos]'hp).toNat ∧ (s[pos]'hp).toNat ≤ 90
            · have hok : okAt pos s[pos] = true := by simp [okAt, upB, hu]
              have hst := allOk_step HA.out hc hok
              have HST := Lib.hid hst
              clear hst hok hc
              go_wp2_with (go_at_call 33; ((with_reducible refine (letter_yes _ _ (by omega) (by omega)).mono ?_); rintro e w' ⟨rfl, rfl⟩))
              go_roundw
              case rel => exact ⟨pos + 1, by omega, rfl, HST⟩
              case measure => simp only [World.iterPos_iter]; omega
            · by_cases hz : pos = 0
              · subst hz
                have hok : okAt 0 s[0] = false := by simp [okAt, upB]; omega
                have hno := rightL_no hc hok
                have HNO := Lib.hid hno
                clear hno hok hc
                go_wp2_with (go_at_call 33; ((with_reducible refine (letter_no _ _ (by omega)).mono ?_); rintro e w' ⟨rfl, rfl⟩))
                go_ret
                exact ⟨ret_bool HNO.out.symm, below_iter _ _ _⟩
              · have hz1 : ((pos : Int) == 0) = false := by simp; omega
                by_cases hi : (48 ≤ (s[pos]'hp).toNat ∧ (s[pos]'hp).toNat ≤ 57) ∨ (s[pos]'hp).toNat = 45
                · have hok : okAt pos s[pos] = true := by simp [okAt, inB, hz]; right; omega
                  have hst := allOk_step HA.out hc hok
                  have HST := Lib.hid hst
                  have HI := Lib.hid hi
                  have HZ := Lib.hid hz
                  clear hst hok hc hi hz
                  go_wp2_with (first
                    | (go_at_call 33; ((with_reducible refine (letter_no _ _ (by omega)).mono ?_); rintro e w' ⟨rfl, rfl⟩))
                    | (go_at_call 34; ((with_reducible refine (inner_yes _ _ (by have := HI.out; omega)).mono ?_); rintro e w' ⟨rfl, rfl⟩)))
                  go_roundw
                  case rel => exact ⟨pos + 1, by omega, rfl, HST⟩
                  case measure => simp only [World.iterPos_iter]; omega
                · have hok : okAt pos s[pos] = false := by simp [okAt, upB, inB]; omega
                  have hno := rightL_no hc hok
                  have HNO := Lib.hid hno
                  have HI := Lib.hid hi
                  have HZ := Lib.hid hz
                  clear hno hok hc hi hz
                  go_wp2_with (first
                    | (go_at_call 33; ((with_reducible refine (letter_no _ _ (by omega)).mono ?_); rintro e w' ⟨rfl, rfl⟩))
                    | (go_at_call 34; ((with_reducible refine (inner_no _ _ (by have := HI.out; omega)).mono ?_); rintro e w' ⟨rfl, rfl⟩)))
                  go_ret
                  exact ⟨ret_bool HNO.out.symm, below_iter _ _ _⟩
          · have hnx := fun ty => run_next_any (P := Try.prog) w s pos ty hp
            have hc := get_list s pos hp
            obtain ⟨hd1, hd2⟩ := decode_high s pos hp (by omega)
            have hd3 := decode_le s pos
            have hok : okAt pos s[pos] = false := by simp [okAt, upB, inB]; omega
            have hno := rightL_no hc hok
            have HNO := Lib.hid hno
            clear hno hok hc
            generalize (Utf8.decode s pos).1 = r at hnx hd1 hd3
            generalize (Utf8.decode s pos).2 = n at hnx hd2
            by_cases hz : pos = 0
            · subst hz
              go_wp2_with (go_at_call 33; ((with_reducible refine (letter_no _ _ (by omega)).mono ?_); rintro e w' ⟨rfl, rfl⟩))
              go_ret
              exact ⟨ret_bool HNO.out.symm, below_iter _ _ _⟩
            · have hz1 : ((pos : Int) == 0) = false := by simp; omega
              have HZ := Lib.hid hz
              clear hz
              go_wp2_with (first
                | (go_at_call 33; ((with_reducible refine (letter_no _ _ (by omega)).mono ?_); rintro e w' ⟨rfl, rfl⟩))
                | (go_at_call 34; ((with_reducible refine (inner_no _ _ (by omega)).mono ?_); rintro e w' ⟨rfl, rfl⟩)))
              go_ret
              exact ⟨ret_bool HNO.out.symm, below_iter _ _ _⟩
        · have hnx := fun ty => run_next_end (P := Try.prog) w s pos ty hp
          have hall : rightL s.data.toList = true := rightL_mk (by rw [size_list]; exact hs1) (by rw [size_list]; exact hs2) (by have := HA.out; rwa [List.take_of_length_le (by rw [size_list]; omega)] at this)
          have HALL := Lib.hid hall
          clear hall
          go_wp2
          go_ret
          exact ⟨ret_bool HALL.out.symm, below_iter _ _ _⟩
    · have hno : rightL s.data.toList = false := rightL_long (by rw [size_list]; omega)
      have HNO := Lib.hid hno
      have hd : decide (12 < s.size) = true := decide_eq_true (by omega)
      clear hno
      go_enter Try.func19, Try.ntmps19
      go_wp2_with fail
      go_ret
      exact ⟨ret_bool HNO.out.symm, Below.refl _ _⟩
  · have hno : rightL s.data.toList = false := rightL_short (by rw [size_list]; omega)
    have HNO := Lib.hid hno
    have hd : decide (s.size < 1) = true := decide_eq_true (by omega)
    clear hno
    go_enter Try.func19, Try.ntmps19
    go_wp2_with fail
    go_ret
    exact ⟨ret_bool HNO.out.symm, Below.refl _ _⟩
end Go.Proofs.Ytdmgnafafafdpaa
