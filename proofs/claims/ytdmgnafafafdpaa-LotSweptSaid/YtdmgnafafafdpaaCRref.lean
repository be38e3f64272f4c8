/- The contract of the reference's Right. -/
import Derived.Test.YtdmgnafafafdpaaCRight
namespace Go.Proofs.Ytdmgnafafafdpaa
open Go.ChangeShapes Go.WideShapes Go.ChangeAt Go.RowKit
set_option linter.unusedVariables false

set_option maxHeartbeats 2000000 in
theorem rright_any (s : ByteArray) (w : World) :
    Calls Try.prog 21 #[.string s] w fun e w' => e = .returned (.bool (rightL s.data.toList)) ∧ w = w' := by
  by_cases hs1 : 1 ≤ s.size
  · by_cases hs2 : s.size ≤ 12
    · go_enter Try.func21, Try.ntmps21
      go_wp2_with fail
      go_loop [3] (fun i => ∃ pos : Nat, pos ≤ s.size ∧ i = .int .i64 pos ∧ Hid (allOk 0 (s.data.toList.take pos) = true)) (fun i => s.size - (intOf i).toNat)
      case atStart => exact ⟨0, Nat.zero_le _, rfl, Lib.hid rfl⟩
      case round =>
        obtain ⟨pos, hpos, rfl, HA⟩ := hrel
        by_cases hp : pos < s.size
        · have hc := get_list s pos hp
          by_cases hu : 65 ≤ (s[pos]'hp).toNat ∧ (s[pos]'hp).toNat ≤ 90
          · have hok : okAt pos s[pos] = true := by simp [okAt, upB, hu]
            have hst := allOk_step HA.out hc hok
            have HST := Lib.hid hst
            have hd1 : decide ((48 : Int) ≤ ((s[pos]'hp).toNat : Int)) = true := decide_eq_true (by omega)
            have hd2 : decide (((s[pos]'hp).toNat : Int) ≤ 57) = false := decide_eq_false (by omega)
            have hd3 : (((s[pos]'hp).toNat : Int) == 45) = false := by simp; omega
            clear hst hok hc
            go_wp2
            go_round
            case rel => exact ⟨pos + 1, by omega, by go_num, HST⟩
            case measure => simp [intOf]; omega
          · by_cases hB : 90 < (s[pos]'hp).toNat
            · by_cases hz : pos = 0
              · subst hz
                have hok : okAt 0 s[0] = false := by simp [okAt, upB]; omega
                have hno := rightL_no hc hok
                have HNO := Lib.hid hno
                have hd0 : decide ((65 : Int) ≤ ((s[0]'hp).toNat : Int)) = true := decide_eq_true (by omega)
                have hd1 : decide (((s[0]'hp).toNat : Int) ≤ 90) = false := decide_eq_false (by omega)
                have hd2 : decide ((48 : Int) ≤ ((s[0]'hp).toNat : Int)) = true := decide_eq_true (by omega)
                have hd3 : decide (((s[0]'hp).toNat : Int) ≤ 57) = false := decide_eq_false (by omega)
                have hd4 : (((s[0]'hp).toNat : Int) == 45) = false := by simp; omega
                clear hno hok hc
                go_wp2
                go_ret
                exact ⟨ret_bool HNO.out.symm, rfl⟩
              · have hz1 : ((pos : Int) == 0) = false := by simp; omega
                have hok : okAt pos s[pos] = false := by simp [okAt, upB, inB]; omega
                have hno := rightL_no hc hok
                have HNO := Lib.hid hno
                have hd0 : decide ((65 : Int) ≤ ((s[pos]'hp).toNat : Int)) = true := decide_eq_true (by omega)
                have hd1 : decide (((s[pos]'hp).toNat : Int) ≤ 90) = false := decide_eq_false (by omega)
                have hd2 : decide ((48 : Int) ≤ ((s[pos]'hp).toNat : Int)) = true := decide_eq_true (by omega)
                have hd3 : decide (((s[pos]'hp).toNat : Int) ≤ 57) = false := decide_eq_false (by omega)
                have hd4 : (((s[pos]'hp).toNat : Int) == 45) = false := by simp; omega
                have HZ := Lib.hid hz
                clear hno hok hc hz
                go_wp2
                go_ret
                exact ⟨ret_bool HNO.out.symm, rfl⟩
            · by_cases hC : 57 < (s[pos]'hp).toNat
              · by_cases hz : pos = 0
                · subst hz
                  have hok : okAt 0 s[0] = false := by simp [okAt, upB]; omega
                  have hno := rightL_no hc hok
                  have HNO := Lib.hid hno
                  have hd0 : decide ((65 : Int) ≤ ((s[0]'hp).toNat : Int)) = false := decide_eq_false (by omega)
                  have hd1 : decide ((48 : Int) ≤ ((s[0]'hp).toNat : Int)) = true := decide_eq_true (by omega)
                  have hd2 : decide (((s[0]'hp).toNat : Int) ≤ 57) = false := decide_eq_false (by omega)
                  have hd3 : (((s[0]'hp).toNat : Int) == 45) = false := by simp; omega
                  clear hno hok hc
                  go_wp2
                  go_ret
                  exact ⟨ret_bool HNO.out.symm, rfl⟩
                · have hz1 : ((pos : Int) == 0) = false := by simp; omega
                  have hok : okAt pos s[pos] = false := by simp [okAt, upB, inB]; omega
                  have hno := rightL_no hc hok
                  have HNO := Lib.hid hno
                  have hd0 : decide ((65 : Int) ≤ ((s[pos]'hp).toNat : Int)) = false := decide_eq_false (by omega)
                  have hd1 : decide ((48 : Int) ≤ ((s[pos]'hp).toNat : Int)) = true := decide_eq_true (by omega)
                  have hd2 : decide (((s[pos]'hp).toNat : Int) ≤ 57) = false := decide_eq_false (by omega)
                  have hd3 : (((s[pos]'hp).toNat : Int) == 45) = false := by simp; omega
                  have HZ := Lib.hid hz
                  clear hno hok hc hz
                  go_wp2
                  go_ret
                  exact ⟨ret_bool HNO.out.symm, rfl⟩
              · by_cases hD : 48 ≤ (s[pos]'hp).toNat
                · by_cases hz : pos = 0
                  · subst hz
                    have hok : okAt 0 s[0] = false := by simp [okAt, upB]; omega
                    have hno := rightL_no hc hok
                    have HNO := Lib.hid hno
                    have hd0 : decide ((65 : Int) ≤ ((s[0]'hp).toNat : Int)) = false := decide_eq_false (by omega)
                    have hd1 : decide ((48 : Int) ≤ ((s[0]'hp).toNat : Int)) = true := decide_eq_true (by omega)
                    have hd2 : decide (((s[0]'hp).toNat : Int) ≤ 57) = true := decide_eq_true (by omega)
                    clear hno hok hc
                    go_wp2
                    go_ret
                    exact ⟨ret_bool HNO.out.symm, rfl⟩
                  · have hz1 : ((pos : Int) == 0) = false := by simp; omega
                    have hok : okAt pos s[pos] = true := by simp [okAt, inB, hz]; right; omega
                    have hst := allOk_step HA.out hc hok
                    have HST := Lib.hid hst
                    have hd0 : decide ((65 : Int) ≤ ((s[pos]'hp).toNat : Int)) = false := decide_eq_false (by omega)
                    have hd1 : decide ((48 : Int) ≤ ((s[pos]'hp).toNat : Int)) = true := decide_eq_true (by omega)
                    have hd2 : decide (((s[pos]'hp).toNat : Int) ≤ 57) = true := decide_eq_true (by omega)
                    have HZ := Lib.hid hz
                    clear hst hok hc hz
                    go_wp2
                    go_round
                    case rel => exact ⟨pos + 1, by omega, by go_num, HST⟩
                    case measure => simp [intOf]; omega
                · by_cases hF : (s[pos]'hp).toNat = 45
                  · by_cases hz : pos = 0
                    · subst hz
                      have hok : okAt 0 s[0] = false := by simp [okAt, upB]; omega
                      have hno := rightL_no hc hok
                      have HNO := Lib.hid hno
                      have hd0 : decide ((65 : Int) ≤ ((s[0]'hp).toNat : Int)) = false := decide_eq_false (by omega)
                      have hd1 : decide ((48 : Int) ≤ ((s[0]'hp).toNat : Int)) = false := decide_eq_false (by omega)
                      have hd2 : (((s[0]'hp).toNat : Int) == 45) = true := by simp; omega
                      clear hno hok hc
                      go_wp2
                      go_ret
                      exact ⟨ret_bool HNO.out.symm, rfl⟩
                    · have hz1 : ((pos : Int) == 0) = false := by simp; omega
                      have hok : okAt pos s[pos] = true := by simp [okAt, inB, hz]; right; omega
                      have hst := allOk_step HA.out hc hok
                      have HST := Lib.hid hst
                      have hd0 : decide ((65 : Int) ≤ ((s[pos]'hp).toNat : Int)) = false := decide_eq_false (by omega)
                      have hd1 : decide ((48 : Int) ≤ ((s[pos]'hp).toNat : Int)) = false := decide_eq_false (by omega)
                      have hd2 : (((s[pos]'hp).toNat : Int) == 45) = true := by simp; omega
                      have HZ := Lib.hid hz
                      clear hst hok hc hz
                      go_wp2
                      go_round
                      case rel => exact ⟨pos + 1, by omega, by go_num, HST⟩
                      case measure => simp [intOf]; omega
                  · by_cases hz : pos = 0
                    · subst hz
                      have hok : okAt 0 s[0] = false := by simp [okAt, upB]; omega
                      have hno := rightL_no hc hok
                      have HNO := Lib.hid hno
                      have hd0 : decide ((65 : Int) ≤ ((s[0]'hp).toNat : Int)) = false := decide_eq_false (by omega)
                      have hd1 : decide ((48 : Int) ≤ ((s[0]'hp).toNat : Int)) = false := decide_eq_false (by omega)
                      have hd2 : (((s[0]'hp).toNat : Int) == 45) = false := by simp; omega
                      clear hno hok hc
                      go_wp2
                      go_ret
                      exact ⟨ret_bool HNO.out.symm, rfl⟩
                    · have hz1 : ((pos : Int) == 0) = false := by simp; omega
                      have hok : okAt pos s[pos] = false := by simp [okAt, upB, inB]; omega
                      have hno := rightL_no hc hok
                      have HNO := Lib.hid hno
                      have hd0 : decide ((65 : Int) ≤ ((s[pos]'hp).toNat : Int)) = false := decide_eq_false (by omega)
                      have hd1 : decide ((48 : Int) ≤ ((s[pos]'hp).toNat : Int)) = false := decide_eq_false (by omega)
                      have hd2 : (((s[pos]'hp).toNat : Int) == 45) = false := by simp; omega
                      have HZ := Lib.hid hz
                      clear hno hok hc hz
                      go_wp2
                      go_ret
                      exact ⟨ret_bool HNO.out.symm, rfl⟩
        · have hall : rightL s.data.toList = true := rightL_mk (by rw [size_list]; exact hs1) (by rw [size_list]; exact hs2) (by have := HA.out; rwa [List.take_of_length_le (by rw [size_list]; omega)] at this)
          have HALL := Lib.hid hall
          clear hall
          go_wp2
          go_ret
          exact ⟨ret_bool HALL.out.symm, rfl⟩
    · have hno : rightL s.data.toList = false := rightL_long (by rw [size_list]; omega)
      have HNO := Lib.hid hno
      have hd : decide (12 < s.size) = true := decide_eq_true (by omega)
      clear hno
      go_enter Try.func21, Try.ntmps21
      go_wp2_with fail
      go_ret
      exact ⟨ret_bool HNO.out.symm, rfl⟩
  · have hno : rightL s.data.toList = false := rightL_short (by rw [size_list]; omega)
    have HNO := Lib.hid hno
    have hd : decide (s.size < 1) = true := decide_eq_true (by omega)
    clear hno
    go_enter Try.func21, Try.ntmps21
    go_wp2_with fail
    go_ret
    exact ⟨ret_bool HNO.out.symm, rfl⟩
end Go.Proofs.Ytdmgnafafafdpaa
