/- The contracts of the functions on one and two numbers: amount.Right, Add, Times and the reference's. -/
import Derived.Test.YtfppiigmibjbnaaGreatProg
import Derived.Test.YtfppiigmibjbnaaGreatMath
import Derived.WalkKit
import Derived.ProofKit
import Derived.Lib.Hide
namespace Go.Proofs.YtfppiigmibjbnaaGreat
open Go.ChangeShapes Go.WideShapes Go.ChangeAt Go.RowKit
set_option linter.unusedVariables false

theorem ret_bool {a b : Bool} (h : a = b) : Ending.returned (.bool a) = .returned (.bool b) := by rw [h]
theorem ret_ib {a b : Int} {x y : Bool} (h : a = b) (h' : x = y) : Ending.returned (.tuple #[.int .i64 a, .bool x]) = .returned (.tuple #[.int .i64 b, .bool y]) := by rw [h, h']

theorem right_any (n : Int) (w : World) : Calls Tryz.prog 19 #[.int .i64 n] w fun e w' => e = .returned (.bool (rightB n)) ∧ w = w' := by
  by_cases h0 : 0 ≤ n
  · by_cases h1 : n ≤ 1125899906842624
    · go_enter Tryz.func19, Tryz.ntmps19
      go_wp2
      go_ret
      exact ⟨ret_bool (rightB_true h0 h1).symm, rfl⟩
    · have h1' : decide (n ≤ 1125899906842624) = false := by simpa using h1
      go_enter Tryz.func19, Tryz.ntmps19
      go_wp2
      go_ret
      exact ⟨ret_bool (rightB_false (by omega)).symm, rfl⟩
  · have h1' : decide (0 ≤ n) = false := by simpa using h0
    go_enter Tryz.func19, Tryz.ntmps19
    go_wp2
    go_ret
    exact ⟨ret_bool (rightB_false (by omega)).symm, rfl⟩

theorem rright_any (n : Int) (w : World) : Calls Tryz.prog 26 #[.int .i64 n] w fun e w' => e = .returned (.bool (rightB n)) ∧ w = w' := by
  by_cases h0 : 0 ≤ n
  · by_cases h1 : n ≤ 1125899906842624
    · go_enter Tryz.func26, Tryz.ntmps26
      go_wp2
      go_ret
      exact ⟨ret_bool (rightB_true h0 h1).symm, rfl⟩
    · have h1' : decide (n ≤ 1125899906842624) = false := by simpa using h1
      go_enter Tryz.func26, Tryz.ntmps26
      go_wp2
      go_ret
      exact ⟨ret_bool (rightB_false (by omega)).symm, rfl⟩
  · have h1' : decide (0 ≤ n) = false := by simpa using h0
    go_enter Tryz.func26, Tryz.ntmps26
    go_wp2
    go_ret
    exact ⟨ret_bool (rightB_false (by omega)).symm, rfl⟩

theorem right_yes (n : Int) (w : World) (h : rightB n = true) : Calls Tryz.prog 19 #[.int .i64 n] w fun e w' => e = .returned (.bool true) ∧ w = w' := by
  have := right_any n w; rwa [h] at this
theorem right_no (n : Int) (w : World) (h : rightB n = false) : Calls Tryz.prog 19 #[.int .i64 n] w fun e w' => e = .returned (.bool false) ∧ w = w' := by
  have := right_any n w; rwa [h] at this
theorem rright_yes (n : Int) (w : World) (h : rightB n = true) : Calls Tryz.prog 26 #[.int .i64 n] w fun e w' => e = .returned (.bool true) ∧ w = w' := by
  have := rright_any n w; rwa [h] at this
theorem rright_no (n : Int) (w : World) (h : rightB n = false) : Calls Tryz.prog 26 #[.int .i64 n] w fun e w' => e = .returned (.bool false) ∧ w = w' := by
  have := rright_any n w; rwa [h] at this

theorem add_any (a b : Int) (w : World) : Calls Tryz.prog 18 #[.int .i64 a, .int .i64 b] w fun e w' => e = .returned (.tuple #[.int .i64 (addV a b), .bool (addB a b)]) ∧ w = w' := by
  by_cases h0 : rightB a = true
  · by_cases h1 : rightB b = true
    · obtain ⟨a0, a1⟩ := of_rightB h0
      obtain ⟨b0, b1⟩ := of_rightB h1
      by_cases h2 : rightB (a + b) = true
      · have e : addB a b = true := by simp [addB, h0, h1, h2]
        have H0 := Lib.hid h0
        have H1 := Lib.hid h1
        have H2 := Lib.hid h2
        have E := Lib.hid e
        clear h0 h1 h2 e
        go_enter Tryz.func18, Tryz.ntmps18
        go_wp2_with (first
          | (go_at_call 19; ((with_reducible refine (right_yes a _ H0.out).mono ?_); rintro e w' ⟨rfl, rfl⟩))
          | (go_at_call 19; ((with_reducible refine (right_yes b _ H1.out).mono ?_); rintro e w' ⟨rfl, rfl⟩))
          | (go_at_call 19; ((with_reducible refine (right_yes (a + b) _ H2.out).mono ?_); rintro e w' ⟨rfl, rfl⟩)))
        go_ret2
        exact ⟨ret_ib (by simp [addV, E.out]) E.out.symm, rfl⟩
      · have h2 : rightB (a + b) = false := by simpa using h2
        have e : addB a b = false := by simp [addB, h0, h1, h2]
        have H0 := Lib.hid h0
        have H1 := Lib.hid h1
        have H2 := Lib.hid h2
        have E := Lib.hid e
        clear h0 h1 h2 e
        go_enter Tryz.func18, Tryz.ntmps18
        go_wp2_with (first
          | (go_at_call 19; ((with_reducible refine (right_yes a _ H0.out).mono ?_); rintro e w' ⟨rfl, rfl⟩))
          | (go_at_call 19; ((with_reducible refine (right_yes b _ H1.out).mono ?_); rintro e w' ⟨rfl, rfl⟩))
          | (go_at_call 19; ((with_reducible refine (right_no (a + b) _ H2.out).mono ?_); rintro e w' ⟨rfl, rfl⟩)))
        go_ret2
        exact ⟨ret_ib (by simp [addV, E.out]) E.out.symm, rfl⟩
    · have h1 : rightB b = false := by simpa using h1
      have e : addB a b = false := by simp [addB, h0, h1]
      have H0 := Lib.hid h0
      have H1 := Lib.hid h1
      have E := Lib.hid e
      clear h0 h1 e
      go_enter Tryz.func18, Tryz.ntmps18
      go_wp2_with (first
        | (go_at_call 19; ((with_reducible refine (right_yes a _ H0.out).mono ?_); rintro e w' ⟨rfl, rfl⟩))
        | (go_at_call 19; ((with_reducible refine (right_no b _ H1.out).mono ?_); rintro e w' ⟨rfl, rfl⟩)))
      go_ret2
      exact ⟨ret_ib (by simp [addV, E.out]) E.out.symm, rfl⟩
  · have h0 : rightB a = false := by simpa using h0
    have e : addB a b = false := by simp [addB, h0]
    have H0 := Lib.hid h0
    have E := Lib.hid e
    clear h0 e
    go_enter Tryz.func18, Tryz.ntmps18
    go_wp2_with (go_at_call 19; ((with_reducible refine (right_no a _ H0.out).mono ?_); rintro e w' ⟨rfl, rfl⟩))
    go_ret2
    exact ⟨ret_ib (by simp [addV, E.out]) E.out.symm, rfl⟩


theorem times_any (a b : Int) (w : World) : Calls Tryz.prog 16 #[.int .i64 a, .int .i64 b] w fun e w' => e = .returned (.tuple #[.int .i64 (timesV a b), .bool (timesB a b)]) ∧ w = w' := by
  by_cases h0 : rightB a = true
  · by_cases h1 : rightB b = true
    · obtain ⟨a0, a1⟩ := of_rightB h0
      obtain ⟨b0, b1⟩ := of_rightB h1
      by_cases hz : b = 0
      · subst hz
        have e : timesB a 0 = true := by simp [timesB, h0, h1]
        have H0 := Lib.hid h0
        have H1 := Lib.hid h1
        have E := Lib.hid e
        clear h0 h1 e
        go_enter Tryz.func16, Tryz.ntmps16
        go_wp2_with (first
          | (go_at_call 19; ((with_reducible refine (right_yes a _ H0.out).mono ?_); rintro e w' ⟨rfl, rfl⟩))
          | (go_at_call 19; ((with_reducible refine (right_yes 0 _ H1.out).mono ?_); rintro e w' ⟨rfl, rfl⟩)))
        go_ret2
        exact ⟨ret_ib (by simp [timesV, E.out]) E.out.symm, rfl⟩
      · have hb1 : 1 ≤ b := by omega
        have hn1 : (b == 0) = false := by simpa using hz
        have hn2 : (b != 0) = true := by simpa using hz
        have hn3 : decide (0 < b) = true := decide_eq_true (by omega)
        have hp0 : 0 ≤ a * b := Int.mul_nonneg a0 b0
        clear hz
        by_cases hp : a ≤ 1125899906842624 / b
        · have hp1 : a * b ≤ 1125899906842624 := (Int.le_ediv_iff_mul_le (by omega)).1 hp
          have e : timesB a b = true := by simp [timesB, h0, h1, rightB_true hp0 hp1]
          have hq : decide (1125899906842624 / b < a) = false := by simpa using hp
          have H0 := Lib.hid h0
          have H1 := Lib.hid h1
          have E := Lib.hid e
          clear h0 h1 e hp
          go_enter Tryz.func16, Tryz.ntmps16
          go_wp2_with (first
            | (go_at_call 19; ((with_reducible refine (right_yes a _ H0.out).mono ?_); rintro e w' ⟨rfl, rfl⟩))
            | (go_at_call 19; ((with_reducible refine (right_yes b _ H1.out).mono ?_); rintro e w' ⟨rfl, rfl⟩)))
          go_ret2
          exact ⟨ret_ib (by simp [timesV, E.out]) E.out.symm, rfl⟩
        · have hp1 : 1125899906842624 < a * b := by
            rcases Int.lt_or_le 1125899906842624 (a * b) with h | h
            · exact h
            · exact absurd ((Int.le_ediv_iff_mul_le (by omega)).2 h) hp
          have e : timesB a b = false := by simp [timesB, h0, h1, rightB_false (.inr hp1)]
          have hq : decide (1125899906842624 / b < a) = true := by simpa using hp
          have H0 := Lib.hid h0
          have H1 := Lib.hid h1
          have E := Lib.hid e
          clear h0 h1 e hp
          go_enter Tryz.func16, Tryz.ntmps16
          go_wp2_with (first
            | (go_at_call 19; ((with_reducible refine (right_yes a _ H0.out).mono ?_); rintro e w' ⟨rfl, rfl⟩))
            | (go_at_call 19; ((with_reducible refine (right_yes b _ H1.out).mono ?_); rintro e w' ⟨rfl, rfl⟩)))
          go_ret2
          exact ⟨ret_ib (by simp [timesV, E.out]) E.out.symm, rfl⟩
    · have h1 : rightB b = false := by simpa using h1
      have e : timesB a b = false := by simp [timesB, h0, h1]
      have H0 := Lib.hid h0
      have H1 := Lib.hid h1
      have E := Lib.hid e
      clear h0 h1 e
      go_enter Tryz.func16, Tryz.ntmps16
      go_wp2_with (first
        | (go_at_call 19; ((with_reducible refine (right_yes a _ H0.out).mono ?_); rintro e w' ⟨rfl, rfl⟩))
        | (go_at_call 19; ((with_reducible refine (right_no b _ H1.out).mono ?_); rintro e w' ⟨rfl, rfl⟩)))
      go_ret2
      exact ⟨ret_ib (by simp [timesV, E.out]) E.out.symm, rfl⟩
  · have h0 : rightB a = false := by simpa using h0
    have e : timesB a b = false := by simp [timesB, h0]
    have H0 := Lib.hid h0
    have E := Lib.hid e
    clear h0 e
    go_enter Tryz.func16, Tryz.ntmps16
    go_wp2_with (go_at_call 19; ((with_reducible refine (right_no a _ H0.out).mono ?_); rintro e w' ⟨rfl, rfl⟩))
    go_ret2
    exact ⟨ret_ib (by simp [timesV, E.out]) E.out.symm, rfl⟩

theorem rtimes_any (a b : Int) (w : World) : Calls Tryz.prog 25 #[.int .i64 a, .int .i64 b] w fun e w' => e = .returned (.tuple #[.int .i64 (timesV a b), .bool (timesB a b)]) ∧ w = w' := by
  by_cases h0 : rightB a = true
  · by_cases h1 : rightB b = true
    · obtain ⟨a0, a1⟩ := of_rightB h0
      obtain ⟨b0, b1⟩ := of_rightB h1
      by_cases hz : b = 0
      · subst hz
        have e : timesB a 0 = true := by simp [timesB, h0, h1]
        have H0 := Lib.hid h0
        have H1 := Lib.hid h1
        have E := Lib.hid e
        clear h0 h1 e
        go_enter Tryz.func25, Tryz.ntmps25
        go_wp2_with (first
          | (go_at_call 26; ((with_reducible refine (rright_yes a _ H0.out).mono ?_); rintro e w' ⟨rfl, rfl⟩))
          | (go_at_call 26; ((with_reducible refine (rright_yes 0 _ H1.out).mono ?_); rintro e w' ⟨rfl, rfl⟩)))
        go_ret2
        exact ⟨ret_ib (by simp [timesV, E.out]) E.out.symm, rfl⟩
      · have hb1 : 1 ≤ b := by omega
        have hn1 : (b == 0) = false := by simpa using hz
        have hn2 : (b != 0) = true := by simpa using hz
        have hn3 : decide (0 < b) = true := decide_eq_true (by omega)
        have hp0 : 0 ≤ a * b := Int.mul_nonneg a0 b0
        clear hz
        by_cases hp : a ≤ 1125899906842624 / b
        · have hp1 : a * b ≤ 1125899906842624 := (Int.le_ediv_iff_mul_le (by omega)).1 hp
          have e : timesB a b = true := by simp [timesB, h0, h1, rightB_true hp0 hp1]
          have hq : decide (1125899906842624 / b < a) = false := by simpa using hp
          have H0 := Lib.hid h0
          have H1 := Lib.hid h1
          have E := Lib.hid e
          clear h0 h1 e hp
          go_enter Tryz.func25, Tryz.ntmps25
          go_wp2_with (first
            | (go_at_call 26; ((with_reducible refine (rright_yes a _ H0.out).mono ?_); rintro e w' ⟨rfl, rfl⟩))
            | (go_at_call 26; ((with_reducible refine (rright_yes b _ H1.out).mono ?_); rintro e w' ⟨rfl, rfl⟩)))
          go_ret2
          exact ⟨ret_ib (by simp [timesV, E.out]) E.out.symm, rfl⟩
        · have hp1 : 1125899906842624 < a * b := by
            rcases Int.lt_or_le 1125899906842624 (a * b) with h | h
            · exact h
            · exact absurd ((Int.le_ediv_iff_mul_le (by omega)).2 h) hp
          have e : timesB a b = false := by simp [timesB, h0, h1, rightB_false (.inr hp1)]
          have hq : decide (1125899906842624 / b < a) = true := by simpa using hp
          have H0 := Lib.hid h0
          have H1 := Lib.hid h1
          have E := Lib.hid e
          clear h0 h1 e hp
          go_enter Tryz.func25, Tryz.ntmps25
          go_wp2_with (first
            | (go_at_call 26; ((with_reducible refine (rright_yes a _ H0.out).mono ?_); rintro e w' ⟨rfl, rfl⟩))
            | (go_at_call 26; ((with_reducible refine (rright_yes b _ H1.out).mono ?_); rintro e w' ⟨rfl, rfl⟩)))
          go_ret2
          exact ⟨ret_ib (by simp [timesV, E.out]) E.out.symm, rfl⟩
    · have h1 : rightB b = false := by simpa using h1
      have e : timesB a b = false := by simp [timesB, h0, h1]
      have H0 := Lib.hid h0
      have H1 := Lib.hid h1
      have E := Lib.hid e
      clear h0 h1 e
      go_enter Tryz.func25, Tryz.ntmps25
      go_wp2_with (first
        | (go_at_call 26; ((with_reducible refine (rright_yes a _ H0.out).mono ?_); rintro e w' ⟨rfl, rfl⟩))
        | (go_at_call 26; ((with_reducible refine (rright_no b _ H1.out).mono ?_); rintro e w' ⟨rfl, rfl⟩)))
      go_ret2
      exact ⟨ret_ib (by simp [timesV, E.out]) E.out.symm, rfl⟩
  · have h0 : rightB a = false := by simpa using h0
    have e : timesB a b = false := by simp [timesB, h0]
    have H0 := Lib.hid h0
    have E := Lib.hid e
    clear h0 e
    go_enter Tryz.func25, Tryz.ntmps25
    go_wp2_with (go_at_call 26; ((with_reducible refine (rright_no a _ H0.out).mono ?_); rintro e w' ⟨rfl, rfl⟩))
    go_ret2
    exact ⟨ret_ib (by simp [timesV, E.out]) E.out.symm, rfl⟩

theorem radd_any (a b : Int) (w : World) : Calls Tryz.prog 22 #[.int .i64 a, .int .i64 b] w fun e w' => e = .returned (.tuple #[.int .i64 (addV a b), .bool (addB a b)]) ∧ w = w' := by
  by_cases h0 : rightB a = true
  · by_cases h1 : rightB b = true
    · obtain ⟨a0, a1⟩ := of_rightB h0
      obtain ⟨b0, b1⟩ := of_rightB h1
      by_cases h2 : rightB (a + b) = true
      · have hu : a + b ≤ 1125899906842624 := (of_rightB h2).2
        have e : addB a b = true := by simp [addB, h0, h1, h2]
        have H0 := Lib.hid h0
        have H1 := Lib.hid h1
        have H2 := Lib.hid h2
        have E := Lib.hid e
        clear h0 h1 h2 e
        go_enter Tryz.func22, Tryz.ntmps22
        go_wp2_with (first
          | (go_at_call 26; ((with_reducible refine (rright_yes a _ H0.out).mono ?_); rintro e w' ⟨rfl, rfl⟩))
          | (go_at_call 26; ((with_reducible refine (rright_yes b _ H1.out).mono ?_); rintro e w' ⟨rfl, rfl⟩))
          | (go_at_call 26; ((with_reducible refine (rright_yes (a + b) _ H2.out).mono ?_); rintro e w' ⟨rfl, rfl⟩)))
        go_ret2
        exact ⟨ret_ib (by simp [addV, E.out]) E.out.symm, rfl⟩
      · have h2 : rightB (a + b) = false := by simpa using h2
        have hu : 1125899906842624 < a + b := by have := of_not_rightB h2; omega
        have e : addB a b = false := by simp [addB, h0, h1, h2]
        have H0 := Lib.hid h0
        have H1 := Lib.hid h1
        have H2 := Lib.hid h2
        have E := Lib.hid e
        clear h0 h1 h2 e
        go_enter Tryz.func22, Tryz.ntmps22
        go_wp2_with (first
          | (go_at_call 26; ((with_reducible refine (rright_yes a _ H0.out).mono ?_); rintro e w' ⟨rfl, rfl⟩))
          | (go_at_call 26; ((with_reducible refine (rright_yes b _ H1.out).mono ?_); rintro e w' ⟨rfl, rfl⟩))
          | (go_at_call 26; ((with_reducible refine (rright_no (a + b) _ H2.out).mono ?_); rintro e w' ⟨rfl, rfl⟩)))
        go_ret2
        exact ⟨ret_ib (by simp [addV, E.out]) E.out.symm, rfl⟩
    · have h1 : rightB b = false := by simpa using h1
      have e : addB a b = false := by simp [addB, h0, h1]
      have H0 := Lib.hid h0
      have H1 := Lib.hid h1
      have E := Lib.hid e
      clear h0 h1 e
      go_enter Tryz.func22, Tryz.ntmps22
      go_wp2_with (first
        | (go_at_call 26; ((with_reducible refine (rright_yes a _ H0.out).mono ?_); rintro e w' ⟨rfl, rfl⟩))
        | (go_at_call 26; ((with_reducible refine (rright_no b _ H1.out).mono ?_); rintro e w' ⟨rfl, rfl⟩)))
      go_ret2
      exact ⟨ret_ib (by simp [addV, E.out]) E.out.symm, rfl⟩
  · have h0 : rightB a = false := by simpa using h0
    have e : addB a b = false := by simp [addB, h0]
    have H0 := Lib.hid h0
    have E := Lib.hid e
    clear h0 e
    go_enter Tryz.func22, Tryz.ntmps22
    go_wp2_with (go_at_call 26; ((with_reducible refine (rright_no a _ H0.out).mono ?_); rintro e w' ⟨rfl, rfl⟩))
    go_ret2
    exact ⟨ret_ib (by simp [addV, E.out]) E.out.symm, rfl⟩


end Go.Proofs.YtfppiigmibjbnaaGreat
