/- Plain mathematics of sums and products that hang on no order. -/
import Derived.Test.YtmjhldagmmpnjaaMath
namespace Go.Proofs.Ytmjhldagmmpnjaa

theorem addB_iff (a b : Int) : addB a b = true ↔ 0 ≤ a ∧ 0 ≤ b ∧ a + b ≤ 1125899906842624 := by
  simp only [addB, rightB, Bool.and_eq_true, decide_eq_true_eq]
  omega
theorem timesB_iff (a b : Int) : timesB a b = true ↔ (0 ≤ a ∧ a ≤ 1125899906842624) ∧ (0 ≤ b ∧ b ≤ 1125899906842624) ∧ a * b ≤ 1125899906842624 := by
  simp only [timesB, rightB, Bool.and_eq_true, decide_eq_true_eq]
  constructor
  · rintro ⟨h1, h2, h3⟩; exact ⟨h1, h2, h3.2⟩
  · rintro ⟨h1, h2, h3⟩; exact ⟨h1, h2, Int.mul_nonneg h1.1 h2.1, h3⟩
theorem addB_comm (a b : Int) : addB b a = addB a b := by
  rw [Bool.eq_iff_iff, addB_iff, addB_iff]; omega
theorem addV_comm (a b : Int) : addV b a = addV a b := by
  unfold addV; rw [addB_comm, Int.add_comm]
theorem timesB_comm (a b : Int) : timesB b a = timesB a b := by
  rw [Bool.eq_iff_iff, timesB_iff, timesB_iff, Int.mul_comm]
  constructor <;> (rintro ⟨h1, h2, h3⟩; exact ⟨h2, h1, h3⟩)
theorem timesV_comm (a b : Int) : timesV b a = timesV a b := by
  unfold timesV; rw [timesB_comm, Int.mul_comm]
theorem addV_of {a b : Int} (h : addB a b = true) : addV a b = a + b := by unfold addV; rw [if_pos h]
theorem timesV_of {a b : Int} (h : timesB a b = true) : timesV a b = a * b := by unfold timesV; rw [if_pos h]

/-- The sum of three. -/
def allB (a b c : Int) : Bool := decide (0 ≤ a ∧ 0 ≤ b ∧ 0 ≤ c ∧ a + b + c ≤ 1125899906842624)
def allV (a b c : Int) : Int := if allB a b c = true then a + b + c else 0
theorem allB_iff (a b c : Int) : allB a b c = true ↔ 0 ≤ a ∧ 0 ≤ b ∧ 0 ≤ c ∧ a + b + c ≤ 1125899906842624 := by simp [allB]
theorem allB_turn (a b c : Int) : allB c a b = allB a b c := by rw [Bool.eq_iff_iff, allB_iff, allB_iff]; omega
theorem allV_turn (a b c : Int) : allV c a b = allV a b c := by
  unfold allV; rw [allB_turn, show c + a + b = a + b + c by omega]
theorem allV_of {a b c : Int} (h : allB a b c = true) : allV a b c = a + b + c := by unfold allV; rw [if_pos h]

theorem all_yes {a b c : Int} (h : allB a b c = true) : addB a b = true ∧ addB b c = true ∧ addB (addV a b) c = true ∧ addB a (addV b c) = true ∧ addV (addV a b) c = allV a b c ∧ addV a (addV b c) = allV a b c := by
  have h0 := (allB_iff a b c).1 h
  have h1 : addB a b = true := (addB_iff a b).2 (by omega)
  have h2 : addB b c = true := (addB_iff b c).2 (by omega)
  rw [addV_of h1, addV_of h2, allV_of h]
  have h3 : addB (a + b) c = true := (addB_iff _ _).2 (by omega)
  have h4 : addB a (b + c) = true := (addB_iff _ _).2 (by omega)
  rw [addV_of h3, addV_of h4]
  exact ⟨h1, h2, h3, h4, rfl, by omega⟩
theorem all_no {a b c : Int} (h : allB a b c = false) : (addB a b = true → addB (addV a b) c = false) ∧ (addB b c = true → addB a (addV b c) = false) := by
  have h0 : ¬ (allB a b c = true) := by simp [h]
  rw [allB_iff] at h0
  constructor
  · intro h1
    have h2 := (addB_iff a b).1 h1
    rw [addV_of h1, Bool.eq_false_iff]
    intro h3
    have := (addB_iff _ _).1 h3
    omega
  · intro h1
    have h2 := (addB_iff b c).1 h1
    rw [addV_of h1, Bool.eq_false_iff]
    intro h3
    have := (addB_iff _ _).1 h3
    omega
theorem all_right {a b c : Int} (h : allB a b c = true) : rightB a = true ∧ rightB b = true ∧ rightB c = true ∧ rightB (allV a b c) = true ∧ a ≤ allV a b c := by
  have h0 := (allB_iff a b c).1 h
  rw [allV_of h]
  exact ⟨rightB_true (by omega) (by omega), rightB_true (by omega) (by omega), rightB_true (by omega) (by omega), rightB_true (by omega) (by omega), by omega⟩
theorem dist_yes {a b c : Int} (h1 : addB b c = true) (h2 : timesB a b = true) (h3 : timesB a c = true) (h4 : addB (timesV a b) (timesV a c) = true) :
    timesB a (addV b c) = true ∧ timesV a (addV b c) = addV (timesV a b) (timesV a c) := by
  rw [addV_of h4, addV_of h1, timesV_of h2, timesV_of h3]
  rw [timesV_of h2, timesV_of h3] at h4
  have e1 := (addB_iff _ _).1 h1
  have e2 := (timesB_iff _ _).1 h2
  have e3 := (timesB_iff _ _).1 h3
  have e4 := (addB_iff _ _).1 h4
  have e5 : a * (b + c) = a * b + a * c := Int.mul_add a b c
  have h5 : timesB a (b + c) = true := (timesB_iff _ _).2 ⟨e2.1, by omega, by omega⟩
  exact ⟨h5, by rw [timesV_of h5, e5]⟩
end Go.Proofs.Ytmjhldagmmpnjaa
