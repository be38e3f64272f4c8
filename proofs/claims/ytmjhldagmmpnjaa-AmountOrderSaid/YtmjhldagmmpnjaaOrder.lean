/- For any three numbers the law AmountOrder returns true, and the numbers read as before. No condition. -/
import Derived.Test.YtmjhldagmmpnjaaTwo
import Derived.Test.YtmjhldagmmpnjaaSum
import Derived.Test.YtmjhldagmmpnjaaOrdMath
namespace Go.Proofs.Ytmjhldagmmpnjaa
open Go.ChangeShapes Go.WideShapes Go.ChangeAt Go.RowKit Go.Maps
set_option linter.unusedVariables false

theorem sum3 (a b c : Int) : sumB [a, b, c] = allB a b c ∧ sumV [a, b, c] = allV a b c := by
  by_cases h : allB a b c = true
  · have h0 := (allB_iff a b c).1 h
    have h1 : addB 0 a = true := (addB_iff _ _).2 (by omega)
    have h2 : addB (0 + a) b = true := (addB_iff _ _).2 (by omega)
    have h3 : addB (0 + a + b) c = true := (addB_iff _ _).2 (by omega)
    have e : sumFrom 0 [a, b, c] = some (0 + a + b + c) := by simp only [sumFrom]; rw [if_pos h1, if_pos h2, if_pos h3]
    rw [(sum_yes e).1, (sum_yes e).2, h, allV_of h]
    exact ⟨rfl, by omega⟩
  · have hf : allB a b c = false := by simpa using h
    rw [allB_iff] at h
    have e : sumFrom 0 [a, b, c] = none := by
      simp only [sumFrom]
      by_cases h1 : addB 0 a = true
      · rw [if_pos h1]
        by_cases h2 : addB (0 + a) b = true
        · rw [if_pos h2]
          by_cases h3 : addB (0 + a + b) c = true
          · have e1 := (addB_iff _ _).1 h1
            have e2 := (addB_iff _ _).1 h2
            have e3 := (addB_iff _ _).1 h3
            exact absurd (by omega) h
          · rw [if_neg h3]
        · rw [if_neg h2]
      · rw [if_neg h1]
    rw [(sum_no e).1, (sum_no e).2, hf]
    exact ⟨rfl, by unfold allV; rw [hf]; rfl⟩

theorem sum3_call (a b c : Int) (w : World) : Calls Try.prog 15 #[.slice (some ⟨w.heap.size, 0, none⟩) 3 3] (w.alloc (.cells #[.int .i64 a, .int .i64 b, .int .i64 c] 2)) fun e w' =>
    e = .returned (.tuple #[.int .i64 (allV a b c), .bool (allB a b c)]) ∧ w.alloc (.cells #[.int .i64 a, .int .i64 b, .int .i64 c] 2) = w' := by
  have h := sum_any (.slice (some ⟨w.heap.size, 0, none⟩) 3 3) [a, b, c] (w.heap.size + 1) (w.alloc (.cells #[.int .i64 a, .int .i64 b, .int .i64 c] 2))
    ⟨some ⟨w.heap.size, 0, none⟩, 3, rfl, Nat.le_refl _, by simp [maxLen], fun h => (by cases h), Lies.fresh w #[.int .i64 a, .int .i64 b, .int .i64 c] 2 _ rfl⟩ (by simp)
  rw [(sum3 a b c).1, (sum3 a b c).2] at h
  exact h

/-- The tests of the law's middle: what is told of the groupings. -/
def Mid (ok left right whole all : Bool) (z v s : Int) : Prop :=
  (all = true ∧ ok = true ∧ right = true ∧ left = true ∧ whole = true ∧ z = s ∧ v = s) ∨
  (all = false ∧ ok = true ∧ left = false ∧ right = true ∧ whole = false) ∨ (all = false ∧ ok = true ∧ left = false ∧ right = false) ∨
  (all = false ∧ ok = false ∧ right = true ∧ whole = false) ∨ (all = false ∧ ok = false ∧ right = false)
theorem mid_holds (a b c : Int) : Mid (addB a b) (addB (addV a b) c) (addB b c) (addB a (addV b c)) (allB a b c) (addV (addV a b) c) (addV a (addV b c)) (allV a b c) := by
  unfold Mid
  by_cases h : allB a b c = true
  · obtain ⟨h1, h2, h3, h4, h5, h6⟩ := all_yes h
    exact .inl ⟨h, h1, h2, h3, h4, h5, h6⟩
  · have h : allB a b c = false := by simpa using h
    obtain ⟨h1, h2⟩ := all_no h
    refine .inr ?_
    by_cases h3 : addB a b = true
    · by_cases h4 : addB b c = true
      · exact .inl ⟨h, h3, h1 h3, h4, h2 h4⟩
      · exact .inr (.inl ⟨h, h3, h1 h3, by simpa using h4⟩)
    · by_cases h4 : addB b c = true
      · exact .inr (.inr (.inl ⟨h, by simpa using h3, h4, h2 h4⟩))
      · exact .inr (.inr (.inr ⟨h, by simpa using h3, by simpa using h4⟩))
/-- The tests of its end: what is told of products of sums. -/
def Dis (right fine second made sum : Bool) (d f : Int) : Prop :=
  (right = true → (fine = true ∧ second = true ∧ made = true ∧ sum = true ∧ d = f) ∨ (fine = true ∧ second = true ∧ made = false) ∨ (fine = true ∧ second = false) ∨ fine = false)
theorem dis_holds (a b c : Int) : Dis (addB b c) (timesB a b) (timesB a c) (addB (timesV a b) (timesV a c)) (timesB a (addV b c)) (timesV a (addV b c)) (addV (timesV a b) (timesV a c)) := by
  intro h1
  by_cases h2 : timesB a b = true
  · by_cases h3 : timesB a c = true
    · by_cases h4 : addB (timesV a b) (timesV a c) = true
      · obtain ⟨h5, h6⟩ := dist_yes h1 h2 h3 h4
        exact .inl ⟨h2, h3, h4, h5, h6⟩
      · exact .inr (.inl ⟨h2, h3, by simpa using h4⟩)
    · exact .inr (.inr (.inl ⟨h2, by simpa using h3⟩))
  · exact .inr (.inr (.inr (by simpa using h2)))

/-- A call of two numbers that answers a number and whether there is one. -/
def Tells (f : Nat) (a b x : Int) (ok : Bool) : Prop := ∀ w : World, Calls Try.prog f #[.int .i64 a, .int .i64 b] w fun e w' => e = .returned (.tuple #[.int .i64 x, .bool ok]) ∧ w = w'
def Tells3 (a b c x : Int) (ok : Bool) : Prop := ∀ w : World, Calls Try.prog 15 #[.slice (some ⟨w.heap.size, 0, none⟩) 3 3] (w.alloc (.cells #[.int .i64 a, .int .i64 b, .int .i64 c] 2)) fun e w' =>
    e = .returned (.tuple #[.int .i64 x, .bool ok]) ∧ w.alloc (.cells #[.int .i64 a, .int .i64 b, .int .i64 c] 2) = w'
def TellsB (n : Int) : Prop := ∀ w : World, Calls Try.prog 11 #[.int .i64 n] w fun e w' => e = .returned (.bool true) ∧ w = w'

theorem tcall {f : Nat} {a b x : Int} {ok : Bool} (h : Hid (Tells f a b x ok)) (w : World) : Calls Try.prog f #[.int .i64 a, .int .i64 b] w fun e w' => e = .returned (.tuple #[.int .i64 x, .bool ok]) ∧ w = w' := h.out w
theorem tcall3 {a b c x : Int} {ok : Bool} (h : Hid (Tells3 a b c x ok)) (w : World) (n : Nat) (hn : w.heap.size = n) : Calls Try.prog 15 #[.slice (some ⟨n, 0, none⟩) 3 3] (w.alloc (.cells #[.int .i64 a, .int .i64 b, .int .i64 c] 2)) fun e w' =>
    e = .returned (.tuple #[.int .i64 x, .bool ok]) ∧ w.alloc (.cells #[.int .i64 a, .int .i64 b, .int .i64 c] 2) = w' := by subst hn; exact h.out w
theorem tcallB {n : Int} (h : Hid (TellsB n)) (w : World) : Calls Try.prog 11 #[.int .i64 n] w fun e w' => e = .returned (.bool true) ∧ w = w' := h.out w

set_option maxRecDepth 100000 in
set_option maxHeartbeats 4000000 in
theorem order_all (a b c x p s w1 d e f : Int) (fine sum second made : Bool) (w : World)
    (h1 : Hid (Tells 7 a b x true)) (h2 : Hid (Tells 7 b a x true)) (h3 : Hid (Tells 9 a b p fine)) (h4 : Hid (Tells 9 b a p fine))
    (h5 : Hid (Tells3 a b c s true)) (h6 : Hid (Tells3 c a b s true)) (h7 : Hid (Tells 7 x c s true)) (h8 : Hid (Tells 7 b c w1 true)) (h9 : Hid (Tells 7 a w1 s true))
    (h10 : Hid (Tells 9 a w1 d sum)) (h11 : Hid (Tells 9 a c e second)) (h12 : Hid (Tells 7 p e f made))
    (hd : (fine = true ∧ second = true ∧ made = true ∧ sum = true ∧ d = f) ∨ (fine = true ∧ second = true ∧ made = false) ∨ (fine = true ∧ second = false) ∨ fine = false)
    (r1 : Hid (TellsB a)) (r2 : Hid (TellsB b)) (r3 : Hid (TellsB c)) (r4 : Hid (TellsB s)) (hge : a ≤ s) :
    Calls Try.prog 5 #[.int .i64 a, .int .i64 b, .int .i64 c] w fun e w' => e = .returned (.bool true) ∧ Below w.heap.size w w' := by
  rcases hd with ⟨rfl, rfl, rfl, rfl, rfl⟩ | ⟨rfl, rfl, rfl⟩ | ⟨rfl, rfl⟩ | rfl
  all_goals
    go_enter Try.func5, Try.ntmps5
    go_wp2_with (first
      | (go_at_call 13; ((with_reducible refine (awake_any _).mono ?_); rintro e w2 ⟨rfl, hb2⟩))
      | (go_at_call 7; ((with_reducible refine (tcall h1 _).mono ?_); rintro e w' ⟨rfl, rfl⟩))
      | (go_at_call 7; ((with_reducible refine (tcall h2 _).mono ?_); rintro e w' ⟨rfl, rfl⟩))
      | (go_at_call 7; ((with_reducible refine (tcall h7 _).mono ?_); rintro e w' ⟨rfl, rfl⟩))
      | (go_at_call 7; ((with_reducible refine (tcall h8 _).mono ?_); rintro e w' ⟨rfl, rfl⟩))
      | (go_at_call 7; ((with_reducible refine (tcall h9 _).mono ?_); rintro e w' ⟨rfl, rfl⟩))
      | (go_at_call 7; ((with_reducible refine (tcall h12 _).mono ?_); rintro e w' ⟨rfl, rfl⟩))
      | (go_at_call 9; ((with_reducible refine (tcall h3 _).mono ?_); rintro e w' ⟨rfl, rfl⟩))
      | (go_at_call 9; ((with_reducible refine (tcall h4 _).mono ?_); rintro e w' ⟨rfl, rfl⟩))
      | (go_at_call 9; ((with_reducible refine (tcall h10 _).mono ?_); rintro e w' ⟨rfl, rfl⟩))
      | (go_at_call 9; ((with_reducible refine (tcall h11 _).mono ?_); rintro e w' ⟨rfl, rfl⟩))
      | (go_at_call 15; ((with_reducible refine (tcall3 h5 _ _ (by simp)).mono ?_); rintro e w' ⟨rfl, rfl⟩))
      | (go_at_call 15; ((with_reducible refine (tcall3 h6 _ _ (by simp)).mono ?_); rintro e w' ⟨rfl, rfl⟩))
      | (go_at_call 11; ((with_reducible refine (tcallB r1 _).mono ?_); rintro e w' ⟨rfl, rfl⟩))
      | (go_at_call 11; ((with_reducible refine (tcallB r2 _).mono ?_); rintro e w' ⟨rfl, rfl⟩))
      | (go_at_call 11; ((with_reducible refine (tcallB r3 _).mono ?_); rintro e w' ⟨rfl, rfl⟩))
      | (go_at_call 11; ((with_reducible refine (tcallB r4 _).mono ?_); rintro e w' ⟨rfl, rfl⟩)))
    go_ret
    exact ⟨rfl, (hb2.alloc hb2.size _).alloc (by simp only [World.size_alloc]; have := hb2.size; omega) _⟩

set_option maxRecDepth 100000 in
set_option maxHeartbeats 4000000 in
theorem order_part (a b c x p s z w1 v d e f : Int) (ok left right whole fine sum second made : Bool) (w : World)
    (h1 : Hid (Tells 7 a b x ok)) (h2 : Hid (Tells 7 b a x ok)) (h3 : Hid (Tells 9 a b p fine)) (h4 : Hid (Tells 9 b a p fine))
    (h5 : Hid (Tells3 a b c s false)) (h6 : Hid (Tells3 c a b s false)) (h7 : Hid (Tells 7 x c z left)) (h8 : Hid (Tells 7 b c w1 right)) (h9 : Hid (Tells 7 a w1 v whole))
    (h10 : Hid (Tells 9 a w1 d sum)) (h11 : Hid (Tells 9 a c e second)) (h12 : Hid (Tells 7 p e f made))
    (hd : (right = true ∧ whole = false ∧ ((fine = true ∧ second = true ∧ made = true ∧ sum = true ∧ d = f) ∨ (fine = true ∧ second = true ∧ made = false) ∨ (fine = true ∧ second = false) ∨ fine = false)) ∨ right = false)
    (ho : (ok = true ∧ left = false) ∨ ok = false) :
    Calls Try.prog 5 #[.int .i64 a, .int .i64 b, .int .i64 c] w fun e w' => e = .returned (.bool true) ∧ Below w.heap.size w w' := by
  rcases ho with ⟨rfl, rfl⟩ | rfl <;> rcases hd with ⟨rfl, rfl, ⟨rfl, rfl, rfl, rfl, rfl⟩ | ⟨rfl, rfl, rfl⟩ | ⟨rfl, rfl⟩ | rfl⟩ | rfl
  all_goals
    go_enter Try.func5, Try.ntmps5
    go_wp2_with (first
      | (go_at_call 13; ((with_reducible refine (awake_any _).mono ?_); rintro e w2 ⟨rfl, hb2⟩))
      | (go_at_call 7; ((with_reducible refine (tcall h1 _).mono ?_); rintro e w' ⟨rfl, rfl⟩))
      | (go_at_call 7; ((with_reducible refine (tcall h2 _).mono ?_); rintro e w' ⟨rfl, rfl⟩))
      | (go_at_call 7; ((with_reducible refine (tcall h7 _).mono ?_); rintro e w' ⟨rfl, rfl⟩))
      | (go_at_call 7; ((with_reducible refine (tcall h8 _).mono ?_); rintro e w' ⟨rfl, rfl⟩))
      | (go_at_call 7; ((with_reducible refine (tcall h9 _).mono ?_); rintro e w' ⟨rfl, rfl⟩))
      | (go_at_call 7; ((with_reducible refine (tcall h12 _).mono ?_); rintro e w' ⟨rfl, rfl⟩))
      | (go_at_call 9; ((with_reducible refine (tcall h3 _).mono ?_); rintro e w' ⟨rfl, rfl⟩))
      | (go_at_call 9; ((with_reducible refine (tcall h4 _).mono ?_); rintro e w' ⟨rfl, rfl⟩))
      | (go_at_call 9; ((with_reducible refine (tcall h10 _).mono ?_); rintro e w' ⟨rfl, rfl⟩))
      | (go_at_call 9; ((with_reducible refine (tcall h11 _).mono ?_); rintro e w' ⟨rfl, rfl⟩))
      | (go_at_call 15; ((with_reducible refine (tcall3 h5 _ _ (by simp)).mono ?_); rintro e w' ⟨rfl, rfl⟩))
      | (go_at_call 15; ((with_reducible refine (tcall3 h6 _ _ (by simp)).mono ?_); rintro e w' ⟨rfl, rfl⟩)))
    go_ret
    exact ⟨rfl, (hb2.alloc hb2.size _).alloc (by simp only [World.size_alloc]; have := hb2.size; omega) _⟩
end Go.Proofs.Ytmjhldagmmpnjaa
