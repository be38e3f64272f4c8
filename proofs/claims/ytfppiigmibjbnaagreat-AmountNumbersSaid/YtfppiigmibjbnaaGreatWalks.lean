/- The laws AmountTwo and AmountSums walk through, at this translation. -/
import Derived.Test.YtfppiigmibjbnaaGreatPostZ
import Derived.Test.YtfppiigmibjbnaaGreatLawJ
namespace Go.Proofs.YtfppiigmibjbnaaGreat
open Go.ChangeShapes Go.WideShapes Go.ChangeAt Go.RowKit Go.Maps
set_option linter.unusedVariables false

set_option maxHeartbeats 1000000 in
theorem two_walk (a b : Int) (w : World) : Calls Tryz.prog 14 #[.int .i64 a, .int .i64 b] w fun e w' => e = .returned (.bool true) ∧ Below w.heap.size w w' := by
  go_enter Tryz.func14, Tryz.ntmps14
  go_wp2_with (first
    | (go_at_call 18; ((with_reducible refine (add_any a b _).mono ?_); rintro e w' ⟨rfl, rfl⟩))
    | (go_at_call 22; ((with_reducible refine (radd_any a b _).mono ?_); rintro e w' ⟨rfl, rfl⟩))
    | (go_at_call 16; ((with_reducible refine (times_any a b _).mono ?_); rintro e w' ⟨rfl, rfl⟩))
    | (go_at_call 25; ((with_reducible refine (rtimes_any a b _).mono ?_); rintro e w' ⟨rfl, rfl⟩))
    | (go_at_call 19; ((with_reducible refine (right_any a _).mono ?_); rintro e w' ⟨rfl, rfl⟩))
    | (go_at_call 26; ((with_reducible refine (rright_any a _).mono ?_); rintro e w' ⟨rfl, rfl⟩))
    | (go_at_call 6; ((with_reducible refine (awake_any _).mono ?_); rintro e w1 ⟨rfl, hb1⟩)))
  go_ret
  exact ⟨rfl, hb1⟩

theorem lent_reads {l : List Int} {w1 : World} {g base : Nat} (h : w1.ownsRow base 2 1 (.slice (some ⟨g, 0, none⟩) (l.length + 12) (l.length + 12)) (l.length + 12) ((l ++ marks 1 12).map (Value.int .i64))) (hlen : l.length ≤ 1048576) :
    ISl w1 w1.heap.size (.slice (some ⟨g, 0, none⟩) l.length (l.length + 12)) l := by
  refine ⟨some ⟨g, 0, none⟩, l.length + 12, rfl, by omega, by unfold maxLen; omega, fun h => (by cases h), ?_⟩
  have h2 := (Lies.own h).take_ l.length
  rw [List.map_append, List.take_append_of_le_length (by simp), List.take_of_length_le (by simp)] at h2
  exact h2

set_option maxHeartbeats 1000000 in
theorem sums_walk (v : Value) (l : List Int) (w : World) (hv : ISl w w.heap.size v l) : Calls Tryz.prog 15 #[v] w fun e w' => e = .returned (.bool true) ∧ Below w.heap.size w w' := by
  obtain ⟨A, c, rfl, hc1, hc2, hcz, hl⟩ := id hv
  have hll : l.length ≤ 9223372036854775807 := by unfold maxLen at hc2; omega
  by_cases hlen : l.length ≤ 300
  · have hlt2 : decide ((300 : Int) < (l.length : Int)) = false := decide_eq_false (by omega)
    go_enter Tryz.func15, Tryz.ntmps15
    go_wp2_with (first
      | (go_at_call 27; ((with_reducible refine (lent_any _ l w.heap.size w hv (Nat.le_refl _) (by omega)).mono ?_); rintro e w1 ⟨rfl, hb1, hrow⟩))
      | (go_at_call 17; ((with_reducible refine (sum_any _ l w1.heap.size w1 (lent_reads hrow (by omega)) (by omega)).mono ?_); rintro e w' ⟨rfl, rfl⟩))
      | (go_at_call 28; ((with_reducible refine (rsum_any _ l w.heap.size w1 (hv.below hb1) (by omega)).mono ?_); rintro e w' ⟨rfl, rfl⟩))
      | (go_at_call 29; ((with_reducible refine (kept_any _ l w1.heap.size w.heap.size w1 ((hv.below hb1).mono hb1.size) ((Lies.own hrow)) (Nat.le_refl _) (by omega)).mono ?_); rintro e w2 ⟨rfl, hb2⟩))
      | (go_at_call 6; ((with_reducible refine (awake_any _).mono ?_); rintro e w3 ⟨rfl, hb3⟩)))
    go_ret
    exact ⟨rfl, (hb1.trans (hb2.mono hb1.size)).trans (hb3.mono (Nat.le_trans hb1.size hb2.size))⟩
  · have hlt2 : decide ((300 : Int) < (l.length : Int)) = true := decide_eq_true (by omega)
    go_enter Tryz.func15, Tryz.ntmps15
    go_wp2_with (go_at_call 6; ((with_reducible refine (awake_any _).mono ?_); rintro e w3 ⟨rfl, hb3⟩))
    go_ret
    exact ⟨rfl, hb3⟩

end Go.Proofs.YtfppiigmibjbnaaGreat
