/- storemankit.Pick: any number brought into a range. -/
import Derived.Test.YtdmgnafafafdpaaLSc
namespace Go.Proofs.Ytdmgnafafafdpaa
open Go.ChangeShapes Go.WideShapes Go.ChangeAt Go.RowKit
set_option linter.unusedVariables false

theorem ret_int {a b : Int} (h : a = b) : Ending.returned (.int .i64 a) = .returned (.int .i64 b) := by rw [h]
/-- Some number from 0 on, below n. -/
def SomeBelow (n : Nat) (w : World) (e : Ending) (w' : World) : Prop := ∃ k : Nat, k < n ∧ e = .returned (.int .i64 (k : Int)) ∧ w = w'
theorem pick_any (x : Int) (n : Nat) (w : World) (h1 : 1 ≤ n) (h2 : n ≤ 1099511627776) (h3 : -9223372036854775808 ≤ x) (h4 : x ≤ 9223372036854775807) :
    Calls Try.prog 17 #[.int .i64 x, .int .i64 (n : Int)] w (SomeBelow n w) := by
  have hr1 := Int.tmod_lt_of_pos x (show (0 : Int) < (n : Int) by omega)
  have hr2 := Int.lt_tmod_of_pos x (show (0 : Int) < (n : Int) by omega)
  have hn0 : ((n : Int) == 0) = false := by simp; omega
  by_cases hneg : x.tmod n < 0
  · go_enter Try.func17, Try.ntmps17
    go_wp2
    go_ret
    exact ⟨(x.tmod n + n).toNat, by omega, ret_int (by rw [Int.toNat_of_nonneg (by omega)]), rfl⟩
  · go_enter Try.func17, Try.ntmps17
    go_wp2
    go_ret
    exact ⟨(x.tmod n).toNat, by omega, ret_int (by rw [Int.toNat_of_nonneg (by omega)]), rfl⟩
theorem pick_k (x : Int) (w : World) (h3 : -9223372036854775808 ≤ x) (h4 : x ≤ 9223372036854775807) :
    Calls Try.prog 17 #[.int .i64 x, .int .i64 1000] w (SomeBelow 1000 w) := pick_any x 1000 w (by omega) (by omega) h3 h4
end Go.Proofs.Ytdmgnafafafdpaa
