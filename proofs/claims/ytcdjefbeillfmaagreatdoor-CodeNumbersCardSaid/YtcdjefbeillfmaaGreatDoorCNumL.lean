/- The numbers and the texts that CodeNumbers goes through. No walk. -/
import Derived.Test.YtcdjefbeillfmaaGreatDoorCNum
namespace Go.Proofs.YtcdjefbeillfmaaGreatDoor
open Go.ChangeShapes Go.WideShapes Go.ChangeAt Go.RowKit Go.Shelf Go.Sort
set_option linter.unusedVariables false
set_option maxRecDepth 100000

def numsC : Array Value := #[.int .i64 (-9223372036854775808), .int .i64 (-9223372036854775807), .int .i64 (-10), .int .i64 (-1), .int .i64 0, .int .i64 1, .int .i64 9, .int .i64 10, .int .i64 9223372036854775807]
theorem nums_at (i : Nat) (h : i < 9) : ∃ x : Int, numsC[i]? = some (.int .i64 x) ∧ -9223372036854775808 ≤ x ∧ x ≤ 9223372036854775807 := by
  match i, h with
  | 0, _ => exact ⟨_, rfl, by omega, by omega⟩
  | 1, _ => exact ⟨_, rfl, by omega, by omega⟩
  | 2, _ => exact ⟨_, rfl, by omega, by omega⟩
  | 3, _ => exact ⟨_, rfl, by omega, by omega⟩
  | 4, _ => exact ⟨_, rfl, by omega, by omega⟩
  | 5, _ => exact ⟨_, rfl, by omega, by omega⟩
  | 6, _ => exact ⟨_, rfl, by omega, by omega⟩
  | 7, _ => exact ⟨_, rfl, by omega, by omega⟩
  | 8, _ => exact ⟨_, rfl, by omega, by omega⟩
  | i + 9, h => exact absurd h (by omega)
theorem nums_cell (w : World) (i : Nat) (h : i < 9) : ∃ x : Int, (w.alloc (.cells numsC 2)).cell? ⟨w.heap.size, i, none⟩ = some (.int .i64 x) ∧ -9223372036854775808 ≤ x ∧ x ≤ 9223372036854775807 := by
  obtain ⟨x, h1, h2, h3⟩ := nums_at i h
  exact ⟨x, by rw [cell_of_row _ _ _ _ _ _ (heap_alloc_new w _)]; exact h1, h2, h3⟩

/-- Not ok: no number. -/
theorem num_range {l : List UInt8} (h : (match Lib.atoiAll l with | .ok _ => true | _ => false) = false) : numL l = none := by
  unfold numL
  cases e : Lib.atoiAll l with
  | ok v => rw [e] at h; cases h
  | _ => rfl

theorem no_0 : numL [] = none := num_no (.inl (by decide))
theorem no_1 : numL [45] = none := num_no (.inl (by decide))
theorem no_2 : numL [45, 48] = none := num_no (.inr (.inr (by decide)))
theorem no_3 : numL [48, 48] = none := num_no (.inl (by decide))
theorem no_4 : numL [48, 49] = none := num_no (.inl (by decide))
theorem no_5 : numL [45, 48, 49] = none := num_no (.inl (by decide))
theorem no_6 : numL [43, 49] = none := num_no (.inl (by decide))
theorem no_7 : numL [49, 32] = none := num_no (.inl (by decide))
theorem no_8 : numL [32, 49] = none := num_no (.inl (by decide))
theorem no_9 : numL [49, 97] = none := num_no (.inl (by decide))
theorem no_10 : numL [57, 50, 50, 51, 51, 55, 50, 48, 51, 54, 56, 53, 52, 55, 55, 53, 56, 48, 56] = none := num_range (by kernel_rfl)
theorem no_11 : numL [45, 57, 50, 50, 51, 51, 55, 50, 48, 51, 54, 56, 53, 52, 55, 55, 53, 56, 48, 57] = none := num_range (by kernel_rfl)
theorem no_12 : numL [49, 48, 48, 48, 48, 48, 48, 48, 48, 48, 48, 48, 48, 48, 48, 48, 48, 48, 48, 48] = none := num_no (.inr (.inl (by decide)))
theorem no_13 : numL [48, 120, 49] = none := num_no (.inl (by decide))
theorem no_14 : numL [49, 46, 48] = none := num_no (.inl (by decide))
theorem no_15 : numL [45, 45, 49] = none := num_no (.inl (by decide))
def noC : Array Value := #[.string ⟨#[]⟩, .string ⟨#[45]⟩, .string ⟨#[45, 48]⟩, .string ⟨#[48, 48]⟩, .string ⟨#[48, 49]⟩, .string ⟨#[45, 48, 49]⟩, .string ⟨#[43, 49]⟩, .string ⟨#[49, 32]⟩, .string ⟨#[32, 49]⟩, .string ⟨#[49, 97]⟩, .string ⟨#[57, 50, 50, 51, 51, 55, 50, 48, 51, 54, 56, 53, 52, 55, 55, 53, 56, 48, 56]⟩, .string ⟨#[45, 57, 50, 50, 51, 51, 55, 50, 48, 51, 54, 56, 53, 52, 55, 55, 53, 56, 48, 57]⟩, .string ⟨#[49, 48, 48, 48, 48, 48, 48, 48, 48, 48, 48, 48, 48, 48, 48, 48, 48, 48, 48, 48]⟩, .string ⟨#[48, 120, 49]⟩, .string ⟨#[49, 46, 48]⟩, .string ⟨#[45, 45, 49]⟩]
theorem no_at (i : Nat) (h : i < 16) : ∃ s : ByteArray, noC[i]? = some (.string s) ∧ s.size ≤ 20 ∧ numL s.data.toList = none := by
  match i, h with
  | 0, _ => exact ⟨_, rfl, by decide, no_0⟩
  | 1, _ => exact ⟨_, rfl, by decide, no_1⟩
  | 2, _ => exact ⟨_, rfl, by decide, no_2⟩
  | 3, _ => exact ⟨_, rfl, by decide, no_3⟩
  | 4, _ => exact ⟨_, rfl, by decide, no_4⟩
  | 5, _ => exact ⟨_, rfl, by decide, no_5⟩
  | 6, _ => exact ⟨_, rfl, by decide, no_6⟩
  | 7, _ => exact ⟨_, rfl, by decide, no_7⟩
  | 8, _ => exact ⟨_, rfl, by decide, no_8⟩
  | 9, _ => exact ⟨_, rfl, by decide, no_9⟩
  | 10, _ => exact ⟨_, rfl, by decide, no_10⟩
  | 11, _ => exact ⟨_, rfl, by decide, no_11⟩
  | 12, _ => exact ⟨_, rfl, by decide, no_12⟩
  | 13, _ => exact ⟨_, rfl, by decide, no_13⟩
  | 14, _ => exact ⟨_, rfl, by decide, no_14⟩
  | 15, _ => exact ⟨_, rfl, by decide, no_15⟩
  | i + 16, h => exact absurd h (by omega)
theorem no_cell (w : World) (i : Nat) (h : i < 16) : ∃ s : ByteArray, (w.alloc (.cells noC 9)).cell? ⟨w.heap.size, i, none⟩ = some (.string s) ∧ s.size ≤ 20 ∧ numL s.data.toList = none := by
  obtain ⟨x, h1, h2, h3⟩ := no_at i h
  exact ⟨x, by rw [cell_of_row _ _ _ _ _ _ (heap_alloc_new w _)]; exact h1, h2, h3⟩

theorem number_back (n : Int) (w : World) (hv : Vars w) (h0 : -9223372036854775808 ≤ n) (h1 : n ≤ 9223372036854775807) :
    Calls Tryz.prog 16 #[.string ⟨(Lib.itoa n).toArray⟩] w fun e w' => e = .returned (.tuple #[.int .i64 n, .bool true]) ∧ Below w.heap.size w w' :=
  (number_any ⟨(Lib.itoa n).toArray⟩ w hv (by have := Lib.itoa_length_le n h0 h1; show (Lib.itoa n).toArray.size ≤ _; simp; omega)).mono fun e w' ⟨he, hb⟩ => ⟨he.trans (by
    have e1 := num_text h0 h1
    exact ret_ib (by simp [numV, e1]) (by simp [numB, e1])), hb⟩
theorem number_no (s : ByteArray) (w : World) (hv : Vars w) (hs : s.size ≤ 20) (h : numL s.data.toList = none) :
    Calls Tryz.prog 16 #[.string s] w fun e w' => e = .returned (.tuple #[.int .i64 0, .bool false]) ∧ Below w.heap.size w w' :=
  (number_any s w hv (by omega)).mono fun e w' ⟨he, hb⟩ => ⟨he.trans (ret_ib (by simp [numV, h]) (by simp [numB, h])), hb⟩
end Go.Proofs.YtcdjefbeillfmaaGreatDoor
