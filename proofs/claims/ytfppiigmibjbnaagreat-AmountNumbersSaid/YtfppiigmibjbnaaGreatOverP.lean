/- storemankit.OverParts: a list of parts and its spare room written over. -/
import Derived.Test.YtfppiigmibjbnaaGreatKeptP
namespace Go.Proofs.YtfppiigmibjbnaaGreat
open Go.ChangeShapes Go.WideShapes Go.ChangeAt Go.RowKit Go.Maps
set_option linter.unusedVariables false

theorem grown_set {a w : World} {g : Nat} (h : a.grownBy w (some g)) (j : Nat) (u : Value) : a.grownBy (w.setCell ⟨g, j, none⟩ u) (some g) :=
  ⟨h.os, h.tape, h.output, by have := h.size; simpa [World.setCell] using this, fun i hi hne => (Below.heap_setCell w ⟨g, j, none⟩ u i (fun e => hne (by rw [e]))).trans (h.block i hi hne)⟩
theorem grown_new {a w : World} {row : Option Nat} (h : a.grownBy w row) (o : Obj) : a.grownBy (w.alloc o) row :=
  ⟨h.os, h.tape, h.output, Nat.le_trans h.size (by simp), fun i hi hne => (Below.heap_alloc w o i (Nat.lt_of_lt_of_le hi h.size)).trans (h.block i hi hne)⟩

set_option maxRecDepth 100000 in
set_option maxHeartbeats 2000000 in
theorem overp_any (n g : Nat) (base : Nat) (X : List Value) (w : World) (hrow : w.ownsRow base 38 2 (.slice (some ⟨g, 0, none⟩) (n + 12) (n + 12)) (n + 12) X) (hn : n ≤ 1048576) :
    Calls Tryz.prog 10 #[.slice (some ⟨g, 0, none⟩) n (n + 12)] w fun e w' => e = .returned (.tuple #[]) ∧ w.grownBy w' (some g) := by
  go_enter Tryz.func10, Tryz.ntmps10
  go_wp2
  go_loopw [3] (fun i wr => ∃ (k : Nat) (Y : List Value), k ≤ n + 12 ∧ i = .int .i64 k ∧ w.grownBy wr (some g) ∧ wr.ownsRow base 38 2 (.slice (some ⟨g, 0, none⟩) (n + 12) (n + 12)) (n + 12) Y) (fun i _ => n + 12 - (intOf i).toNat)
  case atStart => exact ⟨0, X, Nat.zero_le _, rfl, World.grownBy.refl _ _, hrow⟩
  case round =>
    obtain ⟨k, Y, hk, rfl, hgr, hry⟩ := hrel
    by_cases hlt : k < n + 12
    · have hyl := hry.1
      obtain ⟨x0, hx0⟩ : ∃ x, Y[k * 2]? = some x := ⟨_, List.getElem?_eq_getElem (by omega)⟩
      obtain ⟨x1, hx1⟩ : ∃ x, Y[k * 2 + 1]? = some x := ⟨_, List.getElem?_eq_getElem (by omega)⟩
      have hc0 := (hry.cellAt (k * 2) (by omega)).trans hx0
      have hc1 := (hry.cellAt (k * 2 + 1) (by omega)).trans hx1
      have hf0 := hry.frozenAt (k * 2)
      have hf1 := hry.frozenAt (k * 2 + 1)
      have hgl := (hry.lt g rfl).2
      clear hx0 hx1
      have HYL : (n + 12) * 2 ≤ Y.length := by omega
      clear hyl
      go_wp2_with (go_at_call 20; ((with_reducible refine (markp_any 2 k _ (by omega) (by omega) (by omega) (by omega)).mono ?_); rintro e w' ⟨rfl, rfl⟩))
      go_roundw
      case rel => exact ⟨k + 1, _, by omega, by go_num, grown_new (grown_set (grown_set hgr _ _) _ _) _, ((hry.stored _ _).1.stored _ _).1.alloc _⟩
      case measure => simp [intOf]; omega
    · obtain rfl : k = n + 12 := by omega
      go_wp2
      go_end0
      exact ⟨rfl, hgr⟩
end Go.Proofs.YtfppiigmibjbnaaGreat
