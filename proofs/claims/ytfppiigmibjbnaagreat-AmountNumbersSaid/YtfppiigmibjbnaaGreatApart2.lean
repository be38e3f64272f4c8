/- Two lists that lie apart. -/
import Derived.Test.YtfppiigmibjbnaaGreatApart
import Derived.Test.YtfppiigmibjbnaaGreatLentAt
namespace Go.Proofs.YtfppiigmibjbnaaGreat
open Go.ChangeShapes Go.WideShapes Go.ChangeAt Go.RowKit Go.Maps
set_option linter.unusedVariables false

def pairV (a b : Value) : Nat → Value := fun j => if j = 0 then a else b
theorem pair_new (w : World) (a b : Value) : (w.alloc (.cells #[a, b] 22)).ownsRow w.heap.size 22 1 (.slice (some ⟨w.heap.size, 0, none⟩) 2 2) 2 (listOf 2 (pairV a b)) :=
  ⟨rfl, .inr ⟨w.heap.size, 2, _, rfl, Nat.le_refl _, heap_alloc_new w _, Nat.le_refl _, by decide, rfl, rfl⟩⟩
theorem apart2 {W : World} {v1 v2 : Value} {n b1 b2 B0 : Nat} {xs : List Value} (g : Nat) (hg : W.heap.size = g) (h1 : W.ownsRow b1 38 2 v1 n xs) (h2 : W.ownsRow b2 38 2 v2 n xs) (hlt : ∀ b, v1.ownBlock = some b → b < b2) (hB1 : B0 ≤ b1) (hB2 : B0 ≤ b2) (hBW : B0 ≤ W.heap.size) (hn : n ≤ 1048576) :
    Calls Tryz.prog 13 #[.slice (some ⟨g, 0, none⟩) 2 2] (W.alloc (.cells #[v1, v2] 22)) fun e w' => e = .returned (.bool true) ∧ Go.RowKit.Below B0 W w' := by
  subst hg
  refine (apartp_any 2 W.heap.size 2 W.heap.size B0 B0 (pairV v1 v2) (fun _ => n) (fun _ => xs) _ (by omega) (by omega) (fun _ _ => hn) (pair_new W v1 v2) (fun j hj => ?_) (fun i j hi hj hne b hb => ?_) (Nat.le_refl _) (by simp only [World.size_alloc]; omega)).mono ?_
  · match j, hj with
    | 0, _ => exact (own_base h1 hB1).alloc _
    | 1, _ => exact (own_base h2 hB2).alloc _
  · match i, j, hi, hj, hne, hb with
    | 0, 1, _, _, _, hb => exact fun hb' => by have h3 := hlt b hb; have h4 := (h2.lt b hb').1; omega
    | 1, 0, _, _, _, hb => exact fun hb' => by have h3 := hlt b hb'; have h4 := (h2.lt b hb).1; omega
    | 0, 0, _, _, hne, _ => exact absurd rfl hne
    | 1, 1, _, _, hne, _ => exact absurd rfl hne
  · rintro e w' ⟨he, hb⟩
    exact ⟨he, ((Below.refl _ W).alloc hBW _).trans hb⟩
end Go.Proofs.YtfppiigmibjbnaaGreat
