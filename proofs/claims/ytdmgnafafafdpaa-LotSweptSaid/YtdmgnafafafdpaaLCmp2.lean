/- The contracts of lot.Compare and of the reference's Compare. -/
import Derived.Test.YtdmgnafafafdpaaLCmp
namespace Go.Proofs.Ytdmgnafafafdpaa
open Go.ChangeShapes Go.WideShapes Go.ChangeAt Go.RowKit Go.Sort
set_option linter.unusedVariables false

theorem two_cells (W : World) (g : Nat) (hg : g = W.heap.size) (u v : Value) (t : TypeId) : (W.alloc (.cells #[u, v] t)).drew.cell? ⟨g, 0, none⟩ = some u ∧ (W.alloc (.cells #[u, v] t)).drew.cell? ⟨g, 1, none⟩ = some v := by
  subst hg
  have h0 := fresh_cell W #[u, v] t 0
  have h1 := fresh_cell W #[u, v] t 1
  rw [addr0] at h0 h1
  exact ⟨h0, h1⟩
/-- A world that has drawn, and that has blocks more. -/
def Grown (w w' : World) : Prop := ∃ q os, w' = grow (w.drewN q) os
theorem Grown.refl (w : World) : Grown w w := ⟨0, #[], by rw [grow_empty]; rfl⟩
theorem Grown.alloc {w w' : World} (h : Grown w w') (o : Obj) : Grown w (w'.alloc o) := by
  obtain ⟨q, os, rfl⟩ := h
  exact ⟨q, os ++ #[o], by rw [alloc_eq_grow, grow_grow]⟩
theorem Grown.drew {w w' : World} (h : Grown w w') : Grown w w'.drew := by
  obtain ⟨q, os, rfl⟩ := h
  exact ⟨q + 1, os, rfl⟩
theorem Grown.below {w w' : World} (h : Grown w w') : Below w.heap.size w w' := by
  obtain ⟨q, os, rfl⟩ := h
  refine ⟨rfl, rfl, rfl, by simp [grow], fun i hi => ?_⟩
  show ((w.drewN q).heap ++ os)[i]? = _
  rw [Array.getElem?_append_left (by show i < w.heap.size; omega)]
  rfl
set_option maxHeartbeats 2000000 in
theorem compare_grown (x y : Lt) (w : World) : Calls Try.prog 8 #[aggL x, aggL y] w fun e w' => e = .returned (.int .i64 (cmpL x y)) ∧ ∃ q os, w' = grow (w.drewN q) os := by
  rw [cmpL_or]
  obtain ⟨u, hu⟩ : ∃ u, u = cmpI x.un y.un := ⟨_, rfl⟩
  obtain ⟨v, hv⟩ : ∃ v, v = cmpI x.id y.id := ⟨_, rfl⟩
  rw [← hu, ← hv]
  have hc1 : ∀ W, Calls Try.prog 23 #[.int .i64 x.un, .int .i64 y.un] W fun e w' => e = .returned (.int .i64 u) ∧ W = w' := fun W => by rw [hu]; exact ccmp_any _ _ W
  have hc2 : ∀ W, Calls Try.prog 23 #[.int .i64 x.id, .int .i64 y.id] W fun e w' => e = .returned (.int .i64 v) ∧ W = w' := fun W => by rw [hv]; exact ccmp_any _ _ W
  have HC1 := Lib.hid hc1
  have HC2 := Lib.hid hc2
  clear hu hv hc1 hc2
  go_enter Try.func8, Try.ntmps8
  go_wp2_with fail
  go_region_held3 (fun w' => w'.cell? ⟨w.heap.size, 0, none⟩ = some (.int .i64 x.id) ∧ w'.cell? ⟨w.heap.size, 3, none⟩ = some (.int .i64 x.un) ∧ w'.cell? ⟨w.heap.size + 1, 0, none⟩ = some (.int .i64 y.id) ∧ w'.cell? ⟨w.heap.size + 1, 3, none⟩ = some (.int .i64 y.un)) (go_keep)
    (first
      | (go_at_call 23; (first | ((with_reducible refine (HC1.out _).mono ?_); rintro e w1 ⟨rfl, rfl⟩) | ((with_reducible refine (HC2.out _).mono ?_); rintro e w1 ⟨rfl, rfl⟩)))
      | (go_at_call 22; ((with_reducible refine (or_any u v _ _ ?_ ?_).mono ?_); (exact (two_cells _ _ (by simp) _ _ _).1); (exact (two_cells _ _ (by simp) _ _ _).2); rintro e w1 ⟨rfl, rfl⟩)))
  go_wp2
  go_ret
  exact ⟨rfl, ((((Grown.refl w).alloc _).alloc _).alloc _).drew⟩
theorem compare_any (x y : Lt) (w : World) : Calls Try.prog 8 #[aggL x, aggL y] w fun e w' => e = .returned (.int .i64 (cmpL x y)) ∧ Below w.heap.size w w' :=
  (compare_grown x y w).mono fun e w' ⟨he, hw⟩ => ⟨he, Grown.below hw⟩

theorem below_alloc3 (w : World) (o o' : Obj) : Below w.heap.size w ((w.alloc o).alloc o') := (below_alloc1 w o).alloc (by simp) _
set_option maxHeartbeats 2000000 in
theorem comparer_any (x y : Lt) (w : World) : Calls Try.prog 9 #[aggL x, aggL y] w fun e w' => e = .returned (.int .i64 (cmpL x y)) ∧ Below w.heap.size w w' := by
  unfold cmpL
  rcases cmpI_cases x.un y.un with ⟨h, e⟩ | ⟨h, e⟩ | ⟨h, e⟩
  · rw [e, if_neg (by decide)]
    clear e
    go_enter Try.func9, Try.ntmps9
    go_wp2
    go_ret
    exact ⟨rfl, below_alloc3 _ _ _⟩
  · rw [e, if_neg (by decide)]
    clear e
    have h1 : decide (x.un < y.un) = false := decide_eq_false (by omega)
    go_enter Try.func9, Try.ntmps9
    go_wp2
    go_ret
    exact ⟨rfl, below_alloc3 _ _ _⟩
  · rw [e, if_pos rfl]
    clear e
    have h1 : decide (x.un < y.un) = false := decide_eq_false (by omega)
    have h2 : decide (y.un < x.un) = false := decide_eq_false (by omega)
    clear h
    rcases cmpI_cases x.id y.id with ⟨h, e⟩ | ⟨h, e⟩ | ⟨h, e⟩
    · rw [e]
      clear e
      go_enter Try.func9, Try.ntmps9
      go_wp2
      go_ret
      exact ⟨rfl, below_alloc3 _ _ _⟩
    · rw [e]
      clear e
      have h3 : decide (x.id < y.id) = false := decide_eq_false (by omega)
      go_enter Try.func9, Try.ntmps9
      go_wp2
      go_ret
      exact ⟨rfl, below_alloc3 _ _ _⟩
    · rw [e]
      clear e
      have h3 : decide (x.id < y.id) = false := decide_eq_false (by omega)
      have h4 : decide (y.id < x.id) = false := decide_eq_false (by omega)
      clear h
      go_enter Try.func9, Try.ntmps9
      go_wp2
      go_ret
      exact ⟨rfl, below_alloc3 _ _ _⟩
end Go.Proofs.Ytdmgnafafafdpaa
