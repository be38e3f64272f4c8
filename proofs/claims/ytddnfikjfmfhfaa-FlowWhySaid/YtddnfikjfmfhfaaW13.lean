/- The law FlowWhy: whatever lots and wants; the walk. Written by gen_fwhy.py. -/
import Derived.Deep.QuietTactic
import Derived.BigQuiet
import Derived.Test.YtddnfikjfmfhfaaW12
namespace Go.Proofs.Ytddnfikjfmfhfaa
open Go.ChangeShapes Go.WideShapes Go.ChangeAt Go.RowKit Go.Maps
set_option linter.unusedVariables false
abbrev lotO (r : Lt) : Obj := .cells #[.int .i64 r.id, .string ⟨r.item.toArray⟩, .int .i64 r.fr, .int .i64 r.un, .int .i64 r.qty, .bool r.arr] 42
abbrev wantO (x : Wt) : Obj := .cells #[.string ⟨x.item.toArray⟩, .int .i64 x.day, .int .i64 x.qty] 47
theorem one_lot (w : World) (r : Lt) : LSl (w.alloc (lotO r)) (w.heap.size + 1) (.slice (some ⟨w.heap.size, 0, none⟩) 1 1) [r] :=
  ⟨_, 1, rfl, Nat.le_refl _, by simp [maxLen], (fun h => by cases h), Lies.fresh w _ 42 _ rfl⟩
theorem one_want (w : World) (x : Wt) : WSl (w.alloc (wantO x)) (w.heap.size + 1) (.slice (some ⟨w.heap.size, 0, none⟩) 1 1) [x] :=
  ⟨_, 1, rfl, Nat.le_refl _, by simp [maxLen], (fun h => by cases h), Lies.fresh w _ 47 _ rfl⟩
/-- The lot of one day that can serve the want, and the want of one piece. -/
def probeL (x : Wt) : Lt := ⟨1, x.item, x.day, IntKind.i64.wrap (x.day + 1), 1, false⟩
def probeW (x : Wt) : Wt := ⟨x.item, x.day, 1⟩
theorem probe_right {x : Wt} (h : fitsP [probeL x] [probeW x]) (h1 : 1 ≤ x.qty) (h2 : x.qty ≤ 1125899906842624) : wantB x = true := by
  have hw := (mayB_true h.1).2.2.2.1 (probeW x) (by simp)
  unfold wantB at hw ⊢
  unfold probeW at hw
  simp only [Bool.and_eq_true, decide_eq_true_eq] at hw ⊢
  exact ⟨hw.1, hw.2.1, h1, h2⟩
theorem wnOf_take (ws : List Wt) (k : Nat) : (wnOf ws).take k = wnOf (ws.take k) := by unfold wnOf; rw [List.map_take]
theorem wnOf_succ {ws : List Wt} {k : Nat} {x : Wt} (hx : ws[k]? = some x) : (wnOf ws).take (k + 1) = (wnOf ws).take k ++ [(x, x.qty)] := by
  rw [List.take_add_one]
  have : (wnOf ws)[k]? = some (x, x.qty) := by unfold wnOf; rw [List.getElem?_map, hx]; rfl
  rw [this]; rfl
theorem wnOf_len (ws : List Wt) (k : Nat) (hk : k ≤ ws.length) : ((wnOf ws).take k).length = k := by unfold wnOf; rw [List.length_take, List.length_map, Nat.min_eq_left hk]
theorem wnOf_all (ws : List Wt) : (wnOf ws).take ws.length = wnOf ws := List.take_of_length_le (by unfold wnOf; rw [List.length_map]; exact Nat.le_refl _)
theorem need_step {ws : List Wt} {k : Nat} {x : Wt} {T : Nat → Bool} (hx : ws[k]? = some x) : Fl.needT T ((wnOf ws).take (k + 1)) = Fl.needT T ((wnOf ws).take k) + (if T k = true then x.qty else 0) := by
  rw [wnOf_succ hx, Fl.needT_snoc, wnOf_len ws k (Nat.le_of_lt (List.getElem?_eq_some_iff.1 hx).1)]
theorem meets_step {ws : List Wt} {k : Nat} {x : Wt} {T : Nat → Bool} {y : Lt} (hx : ws[k]? = some x) : Fl.meets servesB y T ((wnOf ws).take (k + 1)) = (Fl.meets servesB y T ((wnOf ws).take k) || (T k && servesB y x)) := by
  rw [wnOf_succ hx, Fl.meets_snoc, wnOf_len ws k (Nat.le_of_lt (List.getElem?_eq_some_iff.1 hx).1)]
theorem have_step {l : List Lt} {wn : List (Wt × Int)} {k : Nat} {y : Lt} {T : Nat → Bool} {q : Int → Int} (hy : l[k]? = some y) : Fl.haveT Lt.id servesB q T wn (l.take (k + 1)) = Fl.haveT Lt.id servesB q T wn (l.take k) + (if Fl.meets servesB y T wn = true then q y.id else 0) := by
  rw [List.take_add_one, hy]
  exact Fl.haveT_snoc q T wn y _
theorem need_bd {ws : List Wt} (h : ∀ x ∈ ws, wantB x = true) (hl : ws.length ≤ 9) (T : Nat → Bool) (k : Nat) : 0 ≤ Fl.needT T ((wnOf ws).take k) ∧ Fl.needT T ((wnOf ws).take k) ≤ 10133099161583616 := by
  have h1 := Fl.needT_bound 1125899906842624 (by omega) ((wnOf ws).take k) T (fun p hp => by
    have hp := List.mem_of_mem_take hp
    unfold wnOf at hp
    obtain ⟨x, hx, rfl⟩ := List.mem_map.1 hp
    have := wantB_parts (h x hx)
    simp only; omega)
  have h2 : ((wnOf ws).take k).length ≤ 9 := by
    have := List.length_take_le' k (wnOf ws)
    unfold wnOf at this ⊢
    rw [List.length_map] at this
    omega
  have h3 : (((wnOf ws).take k).length : Int) * 1125899906842624 ≤ 9 * 1125899906842624 := Int.mul_le_mul_of_nonneg_right (by omega) (by omega)
  omega
theorem have_bd {l : List Lt} (h : ∀ x ∈ l, lrightB x = true) (hl : l.length ≤ 40) (T : Nat → Bool) (wn : List (Wt × Int)) (k : Nat) : 0 ≤ Fl.haveT Lt.id servesB (qtyOf l) T wn (l.take k) ∧ Fl.haveT Lt.id servesB (qtyOf l) T wn (l.take k) ≤ 42949672960 := by
  have h1 := Fl.haveT_bound (id := Lt.id) (sv := servesB) (qtyOf l) 1073741824 (by omega) T wn (l.take k) (fun x hx => qtyOf_range h _)
  have h2 : (l.take k).length ≤ 40 := by have := List.length_take_le' k l; omega
  have h3 : ((l.take k).length : Int) * 1073741824 ≤ 40 * 1073741824 := Int.mul_le_mul_of_nonneg_right (by omega) (by omega)
  omega
theorem bit_int (s k : Nat) : (((s : Int) / 2 ^ k).tmod 2 == 1) = bitOf s k := by
  have e1 : ((s : Int) / 2 ^ k) = ((s / 2 ^ k : Nat) : Int) := by push_cast; rfl
  rw [e1]
  have e2 : (((s / 2 ^ k : Nat) : Int)).tmod 2 = ((s / 2 ^ k % 2 : Nat) : Int) := rfl
  rw [e2]
  unfold bitOf
  have h : s / 2 ^ k % 2 < 2 := Nat.mod_lt _ (by omega)
  by_cases hh : s / 2 ^ k % 2 = 1
  · rw [hh]; rfl
  · have h0 : s / 2 ^ k % 2 = 0 := by omega
    rw [h0]; rfl
theorem two_l1 (w : World) (r : Lt) (x : Wt) : LSl ((w.alloc (lotO r)).alloc (wantO x)).drew ((w.alloc (lotO r)).alloc (wantO x)).drew.heap.size (.slice (some ⟨w.heap.size, 0, none⟩) 1 1) [r] :=
  ((one_lot w r).alloc_ (by simp) (wantO x)).mono (by simp)
theorem two_w1 (w : World) (r : Lt) (x : Wt) : WSl ((w.alloc (lotO r)).alloc (wantO x)).drew ((w.alloc (lotO r)).alloc (wantO x)).drew.heap.size (.slice (some ⟨w.heap.size + 1, 0, none⟩) 1 1) [x] := by
  have h := one_want (w.alloc (lotO r)) x
  simp only [World.size_alloc] at h
  exact h.mono (by simp)
theorem two_l2 (w : World) (r : Lt) (x : Wt) : LSl ((w.alloc (wantO x)).alloc (lotO r)).drew ((w.alloc (wantO x)).alloc (lotO r)).drew.heap.size (.slice (some ⟨w.heap.size + 1, 0, none⟩) 1 1) [r] := by
  have h := one_lot (w.alloc (wantO x)) r
  simp only [World.size_alloc] at h
  exact h.mono (by simp)
theorem two_w2 (w : World) (r : Lt) (x : Wt) : WSl ((w.alloc (wantO x)).alloc (lotO r)).drew ((w.alloc (wantO x)).alloc (lotO r)).drew.heap.size (.slice (some ⟨w.heap.size, 0, none⟩) 1 1) [x] :=
  ((one_want w x).alloc_ (by simp) (lotO r)).mono (by simp)
theorem probe_sized {x : Wt} (h : x.Fits) : Sized [probeL x] := fun y hy => by
  rw [List.mem_singleton.1 hy]
  obtain ⟨h0, h1, h2, h3, h4⟩ := h
  have e : IntKind.i64.wrap (x.day + 1) = (x.day + 1 + 9223372036854775808) % 18446744073709551616 - 9223372036854775808 := IntKind.wrap_i64 _
  unfold probeL Lt.Fits
  simp only
  rw [e]
  refine ⟨by omega, by omega, h0, h1, h2, by omega, by omega, by omega, by omega⟩
/-- The want comes through the probe. -/
def Good (x : Wt) : Prop := fitsP [probeL x] [probeW x] ∧ ¬ x.qty < 1 ∧ ¬ 1125899906842624 < x.qty
end Go.Proofs.Ytddnfikjfmfhfaa
