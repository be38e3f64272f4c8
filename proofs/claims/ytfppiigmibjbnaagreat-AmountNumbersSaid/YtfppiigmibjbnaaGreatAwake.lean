/- The chapter's examples: storemanlaw02.awake. -/
import Derived.Test.YtfppiigmibjbnaaGreatSame
namespace Go.Proofs.YtfppiigmibjbnaaGreat
open Go.ChangeShapes Go.WideShapes Go.ChangeAt Go.RowKit Go.Maps
set_option linter.unusedVariables false

theorem add_ok (a b s : Int) (w : World) (h1 : addB a b = true) (h2 : a + b = s) : Calls Tryz.prog 18 #[.int .i64 a, .int .i64 b] w fun e w' => e = .returned (.tuple #[.int .i64 s, .bool true]) ∧ w = w' := by
  have := add_any a b w; rw [h1, show addV a b = s by unfold addV; rw [if_pos h1, h2]] at this; exact this
theorem add_no (a b : Int) (w : World) (h1 : addB a b = false) : Calls Tryz.prog 18 #[.int .i64 a, .int .i64 b] w fun e w' => e = .returned (.tuple #[.int .i64 0, .bool false]) ∧ w = w' := by
  have := add_any a b w; rw [h1, show addV a b = 0 by unfold addV; rw [if_neg (by simp [h1])]] at this; exact this
theorem times_ok (a b s : Int) (w : World) (h1 : timesB a b = true) (h2 : a * b = s) : Calls Tryz.prog 16 #[.int .i64 a, .int .i64 b] w fun e w' => e = .returned (.tuple #[.int .i64 s, .bool true]) ∧ w = w' := by
  have := times_any a b w; rw [h1, show timesV a b = s by unfold timesV; rw [if_pos h1, h2]] at this; exact this

theorem fresh_cell (w : World) (cs : Array Value) (t : TypeId) (j : Nat) : (w.alloc (.cells cs t)).cell? ((⟨w.heap.size, 0, none⟩ : Addr).add j) = cs[j]? := by
  have e : (⟨w.heap.size, 0, none⟩ : Addr).add j = ⟨w.heap.size, j, none⟩ := by unfold Addr.add; split <;> simp_all
  rw [e, cell_of_row _ _ _ _ _ _ (heap_alloc_new w _)]
/-- What is made lies. -/
theorem Lies.fresh (w : World) (cs : Array Value) (t : TypeId) (xs : List Value) (h : cs.toList = xs) : Lies (w.alloc (.cells cs t)) (w.heap.size + 1) (some ⟨w.heap.size, 0, Option.none⟩) xs := fun _ =>
  ⟨_, rfl, Nat.lt_succ_self _, fun j u hu => by rw [fresh_cell, ← hu, ← h, Array.getElem?_toList]⟩
theorem Lies.alloc_ {w : World} {B : Nat} {A : Option Addr} {xs : List Value} (h : Lies w B A xs) (hB : B ≤ w.heap.size) (o : Obj) : Lies (w.alloc o) B A xs := h.below ((Below.refl _ _).alloc hB o)
theorem PSl.alloc_ {w : World} {B : Nat} {v : Value} {l : List Pt} (h : PSl w B v l) (hB : B ≤ w.heap.size) (o : Obj) : PSl (w.alloc o) B v l := h.below ((Below.refl _ _).alloc hB o)

def exLs : List (List Pt) := [[([66], 2), ([65], 1)], [([66], 3)]]
def exOut : List Pt := [([65], 1), ([66], 5)]
theorem ex_sized : Sized exLs.flatten := by
  intro p hp
  simp only [exLs, List.flatten_cons, List.flatten_nil, List.cons_append, List.nil_append, List.append_nil, List.mem_cons, List.not_mem_nil, or_false] at hp
  rcases hp with rfl | rfl | rfl <;> simp [maxLen]
theorem ex_ok : JoinOk exLs.flatten := by
  refine ⟨by decide, fun it => ?_⟩
  simp only [exLs, List.flatten_cons, List.flatten_nil, List.cons_append, List.nil_append, List.append_nil, tot]
  split <;> split <;> omega
theorem ex_join : IsJoin exLs.flatten exOut := by
  refine ⟨by unfold Rising; decide, fun it q => ?_⟩
  simp only [exLs, exOut, List.flatten_cons, List.flatten_nil, List.cons_append, List.nil_append, List.append_nil, tot, List.map_cons, List.map_nil, List.mem_cons, List.not_mem_nil, or_false, Prod.mk.injEq]
  constructor
  · rintro (⟨rfl, rfl⟩ | ⟨rfl, rfl⟩) <;> simp
  · rintro ⟨rfl | rfl | rfl, rfl⟩ <;> simp
theorem ex_rows (w : World) : PRows (((w.alloc (.cells #[.string ⟨#[66]⟩, .int .i64 2, .string ⟨#[65]⟩, .int .i64 1] 38)).alloc (.cells #[.string ⟨#[66]⟩, .int .i64 3] 38)).alloc
      (.cells #[.slice (some ⟨w.heap.size, 0, none⟩) 2 2, .slice (some ⟨w.heap.size + 1, 0, none⟩) 1 1] 22)) (w.heap.size + 1 + 1 + 1) (some ⟨w.heap.size + 1 + 1, 0, none⟩) exLs := by
  have e1 : (w.alloc (.cells #[.string ⟨#[66]⟩, .int .i64 2, .string ⟨#[65]⟩, .int .i64 1] 38)).heap.size = w.heap.size + 1 := by simp
  have e2 : ((w.alloc (.cells #[.string ⟨#[66]⟩, .int .i64 2, .string ⟨#[65]⟩, .int .i64 1] 38)).alloc (.cells #[.string ⟨#[66]⟩, .int .i64 3] 38)).heap.size = w.heap.size + 1 + 1 := by simp
  have h1 : PSl _ _ _ [([66], 2), ([65], 1)] := ⟨_, 2, rfl, Nat.le_refl _, by simp [maxLen], fun h => (by cases h), Lies.fresh w #[.string ⟨#[66]⟩, .int .i64 2, .string ⟨#[65]⟩, .int .i64 1] 38 _ rfl⟩
  have h2 : PSl _ _ _ [([66], 3)] := ⟨_, 1, rfl, Nat.le_refl _, by simp [maxLen], fun h => (by cases h), Lies.fresh (w.alloc (.cells #[.string ⟨#[66]⟩, .int .i64 2, .string ⟨#[65]⟩, .int .i64 1] 38)) #[.string ⟨#[66]⟩, .int .i64 3] 38 _ rfl⟩
  have h3 := Lies.fresh ((w.alloc (.cells #[.string ⟨#[66]⟩, .int .i64 2, .string ⟨#[65]⟩, .int .i64 1] 38)).alloc (.cells #[.string ⟨#[66]⟩, .int .i64 3] 38)) #[.slice (some ⟨w.heap.size, 0, none⟩) 2 2, .slice (some ⟨w.heap.size + 1, 0, none⟩) 1 1] 22 _ rfl
  rw [e2] at h3
  rw [e1] at h2
  refine ⟨[.slice (some ⟨w.heap.size, 0, none⟩) 2 2, .slice (some ⟨w.heap.size + 1, 0, none⟩) 1 1], rfl, h3, fun i v l hv hl => ?_⟩
  match i, hv, hl with
  | 0, hv, hl =>
    obtain rfl := Option.some.inj hv
    obtain rfl := Option.some.inj hl
    exact ((h1.alloc_ (by simp) _).alloc_ (by simp) _).mono (by omega)
  | 1, hv, hl =>
    obtain rfl := Option.some.inj hv
    obtain rfl := Option.some.inj hl
    exact (h2.alloc_ (by simp) _).mono (by omega)
  | i + 2, hv, hl => simp [exLs] at hl

theorem join_ex (w : World) : Calls Tryz.prog 8 #[.slice (some ⟨w.heap.size + 1 + 1, 0, none⟩) 2 2] (((w.alloc (.cells #[.string ⟨#[66]⟩, .int .i64 2, .string ⟨#[65]⟩, .int .i64 1] 38)).alloc (.cells #[.string ⟨#[66]⟩, .int .i64 3] 38)).alloc
      (.cells #[.slice (some ⟨w.heap.size, 0, none⟩) 2 2, .slice (some ⟨w.heap.size + 1, 0, none⟩) 1 1] 22)) fun e w' => ∃ v, e = .returned (.tuple #[v, .bool true]) ∧ PSl w' w'.heap.size v exOut ∧ Below w.heap.size w w' := by
  have hr := ex_rows w
  refine (join_any (H := Unit) _ 2 exLs _ (by simpa using hr) ex_sized (by decide) (by decide)).mono ?_
  rintro e w' ⟨hb, ⟨_, v, out, rfl, hj, _, ho⟩ | ⟨hno, _⟩⟩
  · obtain rfl := hj.unique ex_join
    exact ⟨v, rfl, PSl.own ho, ((((Below.refl _ w).alloc (Nat.le_refl _) _).alloc (by simp) _).alloc (by simp; omega) _).trans (hb.mono (by simp; omega))⟩
  · exact absurd ex_ok hno
theorem same_ex (v : Value) (w : World) (hv : PSl w w.heap.size v exOut) : Calls Tryz.prog 12 #[v, .slice (some ⟨w.heap.size, 0, none⟩) 2 2] (w.alloc (.cells #[.string ⟨#[65]⟩, .int .i64 1, .string ⟨#[66]⟩, .int .i64 5] 38)) fun e w' => e = .returned (.bool true) ∧ Below w.heap.size w w' := by
  have h2 : PSl (w.alloc (.cells #[.string ⟨#[65]⟩, .int .i64 1, .string ⟨#[66]⟩, .int .i64 5] 38)) (w.heap.size + 1) (.slice (some ⟨w.heap.size, 0, none⟩) 2 2) exOut := ⟨some ⟨w.heap.size, 0, none⟩, 2, rfl, Nat.le_refl _, by simp [maxLen], fun h => (by cases h), Lies.fresh w #[.string ⟨#[65]⟩, .int .i64 1, .string ⟨#[66]⟩, .int .i64 5] 38 _ rfl⟩
  have h1 := (hv.alloc_ (Nat.le_refl _) (.cells #[.string ⟨#[65]⟩, .int .i64 1, .string ⟨#[66]⟩, .int .i64 5] 38)).mono (B' := (w.alloc (.cells #[.string ⟨#[65]⟩, .int .i64 1, .string ⟨#[66]⟩, .int .i64 5] 38)).heap.size) (by simp)
  have h3 := h2.mono (B' := (w.alloc (.cells #[.string ⟨#[65]⟩, .int .i64 1, .string ⟨#[66]⟩, .int .i64 5] 38)).heap.size) (by simp)
  refine (same_any exOut exOut v _ _ h1 h3 (by decide) (by decide)).mono ?_
  rintro e w' ⟨rfl, hb⟩
  exact ⟨ret_bool (by simp [sameB]), ((Below.refl _ w).alloc (Nat.le_refl _) _).trans (hb.mono (by simp))⟩

set_option maxHeartbeats 1000000 in
theorem awake_any (w : World) : Calls Tryz.prog 6 #[] w fun e w' => e = .returned (.bool true) ∧ Below w.heap.size w w' := by
  go_enter Tryz.func6, Tryz.ntmps6
  go_wp2_with (first
    | (go_at_call 18; ((with_reducible refine (add_ok 1125899906842624 0 1125899906842624 _ (by decide) (by decide)).mono ?_); rintro e w' ⟨rfl, rfl⟩))
    | (go_at_call 18; ((with_reducible refine (add_no 1125899906842624 1 _ (by decide)).mono ?_); rintro e w' ⟨rfl, rfl⟩))
    | (go_at_call 16; ((with_reducible refine (times_ok 33554432 33554432 1125899906842624 _ (by decide) (by decide)).mono ?_); rintro e w' ⟨rfl, rfl⟩))
    | (go_at_call 8; ((with_reducible refine (join_ex w).mono ?_); rintro e w4 ⟨v, rfl, hv, hb4⟩))
    | (go_at_call 12; ((with_reducible refine (same_ex v w4 hv).mono ?_); rintro e w5 ⟨rfl, hb5⟩))
    | (go_at_call 19; ((with_reducible refine (right_no (-1) _ (by decide)).mono ?_); rintro e w' ⟨rfl, rfl⟩)))
  go_ret
  exact ⟨rfl, hb4.trans (hb5.mono hb4.size)⟩
end Go.Proofs.YtfppiigmibjbnaaGreat
