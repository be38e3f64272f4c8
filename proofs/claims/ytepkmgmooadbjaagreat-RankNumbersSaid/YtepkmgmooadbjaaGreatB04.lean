/- Texts of this proof, one behind the other. -/
import Derived.Deep.QuietTactic
import Derived.BigQuiet
import Derived.Shelf.SlSortCmp.QuietGrown
import Derived.Maps.AppendAt
import Derived.Deep.RegionWith
import Derived.Deep.DeepCutAuto
import Derived.Deep.MidRow
import Derived.Test.YtepkmgmooadbjaaGreatB03
section
/- storemankit.markPart, LentParts: a list of parts with marks behind its end. -/
namespace Go.Proofs.YtepkmgmooadbjaaGreat
open Go.ChangeShapes Go.WideShapes Go.ChangeAt Go.RowKit Go.Maps
set_option linter.unusedVariables false

theorem mark_any (k i : Int) (w : World) (h0 : 0 ≤ k) (h1 : k ≤ 1000000) (h2 : 0 ≤ i) (h3 : i ≤ 1099511627776) :
    Calls Tryz.prog 34 #[.int .i64 k, .int .i64 i] w fun e w' => e = .returned (.int .i64 (1000003 * (k + 7) + i)) ∧ w = w' := by
  go_enter Tryz.func34, Tryz.ntmps34
  go_wp2
  go_ret
  exact ⟨rfl, rfl⟩

def markL (k i : Nat) : Lt := ⟨1000003 * ((k : Int) + 7) + (i : Int), [], 0, 0, 0, 0, 0, []⟩
def marksL (k n : Nat) : List Lt := (List.range n).map fun i => markL k i
theorem marksL_succ (k n : Nat) : marksL k (n + 1) = marksL k n ++ [markL k n] := by simp [marksL, List.range_succ]
theorem marksL_len (k n : Nat) : (marksL k n).length = n := by simp [marksL]
theorem marksL_get (k n i : Nat) (h : i < n) : (marksL k n)[i]? = some (markL k i) := by simp [marksL, h]
theorem markl_any (k i : Int) (w : World) (h0 : 0 ≤ k) (h1 : k ≤ 1000000) (h2 : 0 ≤ i) (h3 : i ≤ 1099511627776) :
    Calls Tryz.prog 20 #[.int .i64 k, .int .i64 i] w fun e w' => e = .returned (.agg #[.int .i64 (1000003 * (k + 7) + i), .string ⟨#[]⟩, .int .i64 0, .int .i64 0, .int .i64 0, .int .u8 0, .int .i64 0, .string ⟨#[]⟩]) ∧ w.alloc (.cells #[.int .i64 (1000003 * (k + 7) + i), .string ⟨#[]⟩, .int .i64 0, .int .i64 0, .int .i64 0, .int .u8 0, .int .i64 0, .string ⟨#[]⟩] 37) = w' := by
  go_enter Tryz.func20, Tryz.ntmps20
  go_wp2_with (go_at_call 34; ((with_reducible refine (mark_any k i _ h0 h1 h2 h3).mono ?_); rintro e w' ⟨rfl, rfl⟩))
  exact bodyPost_ret (v := .agg #[.int .i64 (1000003 * (k + 7) + i), .string ⟨#[]⟩, .int .i64 0, .int .i64 0, .int .i64 0, .int .u8 0, .int .i64 0, .string ⟨#[]⟩]) (by simp [results, Tryz.results20, go_sem]) rfl ⟨rfl, rfl⟩

theorem six_new_at (w : World) (n : Nat) (hn : w.heap.size = n) (M : Int) (t : TypeId) : ∀ (j : Nat) (u : Value), [.int .i64 M, .string ⟨#[]⟩, .int .i64 0, .int .i64 0, .int .i64 0, .int .u8 0, .int .i64 0, .string ⟨#[]⟩][j]? = some u → (w.alloc (.cells #[.int .i64 M, .string ⟨#[]⟩, .int .i64 0, .int .i64 0, .int .i64 0, .int .u8 0, .int .i64 0, .string ⟨#[]⟩] t)).cell? ((⟨n, 0, none⟩ : Addr).add j) = some u := by
  subst hn
  intro j u h
  rw [fresh_cell, ← h, ← Array.getElem?_toList]
theorem six_one (M : Int) : ∀ u ∈ [Value.int .i64 M, .string ⟨#[]⟩, .int .i64 0, .int .i64 0, .int .i64 0, .int .u8 0, .int .i64 0, .string ⟨#[]⟩], u.oneCell' = true := by
  intro u hu
  simp only [List.mem_cons, List.not_mem_nil, or_false] at hu
  rcases hu with rfl | rfl | rfl | rfl | rfl | rfl | rfl | rfl <;> rfl

/-- What is lent: the parts, twelve marks behind their end. -/
def LentToL (l : List Lt) (w : World) (e : Ending) (w' : World) : Prop :=
  e = .returned (.slice (some ⟨w.heap.size, 0, none⟩) l.length (l.length + 12)) ∧ Below w.heap.size w w' ∧
  w'.ownsRow w.heap.size 37 8 (.slice (some ⟨w.heap.size, 0, none⟩) (l.length + 12) (l.length + 12)) (l.length + 12) (lcells (l ++ marksL 1 12))

set_option maxRecDepth 100000 in
set_option maxHeartbeats 1000000 in
theorem lentl_any (v : Value) (l : List Lt) (B : Nat) (w : World) (hv : LSl w B v l) (hB : B ≤ w.heap.size) (hlen : l.length ≤ 1048576) :
    Calls Tryz.prog 7 #[v] w (LentToL l w) := by
  obtain ⟨i0, hi, hz0, hz1, hz2⟩ := info_parts infoLot
  obtain ⟨A, c, rfl, hc1, hc2, hcz, hl⟩ := id hv
  have H1 := Lib.hid hi
  have H2 := Lib.hid hz0
  have H3 := Lib.hid hz1
  have H4 := Lib.hid hz2
  clear hi hz0 hz1 hz2
  go_enter Tryz.func7, Tryz.ntmps7
  go_wp2_with (first
    | (at_make; refine wpList_make_own _ rfl _ _ 22 rfl w.heap.size 37 i0 (.agg #[.int .i64 0, .string ⟨#[]⟩, .int .i64 0, .int .i64 0, .int .i64 0, .int .u8 0, .int .i64 0, .string ⟨#[]⟩]) 8 Tryz.underlying22 H1.out H2.out H3.out .i64 .i64 _ (l.length + 12) rfl rfl (by omega) (by rw [H4.out]; omega) (by unfold maxLen; omega) (Nat.le_refl _) ?_; intro w1 hown1 hg1)
    | (at_builtin; refine wpList_append_fits_any _ rfl (.tmp 9) (.tmp 10) 22 rfl w.heap.size 37 i0 8 Tryz.underlying22 H1.out H3.out w.heap.size 0 (l.length + 12) [] rfl hown1 A l.length c (lcells l) rfl (lcells_length l) (fun h => ⟨by have := hcz h; omega, hcz h⟩) (fun ad had j u hu => by have h2 := (hl.below ((Below.refl _ _).grown hg1 hB (fun k hk => by cases hk))).get hu; obtain ⟨ad', e1, _, e2⟩ := h2; rw [had] at e1; injection e1 with e1; rw [e1]; exact e2) (lcells_one l) (by omega) ?_; intro w2 hown2 hg2))
  have hb2 : Below w.heap.size w w2 := ((Below.refl _ _).grown hg1 (Nat.le_refl _) (fun k hk => by cases hk)).grown hg2 hg1.size (fun k hk => by cases hk; exact Nat.le_refl _)
  have hz : w.heap.size < w2.heap.size := by have := hown2.lt w.heap.size rfl; omega
  clear hown1 hg1 hg2
  simp only [Nat.zero_add, List.nil_append] at hown2
  go_loopw [3, 4] (fun v i wr => ∃ k : Nat, k ≤ 12 ∧ i = .int .i64 k ∧ v = .slice (some ⟨w.heap.size, 0, none⟩) (l.length + k) (l.length + 12) ∧
      wr.ownsRow w.heap.size 37 8 (.slice (some ⟨w.heap.size, 0, none⟩) (l.length + k) (l.length + 12)) (l.length + k) (lcells (l ++ marksL 1 k)) ∧ Below w.heap.size w wr ∧ w.heap.size < wr.heap.size)
    (fun _ i _ => 12 - (intOf i).toNat)
  case atStart => exact ⟨0, by omega, rfl, rfl, by simpa [marksL] using hown2, hb2, hz⟩
  case round =>
    obtain ⟨k, hk, rfl, rfl, hrow, hbr, hzr⟩ := hrel
    by_cases hlt : k < 12
    · have hmk : (1000003 * ((1 : Int) + 7) + (k : Int)) = 8000024 + (k : Int) := by omega
      have HMK := Lib.hid hmk
      clear hmk
      go_wp2_with (first
        | (go_at_call 20; ((with_reducible refine (markl_any 1 k _ (by omega) (by omega) (by omega) (by omega)).mono ?_); rintro e w' ⟨rfl, rfl⟩))
        | (at_builtin; refine wpList_append_fits _ rfl (.tmp 16) (.tmp 19) 22 rfl w.heap.size 37 i0 8 Tryz.underlying22 H1.out H3.out w.heap.size (l.length + k) (l.length + 12) _ rfl ((hrow.alloc _).alloc _) ⟨wr.heap.size + 1, 0, none⟩ 1 1 [.int .i64 (8000024 + (k : Int)), .string ⟨#[]⟩, .int .i64 0, .int .i64 0, .int .i64 0, .int .u8 0, .int .i64 0, .string ⟨#[]⟩] rfl rfl (six_new_at _ _ (by simp) _ _) (six_one _) (by omega) ?_; intro w3 hown3 hg3))
      have hst : lcells (l ++ marksL 1 k) ++ [.int .i64 (8000024 + (k : Int)), .string ⟨#[]⟩, .int .i64 0, .int .i64 0, .int .i64 0, .int .u8 0, .int .i64 0, .string ⟨#[]⟩] = lcells (l ++ marksL 1 (k + 1)) := by
        rw [marksL_succ, ← HMK.out, ← List.append_assoc, lcells_append (l ++ marksL 1 k)]; rfl
      rw [hst] at hown3
      have hb3 : Below w.heap.size w w3 := ((hbr.alloc hbr.size _).alloc (by simp only [World.size_alloc]; omega) _).grown hg3 (by simp only [World.size_alloc]; omega) (fun j hj => by cases hj; exact Nat.le_refl _)
      have hz3 := hg3.size
      simp only [World.size_alloc] at hz3
      have HST := Lib.hid hst
      clear hst
      go_roundw
      case rel => exact ⟨k + 1, by omega, by go_num, rfl, hown3, hb3, by omega⟩
      case measure => simp [intOf]; omega
    · obtain rfl : k = 12 := by omega
      go_wp2
      go_ret
      exact ⟨rfl, hbr, hrow⟩
end Go.Proofs.YtepkmgmooadbjaaGreat
end
section
/- storemankit.KeptLines, OverParts: whether a list of parts and its marks are still as they were; both written over. -/
namespace Go.Proofs.YtepkmgmooadbjaaGreat
open Go.ChangeShapes Go.WideShapes Go.ChangeAt Go.RowKit Go.Maps Go.Sort
set_option linter.unusedVariables false

/-- A lot is itself. -/
def EqL (x y : Lt) : Prop := ∀ w, (binOp .eql 37 (.agg #[.int .i64 x.id, .string ⟨x.item.toArray⟩, .int .i64 x.qty, .int .i64 x.asked, .int .i64 x.rank, .int .u8 x.state, .int .i64 x.day, .string ⟨x.code.toArray⟩]) (.agg #[.int .i64 y.id, .string ⟨y.item.toArray⟩, .int .i64 y.qty, .int .i64 y.asked, .int .i64 y.rank, .int .u8 y.state, .int .i64 y.day, .string ⟨y.code.toArray⟩])).run Tryz.prog w = .ok (.bool true) w
theorem eq_self (x : Lt) : EqL x x := fun w => by have := eql_lot x x w; rw [decide_eq_true rfl] at this; exact this
def EqM (M : Int) : Prop := ∀ w, (binOp .eql 37 (.agg #[.int .i64 M, .string ⟨#[]⟩, .int .i64 0, .int .i64 0, .int .i64 0, .int .u8 0, .int .i64 0, .string ⟨#[]⟩]) (.agg #[.int .i64 M, .string ⟨#[]⟩, .int .i64 0, .int .i64 0, .int .i64 0, .int .u8 0, .int .i64 0, .string ⟨#[]⟩])).run Tryz.prog w = .ok (.bool true) w
theorem eq_mark (M : Int) : EqM M := eq_self ⟨M, [], 0, 0, 0, 0, 0, []⟩
theorem below_grow {B : Nat} {a w : World} (h : Go.RowKit.Below B a w) (hB : B ≤ w.heap.size) (n : Nat) (os : Array Obj) : Go.RowKit.Below B a (grow (w.drewN n) os) :=
  ⟨h.os, h.tape, h.output, by have := h.size; simp only [size_grow]; show a.heap.size ≤ w.heap.size + os.size; omega, fun k hk => (heap_grow_old (w.drewN n) os (show k < w.heap.size by omega)).trans (h.block k hk)⟩
theorem markl_grown (k i M : Int) (w : World) (n : Nat) (os : Array Obj) (hM : 1000003 * (k + 7) + i = M) (h0 : 0 ≤ k) (h1 : k ≤ 1000000) (h2 : 0 ≤ i) (h3 : i ≤ 1099511627776) :
    Calls Tryz.prog 20 #[.int .i64 k, .int .i64 i] (grow (w.drewN n) os) fun e w'' => e = .returned (.agg #[.int .i64 M, .string ⟨#[]⟩, .int .i64 0, .int .i64 0, .int .i64 0, .int .u8 0, .int .i64 0, .string ⟨#[]⟩]) ∧ ∃ p : GrownBy, w'' = grow (w.drewN p.n) p.os := by
  subst hM
  exact Calls.grown_of ((markl_any k i _ h0 h1 h2 h3).mono fun e w' ⟨he, hw⟩ => ⟨he, 0, #[.cells #[.int .i64 (1000003 * (k + 7) + i), .string ⟨#[]⟩, .int .i64 0, .int .i64 0, .int .i64 0, .int .u8 0, .int .i64 0, .string ⟨#[]⟩] 37], by rw [← hw, alloc_eq_grow]; rfl⟩)

set_option maxRecDepth 100000 in
set_option maxHeartbeats 1000000 in
theorem keptl_any (v : Value) (l : List Lt) (B g : Nat) (w : World) (hv : LSl w B v l) (hg : Lies w B (some ⟨g, 0, none⟩) (lcells (l ++ marksL 1 12))) (hB : B ≤ w.heap.size) (hlen : l.length ≤ 1048576) :
    Calls Tryz.prog 10 #[.slice (some ⟨g, 0, none⟩) l.length (l.length + 12), v] w fun e w' => e = .returned (.bool true) ∧ Go.RowKit.Below w.heap.size w w' := by
  obtain ⟨A, c, rfl, hc1, hc2, hcz, hl⟩ := id hv
  have hm : Tryz.prog.follows .mixedOrders = true := by kernel_rfl
  have HM := Lib.hid hm
  clear hm
  go_enter Tryz.func10, Tryz.ntmps10
  go_wp2
  go_loopw [6] (fun i wr => ∃ k : Nat, k ≤ l.length + 12 ∧ i = .int .i64 k ∧ Go.RowKit.Below w.heap.size w wr) (fun i _ => l.length + 12 - (intOf i).toNat)
  case atStart => exact ⟨0, Nat.zero_le _, rfl, Below.refl _ _⟩
  case round =>
    obtain ⟨k, hk, rfl, hbr⟩ := hrel
    by_cases hlt : k < l.length
    · obtain ⟨p, hp⟩ : ∃ p, l[k]? = some p := ⟨_, List.getElem?_eq_getElem hlt⟩
      obtain ⟨ad, hA, _, hp0, hp1, hp2, hp3, hp4, hp5, hp6, hp7⟩ := (hl.below (hbr.mono hB)).six hp
      subst hA
      have hpp : (l ++ marksL 1 12)[k]? = some p := by rw [List.getElem?_append_left hlt, hp]
      obtain ⟨ag, hag, _, hg0, hg1, hg2, hg3, hg4, hg5, hg6, hg7⟩ := (hg.below (hbr.mono hB)).six hpp
      injection hag with hag
      subst hag
      rw [addr0] at hg0 hg1 hg2 hg3 hg4 hg5 hg6 hg7
      have heq : EqL p p := eq_self p
      unfold EqL at heq
      have HN := Lib.hid hp
      have HPP := Lib.hid hpp
      clear hp hpp
      have hd1 : decide (k < l.length) = true := decide_eq_true (by omega)
      have hd2 : decide (l.length ≤ k) = false := decide_eq_false (by omega)
      go_wp2
      go_quiet (fail)
      go_wp2
      go_roundw
      case rel => exact ⟨k + 1, by omega, by go_num, below_draws hbr _⟩
      case measure => simp [intOf]; omega
    · by_cases hlt2 : k < l.length + 12
      · have hpp : (l ++ marksL 1 12)[k]? = some (markL 1 (k - l.length)) := by rw [List.getElem?_append_right (by omega), marksL_get 1 12 _ (by omega)]
        obtain ⟨ag, hag, hgb, hg0, hg1, hg2, hg3, hg4, hg5, hg6, hg7⟩ := (hg.below (hbr.mono hB)).six hpp
        injection hag with hag
        subst hag
        rw [addr0] at hg0 hg1 hg2 hg3 hg4 hg5 hg6 hg7
        have hgs : g < wr.heap.size := by have := hbr.size; show (⟨g, 0, none⟩ : Addr).block < _; omega
        have hq0 : ∀ n os, (grow (wr.drewN n) os).cell? ⟨g, k * 8, none⟩ = some (.int .i64 (8000024 + ((k : Int) - (l.length : Int)))) := fun n os => by
          rw [cell_grown hgs hg0 n os]
          simp only [markL]
          congr 2
          omega
        have hq1 : ∀ n os, (grow (wr.drewN n) os).cell? ⟨g, k * 8 + 1, none⟩ = some (.string ⟨#[]⟩) := fun n os => cell_grown hgs hg1 n os
        have hq2 : ∀ n os, (grow (wr.drewN n) os).cell? ⟨g, k * 8 + 2, none⟩ = some (.int .i64 0) := fun n os => cell_grown hgs hg2 n os
        have hq3 : ∀ n os, (grow (wr.drewN n) os).cell? ⟨g, k * 8 + 3, none⟩ = some (.int .i64 0) := fun n os => cell_grown hgs hg3 n os
        have hq4 : ∀ n os, (grow (wr.drewN n) os).cell? ⟨g, k * 8 + 4, none⟩ = some (.int .i64 0) := fun n os => cell_grown hgs hg4 n os
        have hq5 : ∀ n os, (grow (wr.drewN n) os).cell? ⟨g, k * 8 + 5, none⟩ = some (.int .u8 0) := fun n os => cell_grown hgs hg5 n os
        have hq6 : ∀ n os, (grow (wr.drewN n) os).cell? ⟨g, k * 8 + 6, none⟩ = some (.int .i64 0) := fun n os => cell_grown hgs hg6 n os
        have hq7 : ∀ n os, (grow (wr.drewN n) os).cell? ⟨g, k * 8 + 7, none⟩ = some (.string ⟨#[]⟩) := fun n os => cell_grown hgs hg7 n os
        clear hg0 hg1 hg2 hg3 hg4 hg5 hg6 hg7
        have heq := eq_mark (8000024 + ((k : Int) - (l.length : Int)))
        unfold EqM at heq
        have HPP := Lib.hid hpp
        clear hpp
        have hd1 : decide (k < l.length) = false := decide_eq_false (by omega)
        have hd2 : decide (l.length ≤ k) = true := decide_eq_true (by omega)
        have hle0 : 0 ≤ (k : Int) - (l.length : Int) := by omega
        go_wp2
        have hm := HM.out
        refine wp_region_quiet_grown (by assumption) (by kernel_rfl) ?_
        repeat (go_big_quiet_step ((go_at_call 20; exact markl_grown 1 ((k : Int) - (l.length : Int)) (8000024 + ((k : Int) - (l.length : Int))) _ _ _ (by omega) (by omega) (by omega) (by omega) (by omega))))
        refine wpQuiet_nil ?_
        intro _ hw'
        obtain ⟨⟨nq, osq⟩, hw''⟩ := hw'
        subst hw''
        clear hm
        have hbq := below_grow hbr hbr.size nq osq
        go_wp2
        go_roundw
        case rel => exact ⟨k + 1, by omega, by go_num, hbq⟩
        case measure => simp [intOf]; omega
      · obtain rfl : k = l.length + 12 := by omega
        go_wp2
        go_ret
        exact ⟨rfl, hbr⟩
end Go.Proofs.YtepkmgmooadbjaaGreat
end
section
/- storemankit.OverLines: a list of parts and its spare room written over. -/
namespace Go.Proofs.YtepkmgmooadbjaaGreat
open Go.ChangeShapes Go.WideShapes Go.ChangeAt Go.RowKit Go.Maps
set_option linter.unusedVariables false

theorem grown_set {a w : World} {g : Nat} (h : a.grownBy w (some g)) (j : Nat) (u : Value) : a.grownBy (w.setCell ⟨g, j, none⟩ u) (some g) :=
  ⟨h.os, h.tape, h.output, by have := h.size; simpa [World.setCell] using this, fun i hi hne => (Below.heap_setCell w ⟨g, j, none⟩ u i (fun e => hne (by rw [e]))).trans (h.block i hi hne)⟩
theorem grown_new {a w : World} {row : Option Nat} (h : a.grownBy w row) (o : Obj) : a.grownBy (w.alloc o) row :=
  ⟨h.os, h.tape, h.output, Nat.le_trans h.size (by simp), fun i hi hne => (Below.heap_alloc w o i (Nat.lt_of_lt_of_le hi h.size)).trans (h.block i hi hne)⟩

set_option maxRecDepth 100000 in
set_option maxHeartbeats 2000000 in
theorem overl_any (n g : Nat) (base : Nat) (X : List Value) (w : World) (hrow : w.ownsRow base 37 8 (.slice (some ⟨g, 0, none⟩) (n + 12) (n + 12)) (n + 12) X) (hn : n ≤ 1048576) :
    Calls Tryz.prog 11 #[.slice (some ⟨g, 0, none⟩) n (n + 12)] w fun e w' => e = .returned (.tuple #[]) ∧ w.grownBy w' (some g) := by
  go_enter Tryz.func11, Tryz.ntmps11
  go_wp2
  go_loopw [3] (fun i wr => ∃ (k : Nat) (Y : List Value), k ≤ n + 12 ∧ i = .int .i64 k ∧ w.grownBy wr (some g) ∧ wr.ownsRow base 37 8 (.slice (some ⟨g, 0, none⟩) (n + 12) (n + 12)) (n + 12) Y) (fun i _ => n + 12 - (intOf i).toNat)
  case atStart => exact ⟨0, X, Nat.zero_le _, rfl, World.grownBy.refl _ _, hrow⟩
  case round =>
    obtain ⟨k, Y, hk, rfl, hgr, hry⟩ := hrel
    by_cases hlt : k < n + 12
    · have hyl := hry.1
      obtain ⟨x0, hx0⟩ : ∃ x, Y[k * 8]? = some x := ⟨_, List.getElem?_eq_getElem (by omega)⟩
      obtain ⟨x1, hx1⟩ : ∃ x, Y[k * 8 + 1]? = some x := ⟨_, List.getElem?_eq_getElem (by omega)⟩
      obtain ⟨x2, hx2⟩ : ∃ x, Y[k * 8 + 2]? = some x := ⟨_, List.getElem?_eq_getElem (by omega)⟩
      obtain ⟨x3, hx3⟩ : ∃ x, Y[k * 8 + 3]? = some x := ⟨_, List.getElem?_eq_getElem (by omega)⟩
      obtain ⟨x4, hx4⟩ : ∃ x, Y[k * 8 + 4]? = some x := ⟨_, List.getElem?_eq_getElem (by omega)⟩
      obtain ⟨x5, hx5⟩ : ∃ x, Y[k * 8 + 5]? = some x := ⟨_, List.getElem?_eq_getElem (by omega)⟩
      obtain ⟨x6, hx6⟩ : ∃ x, Y[k * 8 + 6]? = some x := ⟨_, List.getElem?_eq_getElem (by omega)⟩
      obtain ⟨x7, hx7⟩ : ∃ x, Y[k * 8 + 7]? = some x := ⟨_, List.getElem?_eq_getElem (by omega)⟩
      have hc0 := (hry.cellAt (k * 8) (by omega)).trans hx0
      have hc1 := (hry.cellAt (k * 8 + 1) (by omega)).trans hx1
      have hc2 := (hry.cellAt (k * 8 + 2) (by omega)).trans hx2
      have hc3 := (hry.cellAt (k * 8 + 3) (by omega)).trans hx3
      have hc4 := (hry.cellAt (k * 8 + 4) (by omega)).trans hx4
      have hc5 := (hry.cellAt (k * 8 + 5) (by omega)).trans hx5
      have hc6 := (hry.cellAt (k * 8 + 6) (by omega)).trans hx6
      have hc7 := (hry.cellAt (k * 8 + 7) (by omega)).trans hx7
      have hf0 := hry.frozenAt (k * 8)
      have hf1 := hry.frozenAt (k * 8 + 1)
      have hf2 := hry.frozenAt (k * 8 + 2)
      have hf3 := hry.frozenAt (k * 8 + 3)
      have hf4 := hry.frozenAt (k * 8 + 4)
      have hf5 := hry.frozenAt (k * 8 + 5)
      have hf6 := hry.frozenAt (k * 8 + 6)
      have hf7 := hry.frozenAt (k * 8 + 7)
      have hgl := (hry.lt g rfl).2
      clear hx0 hx1 hx2 hx3 hx4 hx5 hx6 hx7
      have HYL : (n + 12) * 8 ≤ Y.length := by omega
      clear hyl
      go_wp2_with (go_at_call 20; ((with_reducible refine (markl_any 2 k _ (by omega) (by omega) (by omega) (by omega)).mono ?_); rintro e w' ⟨rfl, rfl⟩))
      go_roundw
      case rel => exact ⟨k + 1, _, by omega, by go_num, grown_new (grown_set (grown_set (grown_set (grown_set (grown_set (grown_set (grown_set (grown_set hgr _ _) _ _) _ _) _ _) _ _) _ _) _ _) _ _) _, ((((((((hry.stored _ _).1.stored _ _).1.stored _ _).1.stored _ _).1.stored _ _).1.stored _ _).1.stored _ _).1.stored _ _).1.alloc _⟩
      case measure => simp [intOf]; omega
    · obtain rfl : k = n + 12 := by omega
      go_wp2
      go_end0
      exact ⟨rfl, hgr⟩
end Go.Proofs.YtepkmgmooadbjaaGreat
end
section
/- Rows of one's own whose block may have more room than the slice tells (what is cut by a three-index slice). -/
namespace Go.Proofs.YtepkmgmooadbjaaGreat
open Go.ChangeShapes Go.WideShapes Go.ChangeAt Go.RowKit Go.Maps
set_option linter.unusedVariables false

/-- A row of elements e, each of so many cells, at a block from base on, that has at least the slice's room. -/
def OwnC (w : World) (base : Nat) (e : TypeId) (size : Nat) (v : Value) (n : Nat) (xs : List Value) : Prop :=
  xs.length = n * size ∧ ((v = .slice none 0 0 ∧ n = 0) ∨ ∃ g cap cur, v = .slice (some ⟨g, 0, none⟩) n cap ∧ base ≤ g ∧ w.heap[g]? = some (.cells cur e (0, 0)) ∧ n ≤ cap ∧ cap ≤ maxLen ∧ cap * size ≤ cur.size ∧ cur.toList.take (n * size) = xs)
section
variable {w : World} {base : Nat} {e : TypeId} {size : Nat} {v : Value} {n : Nat} {xs : List Value}
theorem OwnC.of (h : w.ownsRow base e size v n xs) : OwnC w base e size v n xs := by
  refine ⟨h.1, ?_⟩
  rcases h.2 with h | ⟨g, cap, cur, h1, h2, h3, h4, h5, h6, h7⟩
  · exact .inl h
  · exact .inr ⟨g, cap, cur, h1, h2, h3, h4, h5, Nat.le_of_eq h6.symm, h7⟩
theorem OwnC.lt (h : OwnC w base e size v n xs) : ∀ k, v.ownBlock = some k → base ≤ k ∧ k < w.heap.size := by
  intro k hk
  rcases h.2 with ⟨rfl, _⟩ | ⟨g, cap, cur, rfl, hb, hg, _⟩
  · cases hk
  · cases hk
    exact ⟨hb, (Array.getElem?_eq_some_iff.1 hg).1⟩
theorem OwnC.kept {w' : World} {row : Option Nat} (h : OwnC w base e size v n xs) (hg : w.grownBy w' row) (hne : v.ownBlock = none ∨ v.ownBlock ≠ row) : OwnC w' base e size v n xs := by
  refine ⟨h.1, ?_⟩
  rcases h.2 with hn | ⟨g, cap, cur, rfl, hb, hgg, rest⟩
  · exact .inl hn
  · refine .inr ⟨g, cap, cur, rfl, hb, (hg.block g (Array.getElem?_eq_some_iff.1 hgg).1 ?_).trans hgg, rest⟩
    simpa [Value.ownBlock] using hne
theorem OwnC.alloc (h : OwnC w base e size v n xs) (o : Obj) : OwnC (w.alloc o) base e size v n xs :=
  h.kept (World.grownBy_alloc w o none) (by cases v.ownBlock <;> simp)
theorem OwnC.drew (h : OwnC w base e size v n xs) : OwnC w.drew base e size v n xs := h
theorem own_formC (h : OwnC w base e size v n xs) : ∃ A c, v = .slice A n c ∧ n ≤ c ∧ c ≤ maxLen ∧ (A = none → c = 0) := by
  rcases h.2 with ⟨hv, rfl⟩ | ⟨g, cap, cur, hv, _, _, h1, h2, _⟩
  · exact ⟨none, 0, hv, Nat.le_refl _, by simp [maxLen], fun _ => rfl⟩
  · exact ⟨_, _, hv, h1, h2, fun h => by cases h⟩
theorem OwnC.at_ {g cap : Nat} (h : OwnC w base e size (.slice (some ⟨g, 0, none⟩) n cap) n xs) : ∃ cur, w.heap[g]? = some (.cells cur e (0, 0)) ∧ base ≤ g ∧ n ≤ cap ∧ cap ≤ maxLen ∧ cap * size ≤ cur.size ∧ cur.toList.take (n * size) = xs := by
  rcases h.2 with ⟨h', _⟩ | ⟨g', cap', cur, h', hb, hg, h1, h2, h3, h4⟩
  · cases h'
  · cases h'
    exact ⟨cur, hg, hb, h1, h2, h3, h4⟩
variable {g cap : Nat}
theorem OwnC.cellAt (h : OwnC w base e size (.slice (some ⟨g, 0, none⟩) n cap) n xs) (j : Nat) (hj : j < n * size) : w.cell? ⟨g, j, none⟩ = xs[j]? := by
  obtain ⟨cur, hg, _, _, _, _, ht⟩ := h.at_
  rw [cell_of_row w g j cur e (0, 0) hg, ← ht, List.getElem?_take, if_pos hj, Array.getElem?_toList]
theorem OwnC.cells (h : OwnC w base e size (.slice (some ⟨g, 0, none⟩) n cap) n xs) : ∀ j u, xs[j]? = some u → w.cell? ((⟨g, 0, none⟩ : Addr).add j) = some u := by
  intro j u hu
  have hj : j < n * size := by have := (List.getElem?_eq_some_iff.1 hu).1; have := h.1; omega
  rw [addr0, h.cellAt j hj, hu]
theorem OwnC.frozenAt (h : OwnC w base e size (.slice (some ⟨g, 0, none⟩) n cap) n xs) (j : Nat) : w.frozen? ⟨g, j, none⟩ = false := by
  obtain ⟨cur, hg, _⟩ := h.at_
  exact frozen_of_row w g j cur e hg
theorem OwnC.stored (h : OwnC w base e size (.slice (some ⟨g, 0, none⟩) n cap) n xs) (j : Nat) (u : Value) :
    OwnC (w.setCell ⟨g, j, none⟩ u) base e size (.slice (some ⟨g, 0, none⟩) n cap) n (xs.set j u) ∧ w.grownBy (w.setCell ⟨g, j, none⟩ u) (some g) := by
  obtain ⟨cur, hg, hb, h1, h2, h3, ht⟩ := h.at_
  refine ⟨⟨by rw [List.length_set]; exact h.1, .inr ⟨g, cap, cur.setIfInBounds j u, rfl, hb, heap_setCell_same w g j cur e u hg, h1, h2, by rw [Array.size_setIfInBounds]; exact h3, ?_⟩⟩,
    ⟨rfl, rfl, rfl, by simp, fun k _ hk => heap_setCell_other w ⟨g, j, none⟩ k u (fun e => hk (by simp [e]))⟩⟩
  rw [Array.toList_setIfInBounds, ← ht, List.take_set]
end
/-- An append for which there is room. -/
theorem run_append_fitsC {P : Program} (w : World) (base : Nat) (t ty e : TypeId) (i : TypeInfo) (size : Nat) (ht : P.underlying t = some (.slice e)) (hi : P.info? e = some i) (hsize : i.size = size)
    (g n cap : Nat) (xs : List Value) (hown : OwnC w base e size (.slice (some ⟨g, 0, none⟩) n cap) n xs)
    (a : Addr) (m c : Nat) (news : List Value) (hl : news.length = m * size) (hnews : ∀ j u, news[j]? = some u → w.cell? (a.add j) = some u) (h1 : ∀ u ∈ news, u.oneCell' = true)
    (hroom : n + m ≤ cap) :
    ∃ w', (Builtin.append_ #[t, t] ty #[.slice (some ⟨g, 0, none⟩) n cap, .slice (some a) m c]).run P w = .ok (.slice (some ⟨g, 0, none⟩) (n + m) cap) w' ∧
      OwnC w' base e size (.slice (some ⟨g, 0, none⟩) (n + m) cap) (n + m) (xs ++ news) ∧ w.grownBy w' (some g) := by
  subst hsize
  have hlen : (xs ++ news).length = (n + m) * i.size := by rw [List.length_append, hown.1, hl, Nat.add_mul]
  obtain ⟨cur, hg, hbg, hnc, hcm, hcs, htake⟩ := hown.at_
  have hle : (n + m) * i.size ≤ cap * i.size := Nat.mul_le_mul_right _ hroom
  have hfit : n * i.size + news.length ≤ cur.size := by rw [hl, ← Nat.add_mul]; omega
  have hr := run_append_room (P := P) w t ty e i ht hi g n cap cur hg a m c news hl hnews h1 hroom hfit
  refine ⟨_, hr, ⟨hlen, .inr ⟨g, cap, _, rfl, hbg, setRow_heap w g cur _ e _ hg, hroom, hcm, ?_, ?_⟩⟩, ⟨rfl, rfl, rfl, by simp, fun k _ hk => setRow_other w g k _ (fun e => hk (by simp [e]))⟩⟩
  · simp only [List.size_toArray, List.length_append, List.length_take, List.length_drop, Array.length_toList]
    omega
  · rw [htake, ← hlen]
    exact List.take_left
end Go.Proofs.YtepkmgmooadbjaaGreat
end
section
/- Rows that lie apart, each grown by append: where a grown row lies; rows within rows. No walk. -/
namespace Go.Proofs.YtepkmgmooadbjaaGreat
open Go.ChangeShapes Go.WideShapes Go.ChangeAt Go.RowKit Go.Maps
set_option linter.unusedVariables false

/-- What an append leaves: the row itself, longer; or a new one, and nothing that was there has turned. -/
def Grew (w w' : World) (v v' : Value) (n m : Nat) : Prop :=
  (∃ g cap, v = .slice (some ⟨g, 0, none⟩) n cap ∧ v' = .slice (some ⟨g, 0, none⟩) (n + m) cap ∧ w.grownBy w' (some g)) ∨
  (∃ cap, v' = .slice (some ⟨w.heap.size, 0, none⟩) (n + m) cap ∧ w.grownBy w' none)

theorem run_append_two {P : Program} (w : World) (base : Nat) (t ty e : TypeId) (i : TypeInfo) (z : Value) (size bytes : Nat) (ht : P.underlying t = some (.slice e)) (hi : P.info? e = some i) (hz : i.zero = some z)
    (hsize : i.size = size) (hby : i.bytes = bytes) (hzs : z.cells.size = size) (hsz : 0 < size) (v : Value) (n : Nat) (xs : List Value) (hown : OwnC w base e size v n xs)
    (a : Addr) (m c : Nat) (news : List Value) (hl : news.length = m * size) (hnews : ∀ j u, news[j]? = some u → w.cell? (a.add j) = some u) (h1 : ∀ u ∈ news, u.oneCell' = true) (hm : 0 < m)
    (h63 : n + m ≤ maxLen) (hbytes : (n + m) * bytes ≤ 140737488355328) (hbase : base ≤ w.heap.size) :
    ∃ v' w', (Builtin.append_ #[t, t] ty #[v, .slice (some a) m c]).run P w = .ok v' w' ∧ OwnC w' base e size v' (n + m) (xs ++ news) ∧ Grew w w' v v' n m := by
  have hform : ∀ {v' : Value} {w' : World}, OwnC w' base e size v' (n + m) (xs ++ news) → v'.ownBlock = some w.heap.size → ∃ cap, v' = .slice (some ⟨w.heap.size, 0, none⟩) (n + m) cap := by
    intro v' w' h hb
    rcases h.2 with ⟨_, h0⟩ | ⟨g, cap, cur, hv, _⟩
    · omega
    · subst hv
      have : g = w.heap.size := by simpa [Value.ownBlock] using hb
      subst this
      exact ⟨cap, rfl⟩
  rcases hown.2 with ⟨rfl, rfl⟩ | ⟨g, cap, cur, rfl, hbg, hg, hnc, hcm, hcs, htake⟩
  · obtain ⟨v', w', hr, h2', h3, h4, h5⟩ := run_append_own_at (P := P) w base t ty e i z size bytes ht hi hz hsize hby hzs hsz _ 0 xs ⟨hown.1, .inl ⟨rfl, rfl⟩⟩ a m c news hl hnews h1 h63 hbytes hbase
    have h2 := OwnC.of h2'
    have hb : v'.ownBlock = some w.heap.size := by
      rcases h5 with h5 | h5
      · rcases h2.2 with ⟨_, h0⟩ | ⟨g, cap, cur, hv, _⟩
        · omega
        · subst hv; simp [Value.ownBlock] at h5
      · exact h5
    obtain ⟨cap, hv⟩ := hform h2 hb
    exact ⟨v', w', hr, h2, .inr ⟨cap, hv, h3⟩⟩
  · by_cases hroom : n + m ≤ cap
    · obtain ⟨w', hr, h2, h3⟩ := run_append_fitsC (P := P) w base t ty e i size ht hi hsize g n cap xs hown a m c news hl hnews h1 hroom
      exact ⟨_, w', hr, h2, .inl ⟨g, cap, rfl, rfl, h3⟩⟩
    · subst hsize
      subst hby
      have hr := run_append_grow (P := P) w t ty e i z ht hi hz ⟨g, 0, none⟩ n cap xs hown.1 hown.cells a m c news hl hnews (by omega) (by unfold maxLen at h63; omega) (growslice_fits (by omega) hbytes)
      have hge := grownCap_ge w (n + m) cap e
      have hcm2 := grownCap_le_maxLen w (n + m) cap e h63
      have hlen : (xs ++ news).length = (n + m) * i.size := by rw [List.length_append, hown.1, hl, Nat.add_mul]
      refine ⟨_, _, hr, ⟨hlen, .inr ⟨w.heap.size, _, _, rfl, hbase, heap_alloc_new w.drew _, hge, hcm2, Nat.le_of_eq (Eq.symm ?_), ?_⟩⟩, .inr ⟨_, rfl, ⟨rfl, rfl, rfl, by simp, fun k hk _ => Below.heap_alloc w.drew _ k hk⟩⟩⟩
      · simp only [Array.size_append, List.size_toArray, size_zeroCells, hzs, hown.1, hl, ← Nat.add_mul]
        congr 1
        omega
      · simp only [Array.toList_append, List.append_assoc]
        rw [← List.append_assoc, ← hlen]
        exact List.take_left

theorem wpList_append_two {P : Program} (w : World) {ops : Array Oper} {rest : List Oper} {o : Oper} {a : Act} {Q : Exit → Act → World → Prop} (hgd : o.guard = none) (s x : Operand) (t : TypeId)
    (ho : o.op = .call { callee := .builtin .append, args := #[s, x], argTypes := #[t, t] })
    (base : Nat) (e : TypeId) (i : TypeInfo) (z : Value) (size bytes : Nat) (ht : P.underlying t = some (.slice e)) (hi : P.info? e = some i) (hz : i.zero = some z)
    (hsize : i.size = size) (hby : i.bytes = bytes) (hzs : z.cells.size = size) (hsz : 0 < size)
    (v : Value) (n : Nat) (xs : List Value) (hs : a.eval s = v) (hown : OwnC w base e size v n xs)
    (ad : Addr) (m c : Nat) (news : List Value) (hx : a.eval x = .slice (some ad) m c) (hl : news.length = m * size) (hnews : ∀ j u, news[j]? = some u → w.cell? (ad.add j) = some u) (h1 : ∀ u ∈ news, u.oneCell' = true) (hm : 0 < m)
    (h63 : n + m ≤ maxLen) (hbytes : (n + m) * bytes ≤ 140737488355328) (hbase : base ≤ w.heap.size)
    (h : ∀ v' w', OwnC w' base e size v' (n + m) (xs ++ news) → Hid (Grew w w' v v' n m) → wpList P ops Q rest (a.put o.dst v') w') : wpList P ops Q (o :: rest) a w := by
  refine wpList_plain hgd fun K hK => ?_
  obtain ⟨v', w', hr, h2, h3⟩ := run_append_two (P := P) w base t o.type e i z size bytes ht hi hz hsize hby hzs hsz v n xs hown ad m c news hl hnews h1 hm h63 hbytes hbase
  unfold Oper.wp execOp
  simp only [ho, resolve, invoke, builtin, Sem.run_bind, Sem.run_pure, Result.andThen_ok, List.map_toArray, List.map_cons, List.map_nil, hs, hx, hr]
  exact hK _ _ (h v' w' h2 h3)

/-- A row's beginning is a row. -/
theorem own_prefix {w : World} {base e size g n m cap : Nat} {xs : List Value} (h : OwnC w base e size (.slice (some ⟨g, 0, none⟩) (n + m) cap) (n + m) xs) :
    OwnC w base e size (.slice (some ⟨g, 0, none⟩) n cap) n (xs.take (n * size)) := by
  have hle : n * size ≤ (n + m) * size := Nat.mul_le_mul_right _ (by omega)
  refine ⟨by rw [List.length_take, h.1]; omega, ?_⟩
  rcases h.2 with ⟨hv, _⟩ | ⟨g', cap', cur, hv, hb, hh, hnc, hcm, hcs, htake⟩
  · cases hv
  · injection hv with h1 h2 h3
    injection h1 with h1
    injection h1 with h1
    subst h1 h3
    exact .inr ⟨g, cap, cur, rfl, hb, hh, by omega, hcm, hcs, by rw [← htake, List.take_take, Nat.min_eq_left hle]⟩
/-- Rows of different kinds never lie in one block. -/
theorem own_ne {w : World} {base base' e e' size size' n n' b : Nat} {v v' : Value} {xs xs' : List Value} (h : OwnC w base e size v n xs) (h' : OwnC w base' e' size' v' n' xs') (hne : e ≠ e') (hb : v.ownBlock = some b) : v'.ownBlock ≠ some b := by
  intro hb'
  rcases h.2 with ⟨rfl, _⟩ | ⟨g, cap, cur, rfl, _, hh, _⟩
  · simp [Value.ownBlock] at hb
  · rcases h'.2 with ⟨rfl, _⟩ | ⟨g', cap', cur', rfl, _, hh', _⟩
    · simp [Value.ownBlock] at hb'
    · simp [Value.ownBlock] at hb hb'
      subst hb hb'
      rw [hh] at hh'
      injection hh' with hh'
      injection hh' with _ ht
      exact hne ht
/-- A row that is not empty: where it lies. -/
theorem own_some {w : World} {base e size n : Nat} {v : Value} {xs : List Value} (h : OwnC w base e size v n xs) (hn : 0 < n) : ∃ g cap, v = .slice (some ⟨g, 0, none⟩) n cap ∧ base ≤ g ∧ g < w.heap.size ∧ n ≤ cap ∧ cap ≤ maxLen := by
  have hlt := h.lt
  rcases h.2 with ⟨_, h0⟩ | ⟨g, cap, cur, hv, hb, _, hnc, hcm, _⟩
  · omega
  · subst hv
    exact ⟨g, cap, rfl, hb, (hlt g rfl).2, hnc, hcm⟩
end Go.Proofs.YtepkmgmooadbjaaGreat
end
section
/- Rows that lie apart, and stores into them. -/
namespace Go.Proofs.YtepkmgmooadbjaaGreat
open Go.ChangeShapes Go.WideShapes Go.ChangeAt Go.RowKit Go.Maps Go.Sort
set_option linter.unusedVariables false

/-- Rows, one for each number below K. -/
def Fam (w : World) (base K : Nat) (val : Nat → Value) (len : Nat → Nat) (X : Nat → List Value) : Prop := ∀ j, j < K → OwnC w base 37 8 (val j) (len j) (X j)
/-- No two of them in one block. -/
def Lone (K : Nat) (val : Nat → Value) : Prop := ∀ i j, i < K → j < K → i ≠ j → ∀ b, (val i).ownBlock = some b → (val j).ownBlock ≠ some b
def listOf (K : Nat) (val : Nat → Value) : List Value := (List.range K).map val
theorem listOf_get {K k : Nat} (val : Nat → Value) (h : k < K) : (listOf K val)[k]? = some (val k) := by simp [listOf, h]
def upd {α : Type} (f : Nat → α) (k : Nat) (x : α) : Nat → α := fun j => if j = k then x else f j
theorem upd_same {α : Type} (f : Nat → α) (k : Nat) (x : α) : upd f k x k = x := by simp [upd]
theorem upd_other {α : Type} (f : Nat → α) (k j : Nat) (x : α) (h : j ≠ k) : upd f k x j = f j := by simp [upd, h]
/-- One row is stored into; the others stay. -/
theorem Fam.stored {w : World} {base K : Nat} {val : Nat → Value} {len : Nat → Nat} {X : Nat → List Value} (h : Fam w base K val len X) (hl : Lone K val) {k g cap : Nat} (hk : k < K) (hv : val k = .slice (some ⟨g, 0, none⟩) (len k) cap) (j : Nat) (u : Value) :
    Fam (w.setCell ⟨g, j, none⟩ u) base K val len (upd X k ((X k).set j u)) := by
  intro i hi
  by_cases e : i = k
  · subst e
    rw [upd_same]
    have := h i hi
    rw [hv] at this ⊢
    exact (this.stored j u).1
  · rw [upd_other _ _ _ _ e]
    have h0 := h k hk
    rw [hv] at h0
    refine (h i hi).kept (h0.stored j u).2 ?_
    right
    exact hl k i hk hi (Ne.symm e) g (by rw [hv]; rfl)
theorem Fam.keep {w w' : World} {base K : Nat} {val : Nat → Value} {len : Nat → Nat} {X : Nat → List Value} (h : Fam w base K val len X) (hg : w.grownBy w' none) : Fam w' base K val len X :=
  fun j hj => (h j hj).kept hg (by cases (val j).ownBlock <;> simp)
theorem below_none {w w' : World} (h : Go.RowKit.Below w.heap.size w w') : w.grownBy w' none := ⟨h.os, h.tape, h.output, h.size, fun i hi _ => h.block i hi⟩

theorem take_six {Y : List Value} {n : Nat} (h : n + 7 < Y.length) (a0 a1 a2 a3 a4 a5 a6 a7 : Value) : ((((((((Y.set n a0).set (n + 1) a1).set (n + 2) a2).set (n + 3) a3).set (n + 4) a4).set (n + 5) a5).set (n + 6) a6).set (n + 7) a7).take (n + 8) = Y.take n ++ [a0, a1, a2, a3, a4, a5, a6, a7] := by
  apply List.ext_getElem?
  intro i
  rw [List.getElem?_take]
  by_cases h1 : i < n + 8
  · rw [if_pos h1]
    simp only [List.getElem?_set, List.length_set]
    by_cases h2 : i < n
    · rw [if_neg (by omega), if_neg (by omega), if_neg (by omega), if_neg (by omega), if_neg (by omega), if_neg (by omega), if_neg (by omega), if_neg (by omega), List.getElem?_append_left (by rw [List.length_take]; omega), List.getElem?_take, if_pos h2]
    · rw [List.getElem?_append_right (by rw [List.length_take]; omega), List.length_take, Nat.min_eq_left (by omega)]
      obtain ⟨j, rfl⟩ : ∃ j, i = n + j := ⟨i - n, by omega⟩
      rw [Nat.add_sub_cancel_left]
      match j, h1 with
      | 0, _ => simp; omega
      | 1, _ => simp; omega
      | 2, _ => simp; omega
      | 3, _ => simp; omega
      | 4, _ => simp; omega
      | 5, _ => simp; omega
      | 6, _ => simp; omega
      | 7, _ => simp; omega
      | j + 8, h1 => omega
  · rw [if_neg h1, List.getElem?_eq_none (by simp; omega)]
/-- A store into row k. -/
theorem flat_store {wr : World} {base bo go co K : Nat} {val : Nat → Value} {len : Nat → Nat} {Y : Nat → List Value} (hF : Fam wr base K val len Y) (hl : Lone K val) (hO : OwnC wr bo 22 1 (.slice (some ⟨go, 0, none⟩) K co) K (listOf K val)) {k g cap m : Nat} (hk : k < K)
    (hv : val k = .slice (some ⟨g, 0, none⟩) (len k) cap) (hm : m < len k) {M : Int} (hM : M = 1000003 * ((k : Int) + 7) + (m : Int)) (o : Obj) (ht : (Y k).take (m * 8) = lcells (marksL k m)) (hpre : ∀ j, j < k → Y j = lcells (marksL j (len j))) :
    ∃ X : Nat → List Value, Fam (((((((((wr.setCell ⟨g, m * 8, none⟩ (.int .i64 M)).setCell ⟨g, m * 8 + 1, none⟩ (.string ⟨#[]⟩)).setCell ⟨g, m * 8 + 2, none⟩ (.int .i64 0)).setCell ⟨g, m * 8 + 3, none⟩ (.int .i64 0)).setCell ⟨g, m * 8 + 4, none⟩ (.int .i64 0)).setCell ⟨g, m * 8 + 5, none⟩ (.int .u8 0)).setCell ⟨g, m * 8 + 6, none⟩ (.int .i64 0)).setCell ⟨g, m * 8 + 7, none⟩ (.string ⟨#[]⟩)).alloc o) base K val len X ∧ (∀ j, j < k → X j = lcells (marksL j (len j))) ∧ (X k).take ((m + 1) * 8) = lcells (marksL k (m + 1)) ∧
      OwnC (((((((((wr.setCell ⟨g, m * 8, none⟩ (.int .i64 M)).setCell ⟨g, m * 8 + 1, none⟩ (.string ⟨#[]⟩)).setCell ⟨g, m * 8 + 2, none⟩ (.int .i64 0)).setCell ⟨g, m * 8 + 3, none⟩ (.int .i64 0)).setCell ⟨g, m * 8 + 4, none⟩ (.int .i64 0)).setCell ⟨g, m * 8 + 5, none⟩ (.int .u8 0)).setCell ⟨g, m * 8 + 6, none⟩ (.int .i64 0)).setCell ⟨g, m * 8 + 7, none⟩ (.string ⟨#[]⟩)).alloc o) bo 22 1 (.slice (some ⟨go, 0, none⟩) K co) K (listOf K val) := by
  have h1 := ((((((((hF.stored hl hk hv (m * 8) (.int .i64 M)).stored hl hk hv (m * 8 + 1) (.string ⟨#[]⟩)).stored hl hk hv (m * 8 + 2) (.int .i64 0)).stored hl hk hv (m * 8 + 3) (.int .i64 0)).stored hl hk hv (m * 8 + 4) (.int .i64 0)).stored hl hk hv (m * 8 + 5) (.int .u8 0)).stored hl hk hv (m * 8 + 6) (.int .i64 0)).stored hl hk hv (m * 8 + 7) (.string ⟨#[]⟩))
  have hrow := hF k hk
  have hyl := hrow.1
  rw [hv] at hrow
  have hs1 := hrow.stored (m * 8) (.int .i64 M)
  have hs2 := hs1.1.stored (m * 8 + 1) (.string ⟨#[]⟩)
  have hs3 := hs2.1.stored (m * 8 + 2) (.int .i64 0)
  have hs4 := hs3.1.stored (m * 8 + 3) (.int .i64 0)
  have hs5 := hs4.1.stored (m * 8 + 4) (.int .i64 0)
  have hs6 := hs5.1.stored (m * 8 + 5) (.int .u8 0)
  have hs7 := hs6.1.stored (m * 8 + 6) (.int .i64 0)
  have hs8 := hs7.1.stored (m * 8 + 7) (.string ⟨#[]⟩)
  have hne : (Value.slice (some ⟨go, 0, none⟩) K co).ownBlock ≠ some g := own_ne (hF k hk) hO (by decide) (by rw [hv]; rfl)
  refine ⟨_, h1.keep (World.grownBy_alloc _ _ _), fun j hj => ?_, ?_, ((((((((hO.kept hs1.2 (.inr hne)).kept hs2.2 (.inr hne)).kept hs3.2 (.inr hne)).kept hs4.2 (.inr hne)).kept hs5.2 (.inr hne)).kept hs6.2 (.inr hne)).kept hs7.2 (.inr hne)).kept hs8.2 (.inr hne)).alloc _⟩
  · rw [upd_other _ _ _ _ (by omega), upd_other _ _ _ _ (by omega), upd_other _ _ _ _ (by omega), upd_other _ _ _ _ (by omega), upd_other _ _ _ _ (by omega), upd_other _ _ _ _ (by omega), upd_other _ _ _ _ (by omega), upd_other _ _ _ _ (by omega)]
    exact hpre j hj
  · rw [upd_same, upd_same, upd_same, upd_same, upd_same, upd_same, upd_same, upd_same, show (m + 1) * 8 = m * 8 + 8 by omega, take_six (by omega), ht, marksL_succ, lcells_append, hM]
    rfl

end Go.Proofs.YtepkmgmooadbjaaGreat
end
section
/- Rows that are grown one behind the other: none comes into another one's way. No walk. -/
namespace Go.Proofs.YtepkmgmooadbjaaGreat
open Go.ChangeShapes Go.WideShapes Go.ChangeAt Go.RowKit Go.Maps Go.Sort
set_option linter.unusedVariables false

theorem marksL_prefix (k a b : Nat) : (lcells (marksL k (a + b))).take (a * 8) = lcells (marksL k a) := by
  rw [lcells_take _ _ (by rw [marksL_len]; omega)]
  congr 1
  simp only [marksL, ← List.map_take, List.take_range]
  congr 2
  omega
/-- The rows as they are marked, and the first k of them grown. -/
structure G3 (w : World) (base K k : Nat) (val : Nat → Value) (len : Nat → Nat) (G : Nat → Value) : Prop where
  rows : Fam w base K val len (fun j => lcells (marksL j (len j)))
  grown : Fam w base k G (fun j => len j + 64) (fun j => lcells (marksL j (len j + 64)))
  lone : Lone k G
  far : ∀ i j, i < k → j < K → i ≠ j → ∀ b, (G i).ownBlock = some b → (val j).ownBlock ≠ some b
theorem G3.keep {w w' : World} {base K k : Nat} {val : Nat → Value} {len : Nat → Nat} {G : Nat → Value} (h : G3 w base K k val len G) (hg : w.grownBy w' none) : G3 w' base K k val len G :=
  ⟨h.rows.keep hg, h.grown.keep hg, h.lone, h.far⟩
/-- Where a row is that is being grown. -/
def Home (K k : Nat) (val : Nat → Value) (len : Nat → Nat) (G : Nat → Value) (gv : Value) (m : Nat) : Prop :=
  (∃ g cap, val k = .slice (some ⟨g, 0, none⟩) (len k) cap ∧ gv = .slice (some ⟨g, 0, none⟩) (len k + m) cap) ∨
  (∀ b, gv.ownBlock = some b → (∀ j, j < K → (val j).ownBlock ≠ some b) ∧ ∀ i, i < k → (G i).ownBlock ≠ some b)
theorem home_start {w : World} {base K k : Nat} {val : Nat → Value} {len : Nat → Nat} {G : Nat → Value} (h : G3 w base K k val len G) (hk : k < K) : Home K k val len G (val k) 0 := by
  rcases (h.rows k hk).2 with ⟨hv, _⟩ | ⟨g, cap, cur, hv, _⟩
  · exact .inr (fun b hb => by rw [hv] at hb; simp [Value.ownBlock] at hb)
  · exact .inl ⟨g, cap, hv, hv⟩
theorem g3_app {w w' : World} {base K k m : Nat} {val : Nat → Value} {len : Nat → Nat} {G : Nat → Value} {gv v' : Value} (h : G3 w base K k val len G) (hl : Lone K val) (hk : k < K) (hh : Home K k val len G gv m)
    (ho : OwnC w' base 37 8 v' (len k + m + 1) (lcells (marksL k (len k + m + 1)))) (hg : Grew w w' gv v' (len k + m) 1) : G3 w' base K k val len G ∧ Home K k val len G v' (m + 1) := by
  rcases hg with ⟨g, cap, hv, hv', hgr⟩ | ⟨cap, hv', hgr⟩
  · rcases hh with ⟨g2, cap2, hvk, hgv⟩ | hh
    · rw [hv] at hgv
      injection hgv with e1 e2 e3
      injection e1 with e1
      injection e1 with e1
      subst e1 e3
      have hbk : (val k).ownBlock = some g := by rw [hvk]; rfl
      refine ⟨⟨fun j hj => ?_, fun i hi => ?_, h.lone, h.far⟩, .inl ⟨g, cap, hvk, by rw [hv']; rfl⟩⟩
      · by_cases e : j = k
        · subst e
          rw [hv'] at ho
          have := own_prefix (n := len j) (m := m + 1) (by rw [← Nat.add_assoc]; exact ho)
          rw [Nat.add_assoc, marksL_prefix] at this
          rw [hvk]
          exact this
        · exact (h.rows j hj).kept hgr (.inr (hl k j hk hj (Ne.symm e) g hbk))
      · exact (h.grown i hi).kept hgr (.inr (fun hb => h.far i k hi hk (by omega) g hb hbk))
    · have hb : gv.ownBlock = some g := by rw [hv]; rfl
      obtain ⟨h1, h2⟩ := hh g hb
      refine ⟨⟨fun j hj => (h.rows j hj).kept hgr (.inr (h1 j hj)), fun i hi => (h.grown i hi).kept hgr (.inr (h2 i hi)), h.lone, h.far⟩, .inr (fun b hb' => ?_)⟩
      rw [hv'] at hb'
      have : g = b := by simpa [Value.ownBlock] using hb'
      subst this
      exact ⟨h1, h2⟩
  · refine ⟨h.keep hgr, .inr (fun b hb => ?_)⟩
    rw [hv'] at hb
    have : w.heap.size = b := by simpa [Value.ownBlock] using hb
    subst this
    exact ⟨fun j hj hb' => absurd ((h.rows j hj).lt _ hb').2 (by omega), fun i hi hb' => absurd ((h.grown i hi).lt _ hb').2 (by omega)⟩
/-- One more is grown. -/
theorem g3_next {w : World} {base K k : Nat} {val : Nat → Value} {len : Nat → Nat} {G : Nat → Value} {gv : Value} (h : G3 w base K k val len G) (hl : Lone K val) (hk : k < K) (hh : Home K k val len G gv 64)
    (ho : OwnC w base 37 8 gv (len k + 64) (lcells (marksL k (len k + 64)))) : G3 w base K (k + 1) val len (upd G k gv) := by
  have hv : ∀ j, j < K → j ≠ k → ∀ b, gv.ownBlock = some b → (val j).ownBlock ≠ some b := by
    intro j hj hne b hb
    rcases hh with ⟨g, cap, hvk, hgv⟩ | hh
    · rw [hgv] at hb
      have : g = b := by simpa [Value.ownBlock] using hb
      subst this
      exact hl k j hk hj (Ne.symm hne) g (by rw [hvk]; rfl)
    · exact (hh b hb).1 j hj
  have hG : ∀ i, i < k → ∀ b, gv.ownBlock = some b → (G i).ownBlock ≠ some b := by
    intro i hi b hb
    rcases hh with ⟨g, cap, hvk, hgv⟩ | hh
    · rw [hgv] at hb
      have : g = b := by simpa [Value.ownBlock] using hb
      subst this
      exact fun hb' => h.far i k hi hk (by omega) g hb' (by rw [hvk]; rfl)
    · exact (hh b hb).2 i hi
  refine ⟨h.rows, fun i hi => ?_, fun i j hi hj hne b hb => ?_, fun i j hi hj hne b hb => ?_⟩
  · by_cases e : i = k
    · subst e; rw [upd_same]; exact ho
    · rw [upd_other _ _ _ _ e]; exact h.grown i (by omega)
  · by_cases e : i = k
    · subst e
      rw [upd_same] at hb
      rw [upd_other _ _ _ _ (Ne.symm hne)]
      exact hG j (by omega) b hb
    · rw [upd_other _ _ _ _ e] at hb
      by_cases e' : j = k
      · subst e'
        rw [upd_same]
        exact fun hb' => hG i (by omega) b hb' hb
      · rw [upd_other _ _ _ _ e']
        exact h.lone i j (by omega) (by omega) hne b hb
  · by_cases e : i = k
    · subst e
      rw [upd_same] at hb
      exact hv j hj (Ne.symm hne) b hb
    · rw [upd_other _ _ _ _ e] at hb
      exact h.far i j (by omega) hj hne b hb
/-- A row of another kind stays. -/
theorem other_kept {w w' : World} {base base' e size n m nn : Nat} {gv v' v : Value} {xs ys : List Value} (hgv : OwnC w base 37 8 gv nn xs) (hO : OwnC w base' e size v n ys) (hne : 37 ≠ e) (hg : Grew w w' gv v' nn m) : OwnC w' base' e size v n ys := by
  rcases hg with ⟨g, cap, hv, _, hgr⟩ | ⟨cap, _, hgr⟩
  · exact hO.kept hgr (.inr (own_ne hgv hO hne (by rw [hv]; rfl)))
  · exact hO.kept hgr (by cases v.ownBlock <;> simp)
theorem below_grew {a w w' : World} {B base nn m : Nat} {gv v' : Value} {xs : List Value} (hb : Go.RowKit.Below B a w) (hgv : OwnC w base 37 8 gv nn xs) (hB : B ≤ base) (hBw : B ≤ w.heap.size) (hg : Grew w w' gv v' nn m) : Go.RowKit.Below B a w' := by
  rcases hg with ⟨g, cap, hv, _, hgr⟩ | ⟨cap, _, hgr⟩
  · refine hb.grown hgr hBw (fun k hk => ?_)
    cases hk
    have := (hgv.lt g (by rw [hv]; rfl)).1
    omega
  · exact hb.grown hgr hBw (fun k hk => by cases hk)
theorem g3_set {w : World} {base K k : Nat} {val : Nat → Value} {len : Nat → Nat} {G : Nat → Value} (h : G3 w base K k val len G) {bg g0 n cap : Nat} {xs : List Value} (hgs : OwnC w bg 22 1 (.slice (some ⟨g0, 0, none⟩) n cap) n xs) (j : Nat) (u : Value) :
    G3 (w.setCell ⟨g0, j, none⟩ u) base K k val len G :=
  ⟨fun i hi => (h.rows i hi).kept (hgs.stored j u).2 (.inr (own_ne hgs (h.rows i hi) (by decide) rfl)), fun i hi => (h.grown i hi).kept (hgs.stored j u).2 (.inr (own_ne hgs (h.grown i hi) (by decide) rfl)), h.lone, h.far⟩
theorem row_set {w : World} {base base' e e' size size' n n' g0 cap : Nat} {v : Value} {xs ys : List Value} (h : OwnC w base e size v n xs) (hgs : OwnC w base' e' size' (.slice (some ⟨g0, 0, none⟩) n' cap) n' ys) (hne : v.ownBlock ≠ some g0) (j : Nat) (u : Value) :
    OwnC (w.setCell ⟨g0, j, none⟩ u) base e size v n xs := h.kept (hgs.stored j u).2 (.inr hne)
theorem grown_fact {wA wr : World} (hb : Go.RowKit.Below wA.heap.size wA wr) {p : Addr} {v : Value} (hc : wA.cell? p = some v) (hp : p.block < wA.heap.size) (n : Nat) (os : Array Obj) : (grow (wr.drewN n) os).cell? p = some v :=
  cell_grown (by have := hb.size; omega) ((hb.cell hp).trans hc) n os
/-- The six cells of a mark. -/
theorem mark_cell (a N j c : Nat) (hj : j < N) (hc : c < 8) : (lcells (marksL a N))[j * 8 + c]? = (encL (markL a j))[c]? := lcells_get _ j _ (marksL_get a N j hj) c hc
theorem mark_cells {w : World} {base n g cap a N j : Nat} (h : OwnC w base 37 8 (.slice (some ⟨g, 0, none⟩) n cap) n (lcells (marksL a N))) (hN : N = n) (hj : j < n) :
    w.cell? ⟨g, j * 8, none⟩ = some (.int .i64 (1000003 * ((a : Int) + 7) + (j : Int))) ∧
    w.cell? ⟨g, j * 8 + 1, none⟩ = some (.string ⟨#[]⟩) ∧
    w.cell? ⟨g, j * 8 + 2, none⟩ = some (.int .i64 0) ∧
    w.cell? ⟨g, j * 8 + 3, none⟩ = some (.int .i64 0) ∧
    w.cell? ⟨g, j * 8 + 4, none⟩ = some (.int .i64 0) ∧
    w.cell? ⟨g, j * 8 + 5, none⟩ = some (.int .u8 0) ∧
    w.cell? ⟨g, j * 8 + 6, none⟩ = some (.int .i64 0) ∧
    w.cell? ⟨g, j * 8 + 7, none⟩ = some (.string ⟨#[]⟩) := by
  subst hN
  have hx : ∀ c, c < 8 → w.cell? ⟨g, j * 8 + c, none⟩ = (encL (markL a j))[c]? := fun c hc => (h.cellAt (j * 8 + c) (by omega)).trans (mark_cell a N j c hj hc)
  exact ⟨hx 0 (by omega), hx 1 (by omega), hx 2 (by omega), hx 3 (by omega), hx 4 (by omega), hx 5 (by omega), hx 6 (by omega), hx 7 (by omega)⟩
end Go.Proofs.YtepkmgmooadbjaaGreat
end
section
/- Rows that are grown by others: what stood in them stays. No walk. -/
namespace Go.Proofs.YtepkmgmooadbjaaGreat
open Go.ChangeShapes Go.WideShapes Go.ChangeAt Go.RowKit Go.Maps Go.Sort
set_option linter.unusedVariables false

/-- The rows as they are marked, and the first k of them grown by whatever it is. -/
structure G4 (w : World) (base K k : Nat) (val : Nat → Value) (len : Nat → Nat) (G : Nat → Value) (X : Nat → List Value) : Prop where
  rows : Fam w base K val len (fun j => lcells (marksL j (len j)))
  grown : Fam w base k G (fun j => len j + 64) X
  mark : ∀ i, i < k → (X i).take (len i * 8) = lcells (marksL i (len i))
  far : ∀ i j, i < k → j < K → i ≠ j → ∀ b, (G i).ownBlock = some b → (val j).ownBlock ≠ some b
theorem G4.keep {w w' : World} {base K k : Nat} {val : Nat → Value} {len : Nat → Nat} {G : Nat → Value} {X : Nat → List Value} (h : G4 w base K k val len G X) (hg : w.grownBy w' none) : G4 w' base K k val len G X :=
  ⟨h.rows.keep hg, h.grown.keep hg, h.mark, h.far⟩
theorem G3.start {w : World} {base K k : Nat} {val : Nat → Value} {len : Nat → Nat} {G : Nat → Value} (h : G3 w base K k val len G) (X : Nat → List Value) : G4 w base K 0 val len G X :=
  ⟨h.rows, fun i hi => absurd hi (by omega), fun i hi => absurd hi (by omega), fun i j hi => absurd hi (by omega)⟩
theorem g4_next {w w' : World} {base K k : Nat} {val : Nat → Value} {len : Nat → Nat} {G : Nat → Value} {X : Nat → List Value} {v' : Value} {ys : List Value} (h : G4 w base K k val len G X) (hl : Lone K val) (hk : k < K)
    (ho : OwnC w' base 37 8 v' (len k + 64) (lcells (marksL k (len k)) ++ ys)) (hg : Grew w w' (val k) v' (len k) 64) :
    G4 w' base K (k + 1) val len (upd G k v') (upd X k (lcells (marksL k (len k)) ++ ys)) := by
  have hlen : (lcells (marksL k (len k))).length = len k * 8 := (h.rows k hk).1
  have htake : (lcells (marksL k (len k)) ++ ys).take (len k * 8) = lcells (marksL k (len k)) := by rw [← hlen]; exact List.take_left
  have hmark : ∀ i, i < k + 1 → (upd X k (lcells (marksL k (len k)) ++ ys) i).take (len i * 8) = lcells (marksL i (len i)) := by
    intro i hi
    by_cases e : i = k
    · subst e; rw [upd_same]; exact htake
    · rw [upd_other _ _ _ _ e]; exact h.mark i (by omega)
  rcases hg with ⟨g, cap, hv, hv', hgr⟩ | ⟨cap, hv', hgr⟩
  · have hbk : (val k).ownBlock = some g := by rw [hv]; rfl
    refine ⟨fun j hj => ?_, fun i hi => ?_, hmark, fun i j hi hj hne b hb => ?_⟩
    · by_cases e : j = k
      · subst e
        rw [hv'] at ho
        have := own_prefix ho
        rw [htake] at this
        rw [hv]
        exact this
      · exact (h.rows j hj).kept hgr (.inr (hl k j hk hj (Ne.symm e) g hbk))
    · by_cases e : i = k
      · subst e; rw [upd_same, upd_same]; exact ho
      · rw [upd_other _ _ _ _ e, upd_other _ _ _ _ e]
        exact (h.grown i (by omega)).kept hgr (.inr (fun hb => h.far i k (by omega) hk e g hb hbk))
    · by_cases e : i = k
      · subst e
        rw [upd_same, hv'] at hb
        have : g = b := by simpa [Value.ownBlock] using hb
        subst this
        exact hl i j hk hj hne g hbk
      · rw [upd_other _ _ _ _ e] at hb
        exact h.far i j (by omega) hj hne b hb
  · have h' := h.keep hgr
    refine ⟨h'.rows, fun i hi => ?_, hmark, fun i j hi hj hne b hb => ?_⟩
    · by_cases e : i = k
      · subst e; rw [upd_same, upd_same]; exact ho
      · rw [upd_other _ _ _ _ e, upd_other _ _ _ _ e]; exact h'.grown i (by omega)
    · by_cases e : i = k
      · subst e
        rw [upd_same, hv'] at hb
        have : w.heap.size = b := by simpa [Value.ownBlock] using hb
        subst this
        exact fun hb' => absurd ((h.rows j hj).lt _ hb').2 (by omega)
      · rw [upd_other _ _ _ _ e] at hb
        exact h.far i j (by omega) hj hne b hb
theorem g4_set {w : World} {base K k : Nat} {val : Nat → Value} {len : Nat → Nat} {G : Nat → Value} {X : Nat → List Value} (h : G4 w base K k val len G X) {bg g0 n cap : Nat} {xs : List Value} (hgs : OwnC w bg 22 1 (.slice (some ⟨g0, 0, none⟩) n cap) n xs) (j : Nat) (u : Value) :
    G4 (w.setCell ⟨g0, j, none⟩ u) base K k val len G X :=
  ⟨fun i hi => (h.rows i hi).kept (hgs.stored j u).2 (.inr (own_ne hgs (h.rows i hi) (by decide) rfl)), fun i hi => (h.grown i hi).kept (hgs.stored j u).2 (.inr (own_ne hgs (h.grown i hi) (by decide) rfl)), h.mark, h.far⟩
/-- A mark within a longer row. -/
theorem mark_in {w : World} {base g n cap a N j : Nat} {X : List Value} (h : OwnC w base 37 8 (.slice (some ⟨g, 0, none⟩) n cap) n X) (ht : X.take (N * 8) = lcells (marksL a N)) (hN : N ≤ n) (hj : j < N) :
    w.cell? ⟨g, j * 8, none⟩ = some (.int .i64 (1000003 * ((a : Int) + 7) + (j : Int))) ∧
    w.cell? ⟨g, j * 8 + 1, none⟩ = some (.string ⟨#[]⟩) ∧
    w.cell? ⟨g, j * 8 + 2, none⟩ = some (.int .i64 0) ∧
    w.cell? ⟨g, j * 8 + 3, none⟩ = some (.int .i64 0) ∧
    w.cell? ⟨g, j * 8 + 4, none⟩ = some (.int .i64 0) ∧
    w.cell? ⟨g, j * 8 + 5, none⟩ = some (.int .u8 0) ∧
    w.cell? ⟨g, j * 8 + 6, none⟩ = some (.int .i64 0) ∧
    w.cell? ⟨g, j * 8 + 7, none⟩ = some (.string ⟨#[]⟩) := by
  have hx : ∀ c, c < 8 → w.cell? ⟨g, j * 8 + c, none⟩ = (encL (markL a j))[c]? := fun c hc => by
    rw [h.cellAt (j * 8 + c) (by omega), ← mark_cell a N j c hj hc, ← ht, List.getElem?_take, if_pos (by omega)]
  exact ⟨hx 0 (by omega), hx 1 (by omega), hx 2 (by omega), hx 3 (by omega), hx 4 (by omega), hx 5 (by omega), hx 6 (by omega), hx 7 (by omega)⟩
theorem one_set1 {Y : List Value} (h : ∀ u ∈ Y, u.oneCell' = true) (i : Nat) (a : Value) (ha : a.oneCell' = true) : ∀ u ∈ Y.set i a, u.oneCell' = true := by
  intro u hu
  rcases List.mem_or_eq_of_mem_set hu with hu | rfl
  · exact h u hu
  · exact ha
theorem one_made (n : Nat) : ∀ u ∈ (madeCells (Value.agg #[.int .i64 0, .string ⟨#[]⟩, .int .i64 0, .int .i64 0, .int .i64 0, .int .u8 0, .int .i64 0, .string ⟨#[]⟩]).cells n).toList, u.oneCell' = true := by
  intro u hu
  simp only [madeCells, Array.toList_map, List.mem_map] at hu
  obtain ⟨i, _, rfl⟩ := hu
  have hs : (Value.agg #[.int .i64 0, .string ⟨#[]⟩, .int .i64 0, .int .i64 0, .int .i64 0, .int .u8 0, .int .i64 0, .string ⟨#[]⟩]).cells = #[.int .i64 0, .string ⟨#[]⟩, .int .i64 0, .int .i64 0, .int .i64 0, .int .u8 0, .int .i64 0, .string ⟨#[]⟩] := rfl
  rw [hs]
  have h6 : i % 8 < 8 := Nat.mod_lt _ (by omega)
  simp only [List.size_toArray, List.length_cons, List.length_nil, Nat.zero_add, Nat.reduceAdd]
  generalize i % 8 = r at h6
  match r, h6 with
  | 0, _ => rfl
  | 1, _ => rfl
  | 2, _ => rfl
  | 3, _ => rfl
  | 4, _ => rfl
  | 5, _ => rfl
  | 6, _ => rfl
  | 7, _ => rfl
/-- What lies below stays, and so do rows of every other kind. -/
structure Kept2 (B : Nat) (w w' : World) : Prop where
  below : Go.RowKit.Below B w w'
  rows : ∀ bb e sz v n xs, e ≠ 37 → e ≠ 22 → OwnC w bb e sz v n xs → OwnC w' bb e sz v n xs
  room : B ≤ w.heap.size
theorem Kept2.refl {B : Nat} {w : World} (h : B ≤ w.heap.size) : Kept2 B w w := ⟨Below.refl _ _, fun _ _ _ _ _ _ _ _ h => h, h⟩
theorem Kept2.size {B : Nat} {w w' : World} (h : Kept2 B w w') : w.heap.size ≤ w'.heap.size := h.below.size
theorem Kept2.still {B : Nat} {a w w' : World} (h : Kept2 B a w) (hg : w.grownBy w' none) : Kept2 B a w' :=
  ⟨h.below.grown hg (Nat.le_trans h.room h.size) (fun j hj => by cases hj), fun bb e sz v n xs h1 h2 ho => (h.rows bb e sz v n xs h1 h2 ho).kept hg (by cases v.ownBlock <;> simp), h.room⟩
theorem draws_none (w : World) (n : Nat) : w.grownBy (w.drewN n) none := ⟨rfl, rfl, rfl, Nat.le_refl _, fun _ _ _ => rfl⟩
theorem Kept2.set {B : Nat} {a w : World} (h : Kept2 B a w) {bb e size g n cap : Nat} {xs : List Value} (ho : OwnC w bb e size (.slice (some ⟨g, 0, none⟩) n cap) n xs) (he : e = 37 ∨ e = 22) (hB : B ≤ g) (j : Nat) (u : Value) : Kept2 B a (w.setCell ⟨g, j, none⟩ u) :=
  ⟨h.below.setCell (p := ⟨g, j, none⟩) hB _, fun bb' e' sz v m ys h1 h2 ho' => (h.rows bb' e' sz v m ys h1 h2 ho').kept (ho.stored j u).2 (.inr (own_ne ho (h.rows bb' e' sz v m ys h1 h2 ho') (by rcases he with rfl | rfl; exact Ne.symm h1; exact Ne.symm h2) rfl)), h.room⟩
theorem Kept2.grew {B : Nat} {a w w' : World} (h : Kept2 B a w) {base nn m : Nat} {gv v' : Value} {xs : List Value} (hgv : OwnC w base 37 8 gv nn xs) (hB : B ≤ base) (hg : Grew w w' gv v' nn m) : Kept2 B a w' :=
  ⟨below_grew h.below hgv hB (Nat.le_trans h.room h.size) hg, fun bb e sz v n xs h1 h2 ho => other_kept hgv (h.rows bb e sz v n xs h1 h2 ho) (Ne.symm h1) hg, h.room⟩
end Go.Proofs.YtepkmgmooadbjaaGreat
end
section
/- Many cells stored at once into a row that lies apart. No walk. -/
namespace Go.Proofs.YtepkmgmooadbjaaGreat
open Go.ChangeShapes Go.WideShapes Go.ChangeAt Go.RowKit Go.Maps Go.Sort
set_option linter.unusedVariables false

def setL (xs : List Value) (o : Nat) : List Value → List Value
  | [] => xs
  | v :: r => setL (xs.set o v) (o + 1) r
theorem setL_length : ∀ (vs xs : List Value) (o : Nat), (setL xs o vs).length = xs.length
  | [], xs, o => rfl
  | v :: r, xs, o => by rw [setL, setL_length r, List.length_set]
theorem setL_take : ∀ (vs xs : List Value) (o : Nat), o + vs.length ≤ xs.length → (setL xs o vs).take (o + vs.length) = xs.take o ++ vs
  | [], xs, o, h => by simp [setL]
  | v :: r, xs, o, h => by
    rw [List.length_cons] at h
    have := setL_take r (xs.set o v) (o + 1) (by rw [List.length_set]; omega)
    rw [setL, List.length_cons, show o + (r.length + 1) = o + 1 + r.length by omega, this, List.take_add_one, List.getElem?_set_self (by omega), List.take_set_of_le (Nat.le_refl _)]
    simp
section
variable {w : World} {base : Nat} {e : TypeId} {size n g cap : Nat}
theorem OwnC.storedN : ∀ (vs : List Value) {w : World} {xs : List Value} (h : OwnC w base e size (.slice (some ⟨g, 0, none⟩) n cap) n xs) (o : Nat),
    OwnC (w.setCells g o vs) base e size (.slice (some ⟨g, 0, none⟩) n cap) n (setL xs o vs) ∧ w.grownBy (w.setCells g o vs) (some g)
  | [], w, xs, h, o => ⟨h, World.grownBy.refl _ _⟩
  | v :: r, w, xs, h, o => by
    obtain ⟨h1, h2⟩ := h.stored o v
    obtain ⟨h3, h4⟩ := OwnC.storedN r h1 (o + 1)
    rw [World.setCells]
    exact ⟨h3, ⟨h4.os.trans h2.os, h4.tape.trans h2.tape, h4.output.trans h2.output, Nat.le_trans h2.size h4.size, fun k hk hne => (h4.block k (Nat.lt_of_lt_of_le hk h2.size) hne).trans (h2.block k hk hne)⟩⟩
theorem Kept2.setN {B : Nat} {a : World} : ∀ (vs : List Value) {w : World} {xs : List Value} (h : Kept2 B a w) (ho : OwnC w base e size (.slice (some ⟨g, 0, none⟩) n cap) n xs) (he : e = 37 ∨ e = 22) (hB : B ≤ g) (j : Nat), Kept2 B a (w.setCells g j vs)
  | [], w, xs, h, ho, he, hB, j => h
  | v :: r, w, xs, h, ho, he, hB, j => by
    rw [World.setCells]
    exact Kept2.setN r (h.set ho he hB j v) (ho.stored j v).1 he hB (j + 1)
end
theorem Fam.storedN {w : World} {base K : Nat} {val : Nat → Value} {len : Nat → Nat} {X : Nat → List Value} (h : Fam w base K val len X) (hl : Lone K val) {k g cap : Nat} (hk : k < K) (hv : val k = .slice (some ⟨g, 0, none⟩) (len k) cap) (o : Nat) (vs : List Value) :
    Fam (w.setCells g o vs) base K val len (upd X k (setL (X k) o vs)) := by
  intro i hi
  have h0 := h k hk
  rw [hv] at h0
  obtain ⟨h1, h2⟩ := h0.storedN vs o
  by_cases e : i = k
  · subst e
    rw [upd_same, hv]
    exact h1
  · rw [upd_other _ _ _ _ e]
    exact (h i hi).kept h2 (.inr (hl k i hk hi (Ne.symm e) g (by rw [hv]; rfl)))
abbrev markV (M : Int) : List Value := [.int .i64 M, .string ⟨#[]⟩, .int .i64 0, .int .i64 0, .int .i64 0, .int .u8 0, .int .i64 0, .string ⟨#[]⟩]
/-- A mark stored into row k. -/
theorem flat_storeN {wr : World} {base bo go co K : Nat} {val : Nat → Value} {len : Nat → Nat} {Y : Nat → List Value} (hF : Fam wr base K val len Y) (hl : Lone K val) (hO : OwnC wr bo 22 1 (.slice (some ⟨go, 0, none⟩) K co) K (listOf K val)) {k g cap m : Nat} (hk : k < K)
    (hv : val k = .slice (some ⟨g, 0, none⟩) (len k) cap) (hm : m < len k) {M : Int} (hM : M = 1000003 * ((k : Int) + 7) + (m : Int)) (o : Obj) (ht : (Y k).take (m * 8) = lcells (marksL k m)) (hpre : ∀ j, j < k → Y j = lcells (marksL j (len j))) :
    ∃ X : Nat → List Value, Fam ((wr.alloc o).setCells g (m * 8) (markV M)) base K val len X ∧ (∀ j, j < k → X j = lcells (marksL j (len j))) ∧ (X k).take ((m + 1) * 8) = lcells (marksL k (m + 1)) ∧
      OwnC ((wr.alloc o).setCells g (m * 8) (markV M)) bo 22 1 (.slice (some ⟨go, 0, none⟩) K co) K (listOf K val) := by
  have hFa := hF.keep (World.grownBy_alloc _ o none)
  have hrow := hFa k hk
  have hyl := hrow.1
  rw [hv] at hrow
  have hs := hrow.storedN (markV M) (m * 8)
  have hne : (Value.slice (some ⟨go, 0, none⟩) K co).ownBlock ≠ some g := own_ne (hF k hk) hO (by decide) (by rw [hv]; rfl)
  refine ⟨_, hFa.storedN hl hk hv (m * 8) (markV M), fun j hj => ?_, ?_, (hO.alloc o).kept hs.2 (.inr hne)⟩
  · rw [upd_other _ _ _ _ (by omega)]
    exact hpre j hj
  · rw [upd_same, show (m + 1) * 8 = m * 8 + (markV M).length from by show (m + 1) * 8 = m * 8 + 8; omega, setL_take _ _ _ (by show m * 8 + 8 ≤ _; omega), ht, marksL_succ, lcells_append, hM]
    rfl
theorem markV_one (M : Int) : (markV M).toArray.all (·.oneCell') = true := by simp [markV, Value.oneCell']
end Go.Proofs.YtepkmgmooadbjaaGreat
end
