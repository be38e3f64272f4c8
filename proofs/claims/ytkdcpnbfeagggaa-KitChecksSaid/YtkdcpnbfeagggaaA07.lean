/- Texts of this proof, one behind the other. -/
import Derived.Deep.QuietTactic
import Derived.BigQuiet
import Derived.Shelf.SlSortCmp.QuietGrown
import Derived.Test.YtkdcpnbfeagggaaA06
import Derived.Test.YtkdcpnbfeagggaaA01
import Derived.Test.YtkdcpnbfeagggaaA05
section
/- Rows of one's own, of several kinds. No walk. -/
namespace Go.Proofs.Ytkdcpnbfeagggaa
namespace Kt
open Go.ChangeShapes Go.WideShapes Go.ChangeAt Go.RowKit Go.Maps Go.Shelf
set_option linter.unusedVariables false
set_option linter.constructorNameAsVariable false

theorem pcells_one' (l : List Pt) : ∀ u ∈ pcells l, u.oneCell' = true := by
  induction l with
  | nil => intro u hu; simp [pcells] at hu
  | cons x r ih =>
    intro u hu
    simp only [pcells, List.mem_cons] at hu
    rcases hu with rfl | rfl | h
    · rfl
    · rfl
    · exact ih u h
theorem txtI' : (Try.prog.info? 9).map (fun i => (i.zero, i.size, i.bytes)) = some (some (.string ⟨#[]⟩), 1, 16) := by kernel_rfl
theorem partI' : (Try.prog.info? 34).map (fun i => (i.zero, i.size, i.bytes)) = some (some (.agg #[.string ⟨#[]⟩, .int .i64 0]), 2, 24) := by kernel_rfl
theorem itemI : (Try.prog.info? 32).map (fun i => (i.zero, i.size, i.bytes)) = some (some zI, 4, 72) := by kernel_rfl

/-- An item whose lists lie in rows of its own, at a base or above it. -/
structure OwnI (w : World) (base : Nat) (x : Iv) : Prop where
  parts : w.ownsRow base 34 2 x.pv x.it.parts.length (pcells x.it.parts)
  others : w.ownsRow base 9 1 x.ov x.others.length (tcells x.others)
theorem OwnI.sub {w : World} {base : Nat} {x : Iv} (h : OwnI w base x) : ISub w w.heap.size x := ⟨PSl.own h.parts, TSl.own h.others⟩
theorem ownAt {w w' : World} {base e size n : Nat} {v : Value} {xs : List Value} (h : w.ownsRow base e size v n xs) (hb : Go.RowKit.Below w.heap.size w w') : w'.ownsRow base e size v n xs :=
  h.kept (row := none) ⟨hb.os, hb.tape, hb.output, hb.size, fun k hk _ => hb.block k hk⟩ (by cases hv : v.ownBlock with
    | none => exact .inl rfl
    | some b => exact .inr (by simp))
theorem OwnI.at_ {w w' : World} {base : Nat} {x : Iv} (h : OwnI w base x) (hb : Go.RowKit.Below w.heap.size w w') : OwnI w' base x := ⟨ownAt h.parts hb, ownAt h.others hb⟩
theorem OwnI.less {w : World} {base base' : Nat} {x : Iv} (h : OwnI w base x) (hb : base' ≤ base) : OwnI w base' x := ⟨base_less h.parts hb, base_less h.others hb⟩

theorem ISub.at_ {w W : World} {x : Iv} (h : ISub w w.heap.size x) (hb : Go.RowKit.Below w.heap.size w W) : ISub W W.heap.size x := (h.below hb).mono hb.size
abbrev zBoxO : Obj := .cells #[.string ⟨#[]⟩, .int .i64 0, .slice none 0 0, .slice none 0 0] 32
theorem box_cells {W : World} {B : Nat} {u0 u1 u2 u3 : Value} (h : W.heap[B]? = some (.cells #[u0, u1, u2, u3] 32 (0, 0))) : (W.cell? ⟨B, 0, none⟩ = some u0 ∧ W.cell? ⟨B, 1, none⟩ = some u1 ∧ W.cell? ⟨B, 2, none⟩ = some u2 ∧ W.cell? ⟨B, 3, none⟩ = some u3) ∧
    W.frozen? ⟨B, 0, none⟩ = false ∧ W.frozen? ⟨B, 1, none⟩ = false ∧ W.frozen? ⟨B, 2, none⟩ = false ∧ W.frozen? ⟨B, 3, none⟩ = false := by
  refine ⟨⟨?_, ?_, ?_, ?_⟩, ?_, ?_, ?_, ?_⟩
  · rw [cell_of_row _ _ _ _ _ _ h]; rfl
  · rw [cell_of_row _ _ _ _ _ _ h]; rfl
  · rw [cell_of_row _ _ _ _ _ _ h]; rfl
  · rw [cell_of_row _ _ _ _ _ _ h]; rfl
  all_goals (simp [World.frozen?, h])
/-- A block that holds one item, and stays. -/
theorem box_at {W W' : World} {B n : Nat} {u0 u1 u2 u3 : Value} (h : W.heap[B]? = some (.cells #[u0, u1, u2, u3] 32 (0, 0))) (hb : Go.RowKit.Below n W W') (hB : B < n) : W'.heap[B]? = some (.cells #[u0, u1, u2, u3] 32 (0, 0)) := (hb.block B hB).trans h
/-- Rows of another kind stay, where a row grows. -/
theorem own_kinds {w w' : World} {base e size n : Nat} {v : Value} {xs : List Value} (h : w.ownsRow base e size v n xs) {base' e' size' n' : Nat} {v' : Value} {xs' : List Value} (h' : w.ownsRow base' e' size' v' n' xs') (he : e ≠ e') (hg : w.grownBy w' v'.ownBlock) : w'.ownsRow base e size v n xs := by
  refine h.kept hg ?_
  rcases h.2 with ⟨rfl, _⟩ | ⟨g, cap, cur, rfl, _, hh, _⟩
  · exact .inl rfl
  · refine .inr (fun hgg => ?_)
    rcases h'.2 with ⟨rfl, _⟩ | ⟨g', cap', cur', rfl, _, hh', _⟩
    · cases hgg
    · simp only [Value.ownBlock, Option.some.injEq] at hgg
      subst hgg
      rw [hh] at hh'
      simp only [Option.some.injEq, Obj.cells.injEq] at hh'
      exact he hh'.2.1
theorem quad_new (w : World) (a b c d : Value) (t : TypeId) : ∀ (j : Nat) (u : Value), [a, b, c, d][j]? = some u → (w.alloc (.cells #[a, b, c, d] t)).cell? ((⟨w.heap.size, 0, none⟩ : Addr).add j) = some u := by
  intro j u h
  rw [fresh_cell]
  simpa using h
theorem quad_one (c : List UInt8) (n : Int) (A A' : Option Addr) (a b a' b' : Nat) : ∀ u ∈ [strV c, Value.int .i64 n, .slice A a b, .slice A' a' b'], u.oneCell' = true := by
  intro u hu
  simp only [List.mem_cons, List.not_mem_nil, or_false] at hu
  rcases hu with rfl | rfl | rfl | rfl <;> rfl
theorem own_block_lt {w : World} {base e size n : Nat} {v : Value} {xs : List Value} (h : w.ownsRow base e size v n xs) {b : Nat} (hb : v.ownBlock = some b) : base ≤ b ∧ b < w.heap.size := by
  rcases h.2 with ⟨rfl, _⟩ | ⟨g, cap, cur, rfl, h1, hh, _⟩
  · cases hb
  · simp only [Value.ownBlock, Option.some.injEq] at hb
    subst hb
    exact ⟨h1, (Array.getElem?_eq_some_iff.1 hh).1⟩
end Kt
end Go.Proofs.Ytkdcpnbfeagggaa
end
section
/- storemankit.markPart, LentParts (chapter kit): a list of parts with marks behind its end. -/
namespace Go.Proofs.Ytkdcpnbfeagggaa
open Go.ChangeShapes Go.WideShapes Go.ChangeAt Go.RowKit Go.Maps
set_option linter.unusedVariables false

theorem mark_any (k i : Int) (w : World) (h0 : 0 ≤ k) (h1 : k ≤ 1000000) (h2 : 0 ≤ i) (h3 : i ≤ 1099511627776) :
    Calls Try.prog 34 #[.int .i64 k, .int .i64 i] w fun e w' => e = .returned (.int .i64 (1000003 * (k + 7) + i)) ∧ w = w' := by
  go_enter Try.func34, Try.ntmps34
  go_wp2
  go_ret
  exact ⟨rfl, rfl⟩
def markP (k i : Nat) : Pt := ([], 1000003 * ((k : Int) + 7) + (i : Int))
def marksP (k n : Nat) : List Pt := (List.range n).map fun i => markP k i
theorem marksP_succ (k n : Nat) : marksP k (n + 1) = marksP k n ++ [markP k n] := by simp [marksP, List.range_succ]
theorem marksP_len (k n : Nat) : (marksP k n).length = n := by simp [marksP]
theorem marksP_get (k n i : Nat) (h : i < n) : (marksP k n)[i]? = some (markP k i) := by simp [marksP, h]
theorem markp_any (k i : Int) (w : World) (h0 : 0 ≤ k) (h1 : k ≤ 1000000) (h2 : 0 ≤ i) (h3 : i ≤ 1099511627776) :
    Calls Try.prog 49 #[.int .i64 k, .int .i64 i] w fun e w' => e = .returned (.agg #[.string ⟨#[]⟩, .int .i64 (1000003 * (k + 7) + i)]) ∧ w.alloc (.cells #[.string ⟨#[]⟩, .int .i64 (1000003 * (k + 7) + i)] 34) = w' := by
  go_enter Try.func49, Try.ntmps49
  go_wp2_with (go_at_call 34; ((with_reducible refine (mark_any k i _ h0 h1 h2 h3).mono ?_); rintro e w' ⟨rfl, rfl⟩))
  exact bodyPost_ret (v := .agg #[.string ⟨#[]⟩, .int .i64 (1000003 * (k + 7) + i)]) (by simp [results, Try.results49, go_sem]) rfl ⟨rfl, rfl⟩

theorem two_new_at (w : World) (n : Nat) (hn : w.heap.size = n) (a b : Value) (t : TypeId) : ∀ (j : Nat) (u : Value), [a, b][j]? = some u → (w.alloc (.cells #[a, b] t)).cell? ((⟨n, 0, none⟩ : Addr).add j) = some u := by
  subst hn; exact two_new w a b t

/-- What is lent: the parts, twelve marks behind their end. -/
def LentToP (l : List Pt) (w : World) (e : Ending) (w' : World) : Prop :=
  e = .returned (.slice (some ⟨w.heap.size, 0, none⟩) l.length (l.length + 12)) ∧ Below w.heap.size w w' ∧
  w'.ownsRow w.heap.size 34 2 (.slice (some ⟨w.heap.size, 0, none⟩) (l.length + 12) (l.length + 12)) (l.length + 12) (pcells (l ++ marksP 1 12))

set_option maxRecDepth 100000 in
set_option maxHeartbeats 1000000 in
theorem lentp_any (v : Value) (l : List Pt) (B : Nat) (w : World) (hv : PSl w B v l) (hB : B ≤ w.heap.size) (hlen : l.length ≤ 1048576) :
    Calls Try.prog 32 #[v] w (LentToP l w) := by
  obtain ⟨i0, hi, hz0, hz1, hz2⟩ := info_parts infoPart
  obtain ⟨A, c, rfl, hc1, hc2, hcz, hl⟩ := id hv
  have H1 := Lib.hid hi
  have H2 := Lib.hid hz0
  have H3 := Lib.hid hz1
  have H4 := Lib.hid hz2
  clear hi hz0 hz1 hz2
  go_enter Try.func32, Try.ntmps32
  go_wp2_with (first
    | (at_make; refine wpList_make_own _ rfl _ _ 29 rfl w.heap.size 34 i0 (.agg #[.string ⟨#[]⟩, .int .i64 0]) 2 Try.underlying29 H1.out H2.out H3.out .i64 .i64 _ (l.length + 12) rfl rfl (by omega) (by rw [H4.out]; omega) (by unfold maxLen; omega) (Nat.le_refl _) ?_; intro w1 hown1 hg1)
    | (at_builtin; refine wpList_append_fits_any _ rfl (.tmp 9) (.tmp 10) 29 rfl w.heap.size 34 i0 2 Try.underlying29 H1.out H3.out w.heap.size 0 (l.length + 12) [] rfl hown1 A l.length c (pcells l) rfl (pcells_length l) (fun h => ⟨by have := hcz h; omega, hcz h⟩) (fun ad had j u hu => by have h2 := (hl.below ((Below.refl _ _).grown hg1 hB (fun k hk => by cases hk))).get hu; obtain ⟨ad', e1, _, e2⟩ := h2; rw [had] at e1; injection e1 with e1; rw [e1]; exact e2) (pcells_one l) (by omega) ?_; intro w2 hown2 hg2))
  have hb2 : Below w.heap.size w w2 := ((Below.refl _ _).grown hg1 (Nat.le_refl _) (fun k hk => by cases hk)).grown hg2 hg1.size (fun k hk => by cases hk; exact Nat.le_refl _)
  have hz : w.heap.size < w2.heap.size := by have := hown2.lt w.heap.size rfl; omega
  clear hown1 hg1 hg2
  simp only [Nat.zero_add, List.nil_append] at hown2
  go_loopw [3, 4] (fun v i wr => ∃ k : Nat, k ≤ 12 ∧ i = .int .i64 k ∧ v = .slice (some ⟨w.heap.size, 0, none⟩) (l.length + k) (l.length + 12) ∧
      wr.ownsRow w.heap.size 34 2 (.slice (some ⟨w.heap.size, 0, none⟩) (l.length + k) (l.length + 12)) (l.length + k) (pcells (l ++ marksP 1 k)) ∧ Below w.heap.size w wr ∧ w.heap.size < wr.heap.size)
    (fun _ i _ => 12 - (intOf i).toNat)
  case atStart => exact ⟨0, by omega, rfl, rfl, by simpa [marksP] using hown2, hb2, hz⟩
  case round =>
    obtain ⟨k, hk, rfl, rfl, hrow, hbr, hzr⟩ := hrel
    by_cases hlt : k < 12
    · have hmk : (1000003 * ((1 : Int) + 7) + (k : Int)) = 8000024 + (k : Int) := by omega
      have HMK := Lib.hid hmk
      clear hmk
      go_wp2_with (first
        | (go_at_call 49; ((with_reducible refine (markp_any 1 k _ (by omega) (by omega) (by omega) (by omega)).mono ?_); rintro e w' ⟨rfl, rfl⟩))
        | (at_builtin; refine wpList_append_fits _ rfl (.tmp 16) (.tmp 19) 29 rfl w.heap.size 34 i0 2 Try.underlying29 H1.out H3.out w.heap.size (l.length + k) (l.length + 12) _ rfl ((hrow.alloc _).alloc _) ⟨wr.heap.size + 1, 0, none⟩ 1 1 [.string ⟨#[]⟩, .int .i64 (8000024 + (k : Int))] rfl rfl (two_new_at _ _ (by simp) _ _ _) (two_one _ _) (by omega) ?_; intro w3 hown3 hg3))
      have hst : pcells (l ++ marksP 1 k) ++ [.string ⟨#[]⟩, .int .i64 (8000024 + (k : Int))] = pcells (l ++ marksP 1 (k + 1)) := by
        rw [marksP_succ, ← HMK.out, ← List.append_assoc, pcells_append (l ++ marksP 1 k)]; rfl
      rw [hst] at hown3
      have hb3 : Below w.heap.size w w3 := ((hbr.alloc hbr.size _).alloc (by simp only [World.size_alloc]; omega) _).grown hg3 (by simp only [World.size_alloc]; omega) (fun j hj => by cases hj; exact Nat.le_refl _)
      have hz3 := hg3.size
      simp only [World.size_alloc] at hz3
      have HST := Lib.hid hst
      clear hst
      go_roundw
      case rel => exact ⟨k + 1, by omega, by go_num, rfl, hown3, hb3, by omega⟩
      case measure => simp [intOf]; omega
    · obtain rfl : k = 12 := by omega
      go_wp2
      go_ret
      exact ⟨rfl, hbr, hrow⟩
end Go.Proofs.Ytkdcpnbfeagggaa
end
section
/- storemankit.KeptParts, OverParts: whether a list of parts and its marks are still as they were; both written over. -/
namespace Go.Proofs.Ytkdcpnbfeagggaa
open Go.ChangeShapes Go.WideShapes Go.ChangeAt Go.RowKit Go.Maps Go.Sort
set_option linter.unusedVariables false

theorem eql_part (p q : Pt) (w : World) : (binOp .eql 34 (.agg #[encStr p.1, .int .i64 p.2]) (.agg #[encStr q.1, .int .i64 q.2])).run Try.prog w = .ok (.bool (decide (p = q))) w := by
  rw [run_eql_struct, eq_part]; rfl
theorem below_grow {B : Nat} {a w : World} (h : Go.RowKit.Below B a w) (hB : B ≤ w.heap.size) (n : Nat) (os : Array Obj) : Go.RowKit.Below B a (grow (w.drewN n) os) :=
  ⟨h.os, h.tape, h.output, by have := h.size; simp only [size_grow]; show a.heap.size ≤ w.heap.size + os.size; omega, fun k hk => (heap_grow_old (w.drewN n) os (show k < w.heap.size by omega)).trans (h.block k hk)⟩
theorem markp_grown (k i M : Int) (w : World) (n : Nat) (os : Array Obj) (hM : 1000003 * (k + 7) + i = M) (h0 : 0 ≤ k) (h1 : k ≤ 1000000) (h2 : 0 ≤ i) (h3 : i ≤ 1099511627776) :
    Calls Try.prog 49 #[.int .i64 k, .int .i64 i] (grow (w.drewN n) os) fun e w'' => e = .returned (.agg #[.string ⟨#[]⟩, .int .i64 M]) ∧ ∃ p : GrownBy, w'' = grow (w.drewN p.n) p.os := by
  subst hM
  exact Calls.grown_of ((markp_any k i _ h0 h1 h2 h3).mono fun e w' ⟨he, hw⟩ => ⟨he, 0, #[.cells #[.string ⟨#[]⟩, .int .i64 (1000003 * (k + 7) + i)] 34], by rw [← hw, alloc_eq_grow]; rfl⟩)

set_option maxRecDepth 100000 in
set_option maxHeartbeats 1000000 in
theorem keptp_any (v : Value) (l : List Pt) (B g : Nat) (w : World) (hv : PSl w B v l) (hg : Lies w B (some ⟨g, 0, none⟩) (pcells (l ++ marksP 1 12))) (hB : B ≤ w.heap.size) (hlen : l.length ≤ 1048576) :
    Calls Try.prog 39 #[.slice (some ⟨g, 0, none⟩) l.length (l.length + 12), v] w fun e w' => e = .returned (.bool true) ∧ Go.RowKit.Below w.heap.size w w' := by
  obtain ⟨A, c, rfl, hc1, hc2, hcz, hl⟩ := id hv
  have hm : Try.prog.follows .mixedOrders = true := by kernel_rfl
  have HM := Lib.hid hm
  clear hm
  go_enter Try.func39, Try.ntmps39
  go_wp2
  go_loopw [6] (fun i wr => ∃ k : Nat, k ≤ l.length + 12 ∧ i = .int .i64 k ∧ Go.RowKit.Below w.heap.size w wr) (fun i _ => l.length + 12 - (intOf i).toNat)
  case atStart => exact ⟨0, Nat.zero_le _, rfl, Below.refl _ _⟩
  case round =>
    obtain ⟨k, hk, rfl, hbr⟩ := hrel
    by_cases hlt : k < l.length
    · obtain ⟨p, hp⟩ : ∃ p, l[k]? = some p := ⟨_, List.getElem?_eq_getElem hlt⟩
      obtain ⟨ad, c', hvv, _, _, hp0, hp1⟩ := (hv.below (hbr.mono hB)).cells hp
      injection hvv with hA _ hC
      subst hA hC
      have hpp : (l ++ marksP 1 12)[k]? = some p := by rw [List.getElem?_append_left hlt, hp]
      obtain ⟨ag, hag, _, hg0⟩ := (hg.below (hbr.mono hB)).get (pcells_item _ k p hpp)
      injection hag with hag
      subst hag
      obtain ⟨ag, hag, _, hg1⟩ := (hg.below (hbr.mono hB)).get (pcells_qty _ k p hpp)
      injection hag with hag
      subst hag
      rw [Kt.addr0] at hg0 hg1
      have heq : ∀ w, (binOp .eql 34 (.agg #[encStr p.1, .int .i64 p.2]) (.agg #[encStr p.1, .int .i64 p.2])).run Try.prog w = .ok (.bool true) w := fun w => by rw [eql_part]; simp
      have HN := Lib.hid hp
      have HPP := Lib.hid hpp
      clear hp hpp
      have hd1 : decide (k < l.length) = true := decide_eq_true (by omega)
      have hd2 : decide (l.length ≤ k) = false := decide_eq_false (by omega)
      go_wp2
      go_quiet (fail)
      go_wp2
      go_roundw
      case rel => exact ⟨k + 1, by omega, by go_num, below_draws hbr _⟩
      case measure => simp [intOf]; omega
    · by_cases hlt2 : k < l.length + 12
      · have hpp : (l ++ marksP 1 12)[k]? = some (markP 1 (k - l.length)) := by rw [List.getElem?_append_right (by omega), marksP_get 1 12 _ (by omega)]
        obtain ⟨ag, hag, hgb, hg0⟩ := (hg.below (hbr.mono hB)).get (pcells_item _ k _ hpp)
        injection hag with hag
        subst hag
        obtain ⟨ag, hag, _, hg1⟩ := (hg.below (hbr.mono hB)).get (pcells_qty _ k _ hpp)
        injection hag with hag
        subst hag
        rw [Kt.addr0] at hg0 hg1
        have hgs : g < wr.heap.size := by have := hbr.size; show (⟨g, 0, none⟩ : Addr).block < _; omega
        have hq0 : ∀ n os, (grow (wr.drewN n) os).cell? ⟨g, k * 2, none⟩ = some (.string ⟨#[]⟩) := fun n os => cell_grown hgs hg0 n os
        have hq1 : ∀ n os, (grow (wr.drewN n) os).cell? ⟨g, k * 2 + 1, none⟩ = some (.int .i64 (8000024 + ((k : Int) - (l.length : Int)))) := fun n os => by
          rw [cell_grown hgs hg1 n os]
          simp only [markP]
          congr 2
          omega
        clear hg0 hg1
        have heq : ∀ w, (binOp .eql 34 (.agg #[.string ⟨#[]⟩, .int .i64 (8000024 + ((k : Int) - (l.length : Int)))]) (.agg #[.string ⟨#[]⟩, .int .i64 (8000024 + ((k : Int) - (l.length : Int)))])).run Try.prog w = .ok (.bool true) w := fun w => by
          have := eql_part ([], 8000024 + ((k : Int) - (l.length : Int))) ([], 8000024 + ((k : Int) - (l.length : Int))) w
          simpa using this
        have HPP := Lib.hid hpp
        clear hpp
        have hd1 : decide (k < l.length) = false := decide_eq_false (by omega)
        have hd2 : decide (l.length ≤ k) = true := decide_eq_true (by omega)
        have hle0 : 0 ≤ (k : Int) - (l.length : Int) := by omega
        go_wp2
        have hm := HM.out
        refine wp_region_quiet_grown (by assumption) (by kernel_rfl) ?_
        repeat (go_big_quiet_step ((go_at_call 49; exact markp_grown 1 ((k : Int) - (l.length : Int)) (8000024 + ((k : Int) - (l.length : Int))) _ _ _ (by omega) (by omega) (by omega) (by omega) (by omega))))
        refine wpQuiet_nil ?_
        intro _ hw'
        obtain ⟨⟨nq, osq⟩, hw''⟩ := hw'
        subst hw''
        clear hm
        have hbq := below_grow hbr hbr.size nq osq
        go_wp2
        go_roundw
        case rel => exact ⟨k + 1, by omega, by go_num, hbq⟩
        case measure => simp [intOf]; omega
      · obtain rfl : k = l.length + 12 := by omega
        go_wp2
        go_ret
        exact ⟨rfl, hbr⟩
end Go.Proofs.Ytkdcpnbfeagggaa
end
section
/- storemankit.markText, LentTexts, KeptTexts (chapter kit): a list of texts with marks behind its end. Written by gen_klent.py. -/
namespace Go.Proofs.Ytkdcpnbfeagggaa
namespace Kt
open Go.ChangeShapes Go.WideShapes Go.ChangeAt Go.RowKit Go.Maps Go.Sort
set_option linter.unusedVariables false

theorem conv8 (w : World) (n : Nat) (hn : n < 256) (z : Int) (hz : z = (n : Int)) :
    (convert 98 9 (.slice (some ⟨w.heap.size, 0, none⟩) 8 8)).run Try.prog (w.alloc (.cells #[.int .u8 35, .int .u8 1, .int .u8 0, .int .u8 0, .int .u8 47, .int .u8 z, .int .u8 0, .int .u8 0] 5)) = .ok (strV [35, 1, 0, 0, 47, UInt8.ofNat n, 0, 0]) (w.alloc (.cells #[.int .u8 35, .int .u8 1, .int .u8 0, .int .u8 0, .int .u8 47, .int .u8 z, .int .u8 0, .int .u8 0] 5)) := by
  subst hz
  refine run_convert_bytes_back _ 98 9 5 ⟨w.heap.size, 0, none⟩ 8 [35, 1, 0, 0, 47, UInt8.ofNat n, 0, 0] Try.underlying98 Try.underlying5 Try.underlying9 (fun j hj => ?_)
  rw [fresh_cell]
  have hj8 : j < 8 := hj
  match j, hj8 with
  | 0, _ => rfl
  | 1, _ => rfl
  | 2, _ => rfl
  | 3, _ => rfl
  | 4, _ => rfl
  | 5, _ => simp [Nat.mod_eq_of_lt hn]
  | 6, _ => rfl
  | 7, _ => rfl
set_option maxRecDepth 100000 in
set_option maxHeartbeats 4000000 in
theorem markt_q (i : Nat) (w : World) (h1 : i < 12) :
    Calls Try.prog 50 #[.int .i64 1, .int .i64 (i : Int)] w fun e w' => e = .returned (strV [35, 1, 0, 0, 47, UInt8.ofNat i, 0, 0]) ∧ ∃ o, w' = w.alloc o := by
  have hcs : i = 0 ∨ i = 1 ∨ i = 2 ∨ i = 3 ∨ i = 4 ∨ i = 5 ∨ i = 6 ∨ i = 7 ∨ i = 8 ∨ i = 9 ∨ i = 10 ∨ i = 11 := by omega
  rcases hcs with rfl | rfl | rfl | rfl | rfl | rfl | rfl | rfl | rfl | rfl | rfl | rfl
  · go_enter Try.func50, Try.ntmps50
    go_wp2
    rw [conv8 w 0 (by decide) 0 rfl]
    go_wp2
    go_ret
    exact ⟨rfl, _, rfl⟩
  · go_enter Try.func50, Try.ntmps50
    go_wp2
    rw [conv8 w 1 (by decide) 1 rfl]
    go_wp2
    go_ret
    exact ⟨rfl, _, rfl⟩
  · go_enter Try.func50, Try.ntmps50
    go_wp2
    rw [conv8 w 2 (by decide) 2 rfl]
    go_wp2
    go_ret
    exact ⟨rfl, _, rfl⟩
  · go_enter Try.func50, Try.ntmps50
    go_wp2
    rw [conv8 w 3 (by decide) 3 rfl]
    go_wp2
    go_ret
    exact ⟨rfl, _, rfl⟩
  · go_enter Try.func50, Try.ntmps50
    go_wp2
    rw [conv8 w 4 (by decide) 4 rfl]
    go_wp2
    go_ret
    exact ⟨rfl, _, rfl⟩
  · go_enter Try.func50, Try.ntmps50
    go_wp2
    rw [conv8 w 5 (by decide) 5 rfl]
    go_wp2
    go_ret
    exact ⟨rfl, _, rfl⟩
  · go_enter Try.func50, Try.ntmps50
    go_wp2
    rw [conv8 w 6 (by decide) 6 rfl]
    go_wp2
    go_ret
    exact ⟨rfl, _, rfl⟩
  · go_enter Try.func50, Try.ntmps50
    go_wp2
    rw [conv8 w 7 (by decide) 7 rfl]
    go_wp2
    go_ret
    exact ⟨rfl, _, rfl⟩
  · go_enter Try.func50, Try.ntmps50
    go_wp2
    rw [conv8 w 8 (by decide) 8 rfl]
    go_wp2
    go_ret
    exact ⟨rfl, _, rfl⟩
  · go_enter Try.func50, Try.ntmps50
    go_wp2
    rw [conv8 w 9 (by decide) 9 rfl]
    go_wp2
    go_ret
    exact ⟨rfl, _, rfl⟩
  · go_enter Try.func50, Try.ntmps50
    go_wp2
    rw [conv8 w 10 (by decide) 10 rfl]
    go_wp2
    go_ret
    exact ⟨rfl, _, rfl⟩
  · go_enter Try.func50, Try.ntmps50
    go_wp2
    rw [conv8 w 11 (by decide) 11 rfl]
    go_wp2
    go_ret
    exact ⟨rfl, _, rfl⟩

theorem markt_any (i : Nat) (w : World) (h1 : i < 12) :
    Calls Try.prog 50 #[.int .i64 1, .int .i64 (i : Int)] w fun e w' => e = .returned (strV [35, 1, 0, 0, 47, UInt8.ofNat i, 0, 0]) ∧ Go.RowKit.Below w.heap.size w w' :=
  (markt_q i w h1).mono fun e w' ⟨he, o, hw⟩ => ⟨he, by rw [hw]; exact below_alloc1 _ _⟩
def markT (i : Nat) : List UInt8 := [35, 1, 0, 0, 47, UInt8.ofNat i, 0, 0]
def marksT (n : Nat) : List (List UInt8) := (List.range n).map markT
theorem marksT_succ (n : Nat) : marksT (n + 1) = marksT n ++ [markT n] := by simp [marksT, List.range_succ]
theorem marksT_get (n i : Nat) (h : i < n) : (marksT n)[i]? = some (markT i) := by simp [marksT, h]
theorem infoTxt : (Try.prog.info? 9).map (fun i => (i.zero, i.size, i.bytes)) = some (some (.string ⟨#[]⟩), 1, 16) := by kernel_rfl
theorem rowAt {w w' : World} {base e size n : Nat} {v : Value} {xs : List Value} (h : w.ownsRow base e size v n xs) (hb : Go.RowKit.Below w.heap.size w w') : w'.ownsRow base e size v n xs :=
  h.kept (row := none) ⟨hb.os, hb.tape, hb.output, hb.size, fun k hk _ => hb.block k hk⟩ (by cases hv : v.ownBlock with
    | none => exact .inl rfl
    | some b => exact .inr (by simp))
theorem txt_new (w : World) (n : Nat) (hn : w.heap.size = n) (u : Value) (t : TypeId) : ∀ j x, [u][j]? = some x → (w.alloc (.cells #[u] t)).cell? ((⟨n, 0, none⟩ : Addr).add j) = some x := by
  subst hn
  intro j x hx
  rw [fresh_cell, ← hx, ← Array.getElem?_toList]
/-- What is lent: the texts, twelve marks behind their end. -/
def LentToT (l : List (List UInt8)) (w : World) (e : Ending) (w' : World) : Prop :=
  e = .returned (.slice (some ⟨w.heap.size, 0, none⟩) l.length (l.length + 12)) ∧ Go.RowKit.Below w.heap.size w w' ∧
  w'.ownsRow w.heap.size 9 1 (.slice (some ⟨w.heap.size, 0, none⟩) (l.length + 12) (l.length + 12)) (l.length + 12) (tcells (l ++ marksT 12))

set_option maxRecDepth 100000 in
set_option maxHeartbeats 1000000 in
theorem lentt_any (v : Value) (l : List (List UInt8)) (B : Nat) (w : World) (hv : TSl w B v l) (hB : B ≤ w.heap.size) (hlen : l.length ≤ 1048576) :
    Calls Try.prog 33 #[v] w (LentToT l w) := by
  obtain ⟨i0, hi, hz0, hz1, hz2⟩ := info_parts infoTxt
  obtain ⟨A, c, rfl, hc1, hc2, hcz, hl⟩ := id hv
  have H1 := Lib.hid hi
  have H2 := Lib.hid hz0
  have H3 := Lib.hid hz1
  have H4 := Lib.hid hz2
  have hlm : (tcells l).length = l.length * 1 := by rw [tcells_length, Nat.mul_one]
  have HLM := Lib.hid hlm
  clear hi hz0 hz1 hz2 hlm
  go_enter Try.func33, Try.ntmps33
  go_wp2_with (first
    | (at_make; refine wpList_make_own _ rfl _ _ 30 rfl w.heap.size 9 i0 (.string ⟨#[]⟩) 1 Try.underlying30 H1.out H2.out H3.out .i64 .i64 _ (l.length + 12) rfl rfl (by omega) (by rw [H4.out]; omega) (by unfold maxLen; omega) (Nat.le_refl _) ?_; intro w1 hown1 hg1)
    | (at_builtin; refine wpList_append_fits_any _ rfl (.tmp 9) (.tmp 10) 30 rfl w.heap.size 9 i0 1 Try.underlying30 H1.out H3.out w.heap.size 0 (l.length + 12) [] rfl hown1 A l.length c (tcells l) rfl HLM.out (fun h => ⟨by have := hcz h; omega, hcz h⟩) (fun ad had j u hu => by have h2 := (hl.below ((Below.refl _ _).grown hg1 hB (fun k hk => by cases hk))).get hu; obtain ⟨ad', e1, _, e2⟩ := h2; rw [had] at e1; injection e1 with e1; rw [e1]; exact e2) (tcells_one l) (by omega) ?_; intro w2 hown2 hg2))
  have hb2 : Go.RowKit.Below w.heap.size w w2 := ((Below.refl _ _).grown hg1 (Nat.le_refl _) (fun k hk => by cases hk)).grown hg2 hg1.size (fun k hk => by cases hk; exact Nat.le_refl _)
  have hz : w.heap.size < w2.heap.size := by have := hown2.lt w.heap.size rfl; omega
  clear hown1 hg1 hg2
  simp only [Nat.zero_add, List.nil_append] at hown2
  go_loopw [3, 4] (fun v i wr => ∃ k : Nat, k ≤ 12 ∧ i = .int .i64 k ∧ v = .slice (some ⟨w.heap.size, 0, none⟩) (l.length + k) (l.length + 12) ∧
      Hid (wr.ownsRow w.heap.size 9 1 (.slice (some ⟨w.heap.size, 0, none⟩) (l.length + k) (l.length + 12)) (l.length + k) (tcells (l ++ marksT k))) ∧ Hid (Go.RowKit.Below w.heap.size w wr) ∧ w.heap.size < wr.heap.size)
    (fun _ i _ => 12 - (intOf i).toNat)
  case atStart => exact ⟨0, by omega, rfl, rfl, Lib.hid (by simpa [marksT] using hown2), Lib.hid hb2, hz⟩
  case round =>
    obtain ⟨k, hk, rfl, rfl, hrow, hbr, hzr⟩ := hrel
    by_cases hlt : k < 12
    · go_wp2_with (first
        | (go_at_call 50; ((with_reducible refine (markt_any k _ hlt).mono ?_); rintro e w1 ⟨rfl, hbm⟩; have HBM := Lib.hid hbm; have hr1 := Lib.hid (rowAt hrow.out hbm); have hz1 := hbm.size; clear hbm))
        | (at_builtin; refine wpList_append_fits _ rfl (.tmp 16) (.tmp 19) 30 rfl w.heap.size 9 i0 1 Try.underlying30 H1.out H3.out w.heap.size (l.length + k) (l.length + 12) _ rfl (hr1.out.alloc _) ⟨w1.heap.size, 0, none⟩ 1 1 [strV (markT k)] rfl rfl (txt_new _ _ rfl _ _) (fun u hu => by simp at hu; subst hu; rfl) (by omega) ?_; intro w3 hown3 hg3))
      have hst : tcells (l ++ marksT k) ++ [strV (markT k)] = tcells (l ++ marksT (k + 1)) := by
        rw [marksT_succ, ← List.append_assoc, tcells_append (l ++ marksT k)]; rfl
      rw [hst] at hown3
      have hb3 : Go.RowKit.Below w.heap.size w w3 := ((hbr.out.trans (HBM.out.mono (by omega))).alloc (by omega) _).grown hg3 (by simp only [World.size_alloc]; omega) (fun j hj => by cases hj; exact Nat.le_refl _)
      have hz3 := hg3.size
      simp only [World.size_alloc] at hz3
      have HO3 := Lib.hid hown3
      have HB3 := Lib.hid hb3
      clear hst hown3 hb3 hg3
      go_roundw
      case rel => exact ⟨k + 1, by omega, by go_num, rfl, HO3, HB3, by omega⟩
      case measure => simp [intOf]; omega
    · obtain rfl : k = 12 := by omega
      go_wp2
      go_ret
      exact ⟨rfl, hbr.out, hrow.out⟩
end Kt
end Go.Proofs.Ytkdcpnbfeagggaa
end
section
/- storemankit.KeptTexts (chapter kit): whether a list of texts and its marks are still as they were. Written by gen_klent.py. -/
namespace Go.Proofs.Ytkdcpnbfeagggaa
namespace Kt
open Go.ChangeShapes Go.WideShapes Go.ChangeAt Go.RowKit Go.Maps Go.Sort
set_option linter.unusedVariables false

theorem markt_grown (i : Int) (m : Nat) (w : World) (n : Nat) (os : Array Obj) (hi : i = (m : Int)) (hm : m < 12) :
    Calls Try.prog 50 #[.int .i64 1, .int .i64 i] (grow (w.drewN n) os) fun e w'' => e = .returned (.string ⟨(markT m).toArray⟩) ∧ ∃ p : GrownBy, w'' = grow (w.drewN p.n) p.os := by
  subst hi
  exact Calls.grown_of ((markt_q m _ hm).mono fun e w' ⟨he, o, hw⟩ => ⟨he, 0, #[o], by rw [hw, alloc_eq_grow]; rfl⟩)
set_option maxRecDepth 100000 in
set_option maxHeartbeats 1000000 in
theorem keptt_any (v : Value) (l : List (List UInt8)) (B g : Nat) (w : World) (hv : TSl w B v l) (hg : Lies w B (some ⟨g, 0, none⟩) (tcells (l ++ marksT 12))) (hB : B ≤ w.heap.size) (hlen : l.length ≤ 1048576) :
    Calls Try.prog 40 #[.slice (some ⟨g, 0, none⟩) l.length (l.length + 12), v] w fun e w' => e = .returned (.bool true) ∧ Go.RowKit.Below w.heap.size w w' := by
  obtain ⟨A, c, rfl, hc1, hc2, hcz, hl⟩ := id hv
  have hm : Try.prog.follows .mixedOrders = true := by kernel_rfl
  have HM := Lib.hid hm
  clear hm hv
  go_enter Try.func40, Try.ntmps40
  go_wp2
  go_loopw [6] (fun i wr => ∃ k : Nat, k ≤ l.length + 12 ∧ i = .int .i64 k ∧ Go.RowKit.Below w.heap.size w wr) (fun i _ => l.length + 12 - (intOf i).toNat)
  case atStart => exact ⟨0, Nat.zero_le _, rfl, Below.refl _ _⟩
  case round =>
    obtain ⟨k, hk, rfl, hbr⟩ := hrel
    by_cases hlt : k < l.length
    · obtain ⟨p, hp⟩ : ∃ p, l[k]? = some p := ⟨_, List.getElem?_eq_getElem hlt⟩
      obtain ⟨ad, hA, _, hp0⟩ := (hl.below (hbr.mono hB)).text hp
      subst hA
      have hpp : (l ++ marksT 12)[k]? = some p := by rw [List.getElem?_append_left hlt, hp]
      obtain ⟨ag, hag, _, hg0⟩ := (hg.below (hbr.mono hB)).text hpp
      injection hag with hag
      subst hag
      rw [addr0] at hg0
      have HPP := Lib.hid hpp
      have HP := Lib.hid hp
      clear hp hpp
      have hd1 : decide (k < l.length) = true := decide_eq_true (by omega)
      have hd2 : decide (l.length ≤ k) = false := decide_eq_false (by omega)
      go_wp2
      go_quiet (fail)
      go_wp2
      go_roundw
      case rel => exact ⟨k + 1, by omega, by go_num, below_draws hbr _⟩
      case measure => simp [intOf]; omega
    · by_cases hlt2 : k < l.length + 12
      · have hpp : (l ++ marksT 12)[k]? = some (markT (k - l.length)) := by rw [List.getElem?_append_right (by omega), marksT_get 12 _ (by omega)]
        obtain ⟨ag, hag, hgb, hg0⟩ := (hg.below (hbr.mono hB)).text hpp
        injection hag with hag
        subst hag
        rw [addr0] at hg0
        have hgs : g < wr.heap.size := by have := hbr.size; show (⟨g, 0, none⟩ : Addr).block < _; omega
        have hmi : (k : Int) - (l.length : Int) = ((k - l.length : Nat) : Int) := by omega
        have hml : k - l.length < 12 := by omega
        generalize k - l.length = m at hg0 hmi hml hpp
        obtain ⟨s, hs⟩ : ∃ s, markT m = s := ⟨_, rfl⟩
        have hcl : ∀ n os, Calls Try.prog 50 #[.int .i64 1, .int .i64 ((k : Int) - (l.length : Int))] (grow (wr.drewN n) os) fun e w'' => e = .returned (.string ⟨s.toArray⟩) ∧ ∃ p : GrownBy, w'' = grow (wr.drewN p.n) p.os := fun n os => by rw [← hs]; exact markt_grown _ m _ _ _ hmi hml
        rw [hs] at hg0
        have hq0 : ∀ n os, (grow (wr.drewN n) os).cell? ⟨g, k, none⟩ = some (strV s) := fun n os => cell_grown hgs hg0 n os
        have HCL := Lib.hid hcl
        have HPP := Lib.hid hpp
        clear hg0 hpp hcl hs hmi
        have hd1 : decide (k < l.length) = false := decide_eq_false (by omega)
        have hd2 : decide (l.length ≤ k) = true := decide_eq_true (by omega)
        have hle0 : 0 ≤ (k : Int) - (l.length : Int) := by omega
        go_wp2
        have hm := HM.out
        refine wp_region_quiet_grown (by assumption) (by kernel_rfl) ?_
        repeat (go_big_quiet_step ((go_at_call 50; exact HCL.out _ _)))
        refine wpQuiet_nil ?_
        intro _ hw'
        obtain ⟨⟨nq, osq⟩, hw''⟩ := hw'
        subst hw''
        clear hm
        have hbq := below_grow hbr hbr.size nq osq
        go_wp2
        go_roundw
        case rel => exact ⟨k + 1, by omega, by go_num, hbq⟩
        case measure => simp [intOf]; omega
      · obtain rfl : k = l.length + 12 := by omega
        go_wp2
        go_ret
        exact ⟨rfl, hbr⟩
end Kt
end Go.Proofs.Ytkdcpnbfeagggaa
end
section
/- storemankit.LentItem, markItem, LentItems (chapter kit): the items lent, marks behind them and behind their lists. Written by gen_klent.py. -/
namespace Go.Proofs.Ytkdcpnbfeagggaa
namespace Kt
open Go.ChangeShapes Go.WideShapes Go.ChangeAt Go.RowKit Go.Maps Go.Shelf
set_option linter.unusedVariables false
set_option linter.constructorNameAsVariable false

/-- An item whose lists are lent: in rows of their own, marks behind their ends. -/
def LentI (w : World) (base : Nat) (x : Iv) : Prop := ∃ gp go : Nat, x.pv = .slice (some ⟨gp, 0, none⟩) x.it.parts.length (x.it.parts.length + 12) ∧ x.ov = .slice (some ⟨go, 0, none⟩) x.others.length (x.others.length + 12) ∧
  w.ownsRow base 34 2 (.slice (some ⟨gp, 0, none⟩) (x.it.parts.length + 12) (x.it.parts.length + 12)) (x.it.parts.length + 12) (pcells (x.it.parts ++ marksP 1 12)) ∧
  w.ownsRow base 9 1 (.slice (some ⟨go, 0, none⟩) (x.others.length + 12) (x.others.length + 12)) (x.others.length + 12) (tcells (x.others ++ marksT 12))
theorem LentI.at_ {w w' : World} {base : Nat} {x : Iv} (h : LentI w base x) (hb : Go.RowKit.Below w.heap.size w w') : LentI w' base x := by
  obtain ⟨gp, go, h1, h2, h3, h4⟩ := h
  exact ⟨gp, go, h1, h2, ownAt h3 hb, ownAt h4 hb⟩
theorem LentI.less {w : World} {base base' : Nat} {x : Iv} (h : LentI w base x) (hb : base' ≤ base) : LentI w base' x := by
  obtain ⟨gp, go, h1, h2, h3, h4⟩ := h
  exact ⟨gp, go, h1, h2, base_less h3 hb, base_less h4 hb⟩
theorem lies_pre {w : World} {B : Nat} {A : Option Addr} {xs ys : List Value} (h : Lies w B A (xs ++ ys)) : Lies w B A xs := fun hne => by
  obtain ⟨ad, h1, h2, h3⟩ := h (by intro e; exact hne (List.append_eq_nil_iff.1 e).1)
  exact ⟨ad, h1, h2, fun j u hu => h3 j u (by rw [List.getElem?_append_left (List.getElem?_eq_some_iff.1 hu).1]; exact hu)⟩
theorem pcells_app (l m : List Pt) : pcells (l ++ m) = pcells l ++ pcells m := pcells_append l m
theorem LentI.partsL {w : World} {base gp : Nat} {ps : List Pt} (h : w.ownsRow base 34 2 (.slice (some ⟨gp, 0, none⟩) (ps.length + 12) (ps.length + 12)) (ps.length + 12) (pcells (ps ++ marksP 1 12))) : Lies w w.heap.size (some ⟨gp, 0, none⟩) (pcells (ps ++ marksP 1 12)) := Lies.own h
theorem LentI.sub {w : World} {base : Nat} {x : Iv} (h : LentI w base x) (hp : x.it.parts.length ≤ 1048576) (ho : x.others.length ≤ 1048576) : ISub w w.heap.size x := by
  obtain ⟨gp, go, h1, h2, h3, h4⟩ := h
  have l3 := Lies.own h3
  have l4 := Lies.own h4
  rw [pcells_append] at l3
  rw [tcells_append] at l4
  exact ⟨⟨_, _, h1, by omega, by unfold maxLen; omega, fun e => (by cases e), lies_pre l3⟩, ⟨_, _, h2, by omega, by unfold maxLen; omega, fun e => (by cases e), lies_pre l4⟩⟩

set_option maxRecDepth 100000 in
set_option maxHeartbeats 2000000 in
theorem lentI_any (x : Iv) (w : World) (hf : x.Fits) (hs : ISub w w.heap.size x) :
    Calls Try.prog 16 #[aggI x] w fun e w' => ∃ pv ov, e = .returned (aggI ⟨x.it, x.others, pv, ov⟩) ∧ LentI w' w.heap.size ⟨x.it, x.others, pv, ov⟩ ∧ Go.RowKit.Below w.heap.size w w' := by
  obtain ⟨⟨code, life, ps⟩, os, pv, ov⟩ := x
  obtain ⟨_, _, _, _, hpl, hol⟩ := hf
  have HS := Lib.hid hs
  obtain ⟨Ap, cp, Ao, co, rfl, rfl, hcp, hcq⟩ := hs.form
  simp only at hpl hol
  clear hs
  have hb0 : Go.RowKit.Below w.heap.size w ((w.alloc (.cells #[.string ⟨code.toArray⟩, .int .i64 life, .slice Ap ps.length cp, .slice Ao os.length co] 32)).alloc zBoxO) := ((Below.refl _ _).alloc (Nat.le_refl _) _).alloc (by simp) _
  obtain ⟨b1, hb1⟩ : ∃ b, w.heap.size = b := ⟨_, rfl⟩
  obtain ⟨W2, hW2⟩ : ∃ W, W = (w.alloc (.cells #[.string ⟨code.toArray⟩, .int .i64 life, .slice Ap ps.length cp, .slice Ao os.length co] 32)).alloc zBoxO := ⟨_, rfl⟩
  have hz2 : W2.heap.size = b1 + 2 := by rw [hW2, ← hb1]; simp
  have hx2 : W2.heap[b1]? = some (.cells #[strV code, .int .i64 life, .slice Ap ps.length cp, .slice Ao os.length co] 32 (0, 0)) := by
    rw [hW2, ← hb1]
    have h1 : ∀ (W : World) (o : Obj) (k : Nat), k < W.heap.size → (W.alloc o).heap[k]? = W.heap[k]? := fun W o k hk => ((Below.refl W.heap.size W).alloc (Nat.le_refl _) o).block k hk
    rw [h1 _ _ _ (by simp)]
    exact Go.heap_alloc_new w _
  have hy2 : W2.heap[b1 + 1]? = some zBoxO := by
    rw [hW2, ← hb1]
    have := Go.heap_alloc_new (w.alloc (.cells #[.string ⟨code.toArray⟩, .int .i64 life, .slice Ap ps.length cp, .slice Ao os.length co] 32)) (.cells #[.string ⟨#[]⟩, .int .i64 0, .slice none 0 0, .slice none 0 0] 32)
    simpa using this
  rw [← hW2] at hb0
  have HB0 := Lib.hid hb0
  have HZ2 := Lib.hid hz2
  have HX2 := Lib.hid hx2
  have HY2 := Lib.hid hy2
  have HW2 := Lib.hid hW2
  have HB1 := Lib.hid hb1
  clear hb0 hz2 hx2 hy2 hW2 hb1
  go_enter Try.func16, Try.ntmps16
  go_wp2_with (go_at_call 32; fail)
  rw [HB1.out, ← HW2.out]
  refine (lentp_any _ ps _ W2 (HS.out.at_ HB0.out).parts (Nat.le_refl _) hpl).mono ?_
  rintro e w3 ⟨rfl, hb3, ho3⟩
  obtain ⟨A3, hA3⟩ : ∃ A, A = (some ⟨W2.heap.size, 0, none⟩ : Option Addr) := ⟨_, rfl⟩
  obtain ⟨k3, hk3⟩ : ∃ k, k = ps.length + 12 := ⟨_, rfl⟩
  rw [← hA3, ← hk3]
  have HA3 := Lib.hid hA3
  have HK3 := Lib.hid hk3
  clear hA3 hk3
  have hbase : b1 < W2.heap.size ∧ b1 + 1 < W2.heap.size := by have := HZ2.out; omega
  have hx3 := box_at HX2.out hb3 hbase.1
  have hy3 := box_at HY2.out hb3 hbase.2
  have hx4 := heap_setCell_same w3 b1 2 _ _ (.slice A3 ps.length k3) hx3
  have hy4 := (heap_setCell_other w3 ⟨b1, 2, none⟩ (b1 + 1) (.slice A3 ps.length k3) (by simp)).trans hy3
  simp only [List.setIfInBounds_toArray, List.set_cons_zero, List.set_cons_succ] at hx4
  obtain ⟨⟨e0, e1, e2, e3⟩, f0, f1, f2, f3⟩ := box_cells hx3
  obtain ⟨⟨g0, g1, g2, g3⟩, _, _, _, _⟩ := box_cells hx4
  have ho4 := ownsRow_setCell_below ho3 (a := ⟨b1, 2, none⟩) hbase.1 (.slice A3 ps.length k3)
  have hb4 : Go.RowKit.Below w.heap.size w (w3.setCell ⟨b1, 2, none⟩ (.slice A3 ps.length k3)) := (HB0.out.trans (hb3.mono HB0.out.size)).setCell (Nat.le_of_eq HB1.out) _
  have HX4 := Lib.hid hx4
  have HY4 := Lib.hid hy4
  have HO4 := Lib.hid ho4
  have HB4 := Lib.hid hb4
  have hs3 := hb3.size
  have HS3 := Lib.hid hs3
  have HT4 := Lib.hid (HS.out.at_ hb4).others
  clear hx3 hy3 hx4 hy4 ho3 ho4 hb4 hb3
  go_wp2_with (go_at_call 33; fail)
  refine (lentt_any _ os _ _ HT4.out (Nat.le_refl _) hol).mono ?_
  rintro e w5 ⟨rfl, hb5, ho5⟩
  obtain ⟨A5, hA5⟩ : ∃ A, A = (some ⟨(w3.setCell ⟨b1, 2, none⟩ (.slice A3 ps.length k3)).heap.size, 0, none⟩ : Option Addr) := ⟨_, rfl⟩
  obtain ⟨k5, hk5⟩ : ∃ k, k = os.length + 12 := ⟨_, rfl⟩
  rw [← hA5, ← hk5]
  have HA5 := Lib.hid hA5
  have HK5 := Lib.hid hk5
  clear hA5 hk5
  have hx5 := box_at HX4.out hb5 (by rw [World.size_setCell]; omega)
  have hy5 := box_at HY4.out hb5 (by rw [World.size_setCell]; omega)
  have hx6 := heap_setCell_same w5 b1 3 _ _ (.slice A5 os.length k5) hx5
  have hy6 := (heap_setCell_other w5 ⟨b1, 3, none⟩ (b1 + 1) (.slice A5 os.length k5) (by simp)).trans hy5
  simp only [List.setIfInBounds_toArray, List.set_cons_zero, List.set_cons_succ] at hx6
  obtain ⟨⟨p0, p1, p2, p3⟩, q0, q1, q2, q3⟩ := box_cells hx5
  obtain ⟨⟨r0, r1, r2, r3⟩, _, _, _, _⟩ := box_cells hx6
  obtain ⟨⟨z0, z1, z2, z3⟩, y0, y1, y2, y3⟩ := box_cells hy6
  have ho6 := ownsRow_setCell_below (ownAt HO4.out hb5) (a := ⟨b1, 3, none⟩) hbase.1 (.slice A5 os.length k5)
  have hs4 : W2.heap.size ≤ (w3.setCell ⟨b1, 2, none⟩ (.slice A3 ps.length k3)).heap.size := by rw [World.size_setCell]; exact HS3.out
  have ht6 := ownsRow_setCell_below (base_less ho5 hs4) (a := ⟨b1, 3, none⟩) hbase.1 (.slice A5 os.length k5)
  have hb6 := (HB4.out.trans (hb5.mono HB4.out.size)).setCell (p := ⟨b1, 3, none⟩) (Nat.le_of_eq HB1.out) (.slice A5 os.length k5)
  have HO6 := Lib.hid ho6
  have HT6 := Lib.hid ht6
  have HB6 := Lib.hid hb6
  clear hx5 hy5 hx6 hy6 ho5 ho6 ht6 hb5 hb6
  go_wp2
  refine bodyPost_ret (v := .agg #[strV code, .int .i64 life, .slice A3 ps.length k3, .slice A5 os.length k5]) (by rw [results_cell1 rfl]; go_simp) rfl ?_
  have hlb : w.heap.size ≤ b1 + 1 := by have := HB1.out; omega
  have hA3 := HA3.out
  have hk3 := HK3.out
  have hA5 := HA5.out
  have hk5 := HK5.out
  subst hk3 hk5
  refine ⟨_, _, rfl, ⟨_, _, by rw [hA3], by rw [hA5], ?_, ?_⟩, (((HB6.out.setCell (p := ⟨b1 + 1, 0, none⟩) hlb _).setCell (p := ⟨b1 + 1, 1, none⟩) hlb _).setCell (p := ⟨b1 + 1, 2, none⟩) hlb _).setCell (p := ⟨b1 + 1, 3, none⟩) hlb _⟩
  · exact base_less (ownsRow_setCell_below (ownsRow_setCell_below (ownsRow_setCell_below (ownsRow_setCell_below HO6.out (a := ⟨b1 + 1, 0, none⟩) hbase.2 _) (a := ⟨b1 + 1, 1, none⟩) hbase.2 _) (a := ⟨b1 + 1, 2, none⟩) hbase.2 _) (a := ⟨b1 + 1, 3, none⟩) hbase.2 _) (by have := HB1.out; have := HZ2.out; omega)
  · exact base_less (ownsRow_setCell_below (ownsRow_setCell_below (ownsRow_setCell_below (ownsRow_setCell_below HT6.out (a := ⟨b1 + 1, 0, none⟩) hbase.2 _) (a := ⟨b1 + 1, 1, none⟩) hbase.2 _) (a := ⟨b1 + 1, 2, none⟩) hbase.2 _) (a := ⟨b1 + 1, 3, none⟩) hbase.2 _) (by have := HB1.out; have := HZ2.out; omega)


def markI (i : Nat) : Iv := ⟨⟨[], 8000024 + (i : Int), []⟩, [], .slice none 0 0, .slice none 0 0⟩
def marksI (n : Nat) : List Iv := (List.range n).map markI
theorem marksI_succ (n : Nat) : marksI (n + 1) = marksI n ++ [markI n] := by simp [marksI, List.range_succ]
theorem marksI_len (n : Nat) : (marksI n).length = n := by simp [marksI]
theorem marksI_get (n i : Nat) (h : i < n) : (marksI n)[i]? = some (markI i) := by simp [marksI, h]
abbrev mIv (M : Int) : Value := .agg #[.string ⟨#[]⟩, .int .i64 M, .slice none 0 0, .slice none 0 0]
theorem marki_q (i M : Int) (w : World) (hM : 8000024 + i = M) (h2 : 0 ≤ i) (h3 : i ≤ 1099511627776) :
    Calls Try.prog 17 #[.int .i64 1, .int .i64 i] w fun e w' => e = .returned (mIv M) ∧ ∃ o, w' = w.alloc o := by
  have hmk : (1000003 * ((1 : Int) + 7) + i) = M := by omega
  have hc : ∀ W, Calls Try.prog 34 #[.int .i64 1, .int .i64 i] W fun e w' => e = .returned (.int .i64 M) ∧ W = w' := fun W => by rw [← hmk]; exact mark_any 1 i W (by omega) (by omega) h2 h3
  have HC := Lib.hid hc
  clear hc hmk hM
  go_enter Try.func17, Try.ntmps17
  go_wp2_with (go_at_call 34; ((with_reducible refine (HC.out _).mono ?_); rintro e w' ⟨rfl, rfl⟩))
  exact bodyPost_ret (v := mIv M) (by simp [results, Try.results17, go_sem]) rfl ⟨rfl, _, rfl⟩
end Kt
end Go.Proofs.Ytkdcpnbfeagggaa
end
section
/- storemankit.LentItems (chapter kit). -/
namespace Go.Proofs.Ytkdcpnbfeagggaa
namespace Kt
open Go.ChangeShapes Go.WideShapes Go.ChangeAt Go.RowKit Go.Maps Go.Shelf
set_option linter.unusedVariables false
set_option linter.constructorNameAsVariable false

/-- The same items, lent, in a row that has room for so many. -/
structure Lnt (l m : List Iv) (base g n cap : Nat) (xs : List Value) (W : World) : Prop where
  its : m.map (·.it) = l.map (·.it)
  oth : m.map (·.others) = l.map (·.others)
  row : W.ownsRow base 32 4 (.slice (some ⟨g, 0, none⟩) n cap) n xs
  own : ∀ x ∈ m, LentI W base x
theorem Lnt.at_ {l m : List Iv} {base g n cap : Nat} {xs : List Value} {W W' : World} (h : Lnt l m base g n cap xs W) (hb : Go.RowKit.Below W.heap.size W W') : Lnt l m base g n cap xs W' := ⟨h.its, h.oth, ownAt h.row hb, fun x hx => (h.own x hx).at_ hb⟩
theorem lentI_kinds {w w' : World} {base base' g n cap : Nat} {x : Iv} {xs : List Value} (h : LentI w base x) (hr : w.ownsRow base' 32 4 (.slice (some ⟨g, 0, none⟩) n cap) n xs) (hg : w.grownBy w' (some g)) : LentI w' base x := by
  obtain ⟨gp, go, h1, h2, h3, h4⟩ := h
  exact ⟨gp, go, h1, h2, own_kinds h3 hr (by decide) hg, own_kinds h4 hr (by decide) hg⟩
/-- One more, lent at a world behind. -/
theorem Lnt.snoc {l m : List Iv} {base g k cap : Nat} {W W3 W' : World} {o o' : Obj} {x : Iv} {pv ov : Value} (h : Lnt (l.take k) m base g k cap (icells m) W) (hm : m.length = k) (hx : l[k]? = some x) (hb3 : Go.RowKit.Below W.heap.size W W3) (hi : LentI W3 W.heap.size ⟨x.it, x.others, pv, ov⟩) (hbase : base ≤ W.heap.size)
    (hG : ((W3.alloc o).alloc o').grownBy W' (some g)) (ho : W'.ownsRow base 32 4 (.slice (some ⟨g, 0, none⟩) (k + 1) cap) (k + 1) (icells m ++ encI ⟨x.it, x.others, pv, ov⟩)) : Lnt (l.take (k + 1)) (m ++ [⟨x.it, x.others, pv, ov⟩]) base g (k + 1) cap (icells (m ++ [⟨x.it, x.others, pv, ov⟩])) W' := by
  have hr := ((ownAt h.row hb3).alloc o).alloc o'
  have hup : ∀ {y : Iv} {b : Nat}, LentI W3 b y → LentI W' b y := fun {y b} hy => lentI_kinds ((hy.at_ (below_alloc1 _ _)).at_ (below_alloc1 _ _)) hr hG
  refine ⟨?_, ?_, ?_, fun y hy => ?_⟩
  · rw [List.take_add_one, hx, List.map_append, List.map_append, h.its]; rfl
  · rw [List.take_add_one, hx, List.map_append, List.map_append, h.oth]; rfl
  · rw [icells_append]
    simpa [icells] using ho
  · rcases List.mem_append.1 hy with hy | hy
    · exact hup ((h.own y hy).at_ hb3)
    · obtain rfl := List.mem_singleton.1 hy
      exact (hup hi).less hbase
/-- What is lent: the items, twelve marks behind their end. -/
def LentTo (l : List Iv) (w : World) (e : Ending) (w' : World) : Prop := ∃ m, e = .returned (.slice (some ⟨w.heap.size, 0, none⟩) l.length (l.length + 12)) ∧ m.length = l.length ∧ Lnt l m w.heap.size w.heap.size (l.length + 12) (l.length + 12) (icells (m ++ marksI 12)) w' ∧ Go.RowKit.Below w.heap.size w w'

set_option maxRecDepth 100000 in
set_option maxHeartbeats 2000000 in
theorem lentItems_any (v : Value) (l : List Iv) (w : World) (hv : ISl w w.heap.size v l) (hs : SizedI l) (hlen : l.length ≤ 1048576) : Calls Try.prog 6 #[v] w (LentTo l w) := by
  obtain ⟨i0, hi, hz0, hz1, hz2⟩ := info_parts itemI
  have H1 := Lib.hid hi
  have H2 := Lib.hid hz0
  have H3 := Lib.hid hz1
  have H4 := Lib.hid hz2
  obtain ⟨⟨A, c, rfl, hc1, hc2, hcz, hl⟩, hsub⟩ := id hv
  have HV := Lib.hid hv
  have HS : Hid (SizedI l) := Lib.hid hs
  clear hi hz0 hz1 hz2 hl hsub hv hs
  go_enter Try.func6, Try.ntmps6
  go_wp2_with (at_make; refine wpList_make_own _ rfl _ _ 22 rfl w.heap.size 32 i0 zI 4 Try.underlying22 H1.out H2.out H3.out .i64 .i64 _ (l.length + 12) rfl rfl (by omega) (by rw [H4.out]; omega) (by unfold maxLen; omega) (Nat.le_refl _) ?_; intro w1 hown1 hg1)
  have hb1 : Go.RowKit.Below w.heap.size w w1 := (Below.refl _ _).grown hg1 (Nat.le_refl _) (fun k hk => by cases hk)
  have hz : w.heap.size < w1.heap.size := (hown1.lt w.heap.size rfl).2
  clear hg1
  go_loopw [3, 4] (fun o i wr => ∃ (k : Nat) (m : List Iv), k ≤ l.length ∧ i = .int .i64 k ∧ o = .slice (some ⟨w.heap.size, 0, none⟩) k (l.length + 12) ∧ m.length = k ∧ Hid (Lnt (l.take k) m w.heap.size w.heap.size k (l.length + 12) (icells m) wr) ∧ Hid (Go.RowKit.Below w.heap.size w wr)) (fun _ i _ => l.length - (intOf i).toNat)
  case atStart => exact ⟨0, [], Nat.zero_le _, rfl, rfl, rfl, Lib.hid ⟨by simp, by simp, hown1, by simp⟩, Lib.hid hb1⟩
  case round =>
    clear hown1 hb1 hz
    obtain ⟨k, m, hk, rfl, rfl, hm, HC, HB⟩ := hrel
    by_cases hlt : k < l.length
    · obtain ⟨x, hx⟩ : ∃ x, l[k]? = some x := ⟨_, List.getElem?_eq_getElem hlt⟩
      have hxm := List.mem_of_getElem? hx
      have HVr := Lib.hid (HV.out.at_ HB.out)
      have HX := Lib.hid hx
      have HF := Lib.hid (HS.out _ hxm)
      have HSb := Lib.hid (HVr.out.2 _ hxm)
      obtain ⟨⟨code, life, ps⟩, os, pv, ov⟩ := x
      obtain ⟨Ap, cp, Ao, co, rfl, rfl, hcp, hcq⟩ := HSb.out.form
      obtain ⟨ad, rfl, hab, x0, x1, x2, x3⟩ := HVr.out.at_k hx
      simp only at x0 x1 x2 x3
      have hbs := HB.out.size
      obtain ⟨_, _, _, _, hpl, hol⟩ := HF.out
      simp only at hpl hol
      clear hx hxm
      go_wp2_with (first
        | (go_at_call 16; ((with_reducible refine (lentI_any ⟨⟨code, life, ps⟩, os, .slice Ap ps.length cp, .slice Ao os.length co⟩ _ HF.out HSb.out).mono ?_); rintro e w3 ⟨pv3, ov3, rfl, hoi, hb3⟩; obtain ⟨Ap3, cp3, Ao3, co3, hp3, ho3, _, _⟩ := (hoi.sub hpl hol).form; subst hp3 ho3; have HOI := Lib.hid hoi; have HB3 := Lib.hid hb3; have hbs3 := hb3.size; clear hb3 hoi x0 x1 x2 x3; have HX3 := Lib.hid (Box4.new w3 ⟨⟨code, life, ps⟩, os, .slice Ap3 ps.length cp3, .slice Ao3 os.length co3⟩); obtain ⟨e0, e1, e2, e3⟩ := HX3.out.cells; simp only at e0 e1 e2 e3; have HN := Lib.hid (quad_new (w3.alloc (.cells #[.string ⟨code.toArray⟩, .int .i64 life, .slice Ap3 ps.length cp3, .slice Ao3 os.length co3] 32)) (strV code) (.int .i64 life) (.slice Ap3 ps.length cp3) (.slice Ao3 os.length co3) 32); have HRW := Lib.hid (ownAt HC.out.row HB3.out)))
        | (at_builtin; refine wpList_append_fits _ rfl (.tmp 22) (.tmp 24) 22 rfl w.heap.size 32 i0 4 Try.underlying22 H1.out H3.out w.heap.size k (l.length + 12) _ rfl ((HRW.out.alloc _).alloc _) ⟨w3.heap.size + 1, 0, none⟩ 1 1 [strV code, .int .i64 life, .slice Ap3 ps.length cp3, .slice Ao3 os.length co3] rfl rfl (by simpa using HN.out) (quad_one code life Ap3 Ao3 _ _ _ _) (by omega) ?_; intro w9 hown3 hg3; have ho9 := Lib.hid hown3; have hG9 := Lib.hid hg3; clear hown3 hg3))
      have hb9 : Hid (Go.RowKit.Below w.heap.size w w9) := Lib.hid ((((HB.out.trans (HB3.out.mono HB.out.size)).alloc (by omega) _).alloc (by simp only [World.size_alloc]; omega) _).grown hG9.out (by simp only [World.size_alloc]; omega) (fun j hj => by cases hj; exact Nat.le_refl _))
      have hC9 := Lnt.snoc HC.out hm HX.out HB3.out HOI.out HB.out.size hG9.out ho9.out
      have HC9 := Lib.hid hC9
      clear hC9
      go_roundw
      case rel => exact ⟨k + 1, _, by omega, by go_num, rfl, by rw [List.length_append, List.length_singleton, hm], HC9, hb9⟩
      case measure => simp [intOf]; omega
    · obtain rfl : k = l.length := by omega
      have hC0 := HC.out
      rw [List.take_of_length_le (Nat.le_refl _)] at hC0
      have HC0 := Lib.hid hC0
      have HM := Lib.hid hm
      obtain ⟨wl, hwl⟩ : ∃ W, W = wr := ⟨_, rfl⟩
      rw [← hwl] at HB HC0 ⊢
      have hzl : w.heap.size < wl.heap.size := (HC0.out.row.lt w.heap.size rfl).2
      clear hC0 HC hm hwl
      go_wp2
      go_loopw [3, 6] (fun o i wr => ∃ k : Nat, k ≤ 12 ∧ i = .int .i64 k ∧ o = .slice (some ⟨w.heap.size, 0, none⟩) (l.length + k) (l.length + 12) ∧ Hid (Lnt l m w.heap.size w.heap.size (l.length + k) (l.length + 12) (icells (m ++ marksI k)) wr) ∧ Hid (Go.RowKit.Below w.heap.size w wr)) (fun _ i _ => 12 - (intOf i).toNat)
      case atStart => exact ⟨0, by omega, rfl, rfl, Lib.hid (by simpa [marksI] using HC0.out), HB⟩
      case round =>
        clear HC0 HB
        obtain ⟨j, hj, rfl, rfl, HC, HB⟩ := hrel
        by_cases hjl : j < 12
        · have hbs := HB.out.size
          go_wp2_with (first
            | (go_at_call 17; ((with_reducible refine (marki_q j (8000024 + (j : Int)) _ rfl (by omega) (by omega)).mono ?_); rintro e w3 ⟨rfl, o3, hw3⟩; have HW3 := Lib.hid hw3; have HB3 : Hid (Go.RowKit.Below wr.heap.size wr w3) := Lib.hid (by rw [hw3]; exact below_alloc1 _ _); have hbs3 := HB3.out.size; clear hw3; have HRW := Lib.hid (ownAt HC.out.row HB3.out); have HN := Lib.hid (quad_new w3 (strV []) (.int .i64 (8000024 + (j : Int))) (.slice none 0 0) (.slice none 0 0) 32)))
            | (at_builtin; refine wpList_append_fits _ rfl (.tmp 30) (.tmp 33) 22 rfl w.heap.size 32 i0 4 Try.underlying22 H1.out H3.out w.heap.size (l.length + j) (l.length + 12) _ rfl (HRW.out.alloc _) ⟨w3.heap.size, 0, none⟩ 1 1 [strV [], .int .i64 (8000024 + (j : Int)), .slice none 0 0, .slice none 0 0] rfl rfl HN.out (quad_one [] _ none none _ _ _ _) (by omega) ?_; intro w9 hown3 hg3; have ho9 := Lib.hid hown3; have hG9 := Lib.hid hg3; clear hown3 hg3))
          have hb9 : Hid (Go.RowKit.Below w.heap.size w w9) := Lib.hid (((HB.out.trans (HB3.out.mono HB.out.size)).alloc (by omega) _).grown hG9.out (by simp only [World.size_alloc]; omega) (fun j hj => by cases hj; exact Nat.le_refl _))
          have hrow9 : w9.ownsRow w.heap.size 32 4 (.slice (some ⟨w.heap.size, 0, none⟩) (l.length + j + 1) (l.length + 12)) (l.length + j + 1) (icells (m ++ marksI (j + 1))) := by
            rw [marksI_succ, ← List.append_assoc, icells_append (m ++ marksI j)]
            exact ho9.out
          have hC9 : Hid (Lnt l m w.heap.size w.heap.size (l.length + (j + 1)) (l.length + 12) (icells (m ++ marksI (j + 1))) w9) := Lib.hid ⟨HC.out.its, HC.out.oth, hrow9, fun y hy => lentI_kinds (((HC.out.own y hy).at_ HB3.out).at_ (below_alloc1 _ _)) (HRW.out.alloc _) hG9.out⟩
          clear hrow9
          go_roundw
          case rel => exact ⟨j + 1, by omega, by go_num, rfl, hC9, hb9⟩
          case measure => simp [intOf]; omega
        · obtain rfl : j = 12 := by omega
          go_wp2
          go_ret
          exact ⟨m, rfl, HM.out, HC.out, HB.out⟩
end Kt
end Go.Proofs.Ytkdcpnbfeagggaa
end
section
/- storemankit.SameItem, KeptItem (chapter kit). -/
namespace Go.Proofs.Ytkdcpnbfeagggaa
namespace Kt
open Go.ChangeShapes Go.WideShapes Go.ChangeAt Go.RowKit Go.Maps Go.Shelf
set_option linter.unusedVariables false
set_option linter.constructorNameAsVariable false

theorem bcellK {W w1 : World} (hb : Go.RowKit.Below W.heap.size W w1) : (∀ b o, b < W.heap.size → w1.cell? ⟨b, o, none⟩ = W.cell? ⟨b, o, none⟩) ∧ (∀ b o, b < W.heap.size → w1.frozen? ⟨b, o, none⟩ = W.frozen? ⟨b, o, none⟩) :=
  ⟨fun b o h => hb.cell (p := ⟨b, o, none⟩) h, fun b o h => hb.frozen (p := ⟨b, o, none⟩) h⟩
theorem sameT_yes (l : List (List UInt8)) (v1 v2 : Value) (w : World) (h1 : TSl w w.heap.size v1 l) (h2 : TSl w w.heap.size v2 l) (hl : l.length ≤ 1099511627776) :
    Calls Try.prog 14 #[v1, v2] w fun e w' => e = .returned (.bool true) ∧ Go.RowKit.Below w.heap.size w w' := by
  refine (sameT_any l l v1 v2 w h1 h2 hl hl).mono ?_
  rintro e w' ⟨rfl, hb⟩
  exact ⟨by simp, hb⟩
abbrev boxI (x : Iv) : Obj := .cells #[strV x.it.code, .int .i64 x.it.life, x.pv, x.ov] 32
/-- Two boxes that hold two items, behind a world. -/
structure TwoB (w W : World) (x y : Iv) : Prop where
  low : Go.RowKit.Below w.heap.size w W
  one : W.heap[w.heap.size]? = some (.cells #[strV x.it.code, .int .i64 x.it.life, x.pv, x.ov] 32 (0, 0))
  two : W.heap[w.heap.size + 1]? = some (.cells #[strV y.it.code, .int .i64 y.it.life, y.pv, y.ov] 32 (0, 0))
theorem TwoB.start (w : World) (x y : Iv) : TwoB w ((w.alloc (boxI x)).alloc (boxI y)) x y := by
  have h1 := Go.heap_alloc_new w (boxI x)
  have h2 := Go.heap_alloc_new (w.alloc (boxI x)) (boxI y)
  rw [World.size_alloc] at h2
  exact ⟨(below_alloc1 _ _).alloc (by simp) _, ((below_alloc1 (w.alloc (boxI x)) (boxI y)).block w.heap.size (by simp)).trans h1, h2⟩
theorem TwoB.next {w W W' : World} {x y : Iv} (h : TwoB w W x y) (hb : Go.RowKit.Below W.heap.size W W') : TwoB w W' x y :=
  ⟨below_two h.low hb, (hb.block _ (Array.getElem?_eq_some_iff.1 h.one).1).trans h.one, (hb.block _ (Array.getElem?_eq_some_iff.1 h.two).1).trans h.two⟩
theorem TwoB.cells {w W : World} {x y : Iv} (h : TwoB w W x y) : (W.cell? ⟨w.heap.size, 0, none⟩ = some (strV x.it.code) ∧ W.cell? ⟨w.heap.size, 1, none⟩ = some (.int .i64 x.it.life) ∧ W.cell? ⟨w.heap.size, 2, none⟩ = some x.pv ∧ W.cell? ⟨w.heap.size, 3, none⟩ = some x.ov) ∧
    (W.cell? ⟨w.heap.size + 1, 0, none⟩ = some (strV y.it.code) ∧ W.cell? ⟨w.heap.size + 1, 1, none⟩ = some (.int .i64 y.it.life) ∧ W.cell? ⟨w.heap.size + 1, 2, none⟩ = some y.pv ∧ W.cell? ⟨w.heap.size + 1, 3, none⟩ = some y.ov) :=
  ⟨(box_cells h.one).1, (box_cells h.two).1⟩

set_option maxRecDepth 100000 in
set_option maxHeartbeats 2000000 in
theorem sameItem_yes (code : List UInt8) (life : Int) (ps : List Pt) (os : List (List UInt8)) (A1 A2 A3 A4 : Option Addr) (c1 c2 c3 c4 : Nat) (w : World)
    (h1 : ISub w w.heap.size ⟨⟨code, life, ps⟩, os, .slice A1 ps.length c1, .slice A2 os.length c2⟩) (h2 : ISub w w.heap.size ⟨⟨code, life, ps⟩, os, .slice A3 ps.length c3, .slice A4 os.length c4⟩) (hp : ps.length ≤ 1048576) (ho : os.length ≤ 1048576) :
    Calls Try.prog 24 #[.agg #[.string ⟨code.toArray⟩, .int .i64 life, .slice A1 ps.length c1, .slice A2 os.length c2], .agg #[.string ⟨code.toArray⟩, .int .i64 life, .slice A3 ps.length c3, .slice A4 os.length c4]] w fun e w' => e = .returned (.bool true) ∧ Go.RowKit.Below w.heap.size w w' := by
  have HT := Lib.hid (TwoB.start w ⟨⟨code, life, ps⟩, os, .slice A1 ps.length c1, .slice A2 os.length c2⟩ ⟨⟨code, life, ps⟩, os, .slice A3 ps.length c3, .slice A4 os.length c4⟩)
  have HS1 := Lib.hid (h1.at_ HT.out.low)
  have HS2 := Lib.hid (h2.at_ HT.out.low)
  clear h1 h2
  go_enter Try.func24, Try.ntmps24
  go_wp2_with fail
  refine (same_yes ps _ _ _ HS1.out.parts HS2.out.parts (by omega)).mono ?_
  rintro e w1 ⟨rfl, hb1⟩
  have HT1 := Lib.hid (HT.out.next hb1)
  have HO1 := Lib.hid ((HS1.out.at_ hb1).others)
  have HO2 := Lib.hid ((HS2.out.at_ hb1).others)
  obtain ⟨⟨x0, x1, x2, x3⟩, y0, y1, y2, y3⟩ := HT1.out.cells
  simp only at x0 x1 x2 x3 y0 y1 y2 y3
  clear HT HS1 HS2 hb1
  go_wp2_with fail
  refine (sameT_yes os _ _ _ HO1.out HO2.out (by omega)).mono ?_
  rintro e w2 ⟨rfl, hb2⟩
  have HT2 := Lib.hid (HT1.out.next hb2)
  clear hb2 x0 x1 x2 x3 y0 y1 y2 y3
  go_wp2_with fail
  go_ret
  exact ⟨rfl, HT2.out.low⟩

set_option maxRecDepth 100000 in
set_option maxHeartbeats 2000000 in
theorem keptItem_yes (code : List UInt8) (life : Int) (ps : List Pt) (os : List (List UInt8)) (A3 A4 : Option Addr) (g1 g2 c3 c4 : Nat) (w : World)
    (h1 : Lies w w.heap.size (some ⟨g1, 0, none⟩) (pcells (ps ++ marksP 1 12))) (h1' : Lies w w.heap.size (some ⟨g2, 0, none⟩) (tcells (os ++ marksT 12))) (h2 : ISub w w.heap.size ⟨⟨code, life, ps⟩, os, .slice A3 ps.length c3, .slice A4 os.length c4⟩) (hp : ps.length ≤ 1048576) (ho : os.length ≤ 1048576) :
    Calls Try.prog 23 #[.agg #[.string ⟨code.toArray⟩, .int .i64 life, .slice (some ⟨g1, 0, none⟩) ps.length (ps.length + 12), .slice (some ⟨g2, 0, none⟩) os.length (os.length + 12)], .agg #[.string ⟨code.toArray⟩, .int .i64 life, .slice A3 ps.length c3, .slice A4 os.length c4]] w fun e w' => e = .returned (.bool true) ∧ Go.RowKit.Below w.heap.size w w' := by
  have HT := Lib.hid (TwoB.start w ⟨⟨code, life, ps⟩, os, .slice (some ⟨g1, 0, none⟩) ps.length (ps.length + 12), .slice (some ⟨g2, 0, none⟩) os.length (os.length + 12)⟩ ⟨⟨code, life, ps⟩, os, .slice A3 ps.length c3, .slice A4 os.length c4⟩)
  have hlow := HT.out.low
  have HL1 := Lib.hid ((h1.below hlow).mono hlow.size)
  have HL2 := Lib.hid ((h1'.below hlow).mono hlow.size)
  have HS2 := Lib.hid (h2.at_ hlow)
  have HS1 : Hid (ISub ((w.alloc (boxI ⟨⟨code, life, ps⟩, os, .slice (some ⟨g1, 0, none⟩) ps.length (ps.length + 12), .slice (some ⟨g2, 0, none⟩) os.length (os.length + 12)⟩)).alloc (boxI ⟨⟨code, life, ps⟩, os, .slice A3 ps.length c3, .slice A4 os.length c4⟩)) _ ⟨⟨code, life, ps⟩, os, .slice (some ⟨g1, 0, none⟩) ps.length (ps.length + 12), .slice (some ⟨g2, 0, none⟩) os.length (os.length + 12)⟩) := Lib.hid (by
    have l3 := HL1.out
    have l4 := HL2.out
    rw [pcells_append] at l3
    rw [tcells_append] at l4
    exact ⟨⟨_, _, rfl, by show ps.length ≤ ps.length + 12; omega, by unfold maxLen; omega, fun e => (by cases e), lies_pre l3⟩, ⟨_, _, rfl, by show os.length ≤ os.length + 12; omega, by unfold maxLen; omega, fun e => (by cases e), lies_pre l4⟩⟩)
  clear h1 h1' h2 hlow
  go_enter Try.func23, Try.ntmps23
  go_wp2_with fail
  refine (sameItem_yes code life ps os _ _ _ _ _ _ _ _ _ HS1.out HS2.out hp ho).mono ?_
  rintro e w1 ⟨rfl, hb1⟩
  have HT1 := Lib.hid (HT.out.next hb1)
  have HK1 := Lib.hid ((HL1.out.below hb1).mono hb1.size)
  have HK2 := Lib.hid ((HL2.out.below hb1).mono hb1.size)
  have HS3 := Lib.hid (HS2.out.at_ hb1)
  obtain ⟨⟨x0, x1, x2, x3⟩, y0, y1, y2, y3⟩ := HT1.out.cells
  simp only at x0 x1 x2 x3 y0 y1 y2 y3
  clear HT HS1 HS2 hb1 HL1 HL2
  go_wp2_with fail
  refine (keptp_any _ ps _ g1 w1 HS3.out.parts HK1.out (Nat.le_refl _) hp).mono ?_
  rintro e w2 ⟨rfl, hb2⟩
  have HT2 := Lib.hid (HT1.out.next hb2)
  have HK3 := Lib.hid ((HK2.out.below hb2).mono hb2.size)
  have HS4 := Lib.hid (HS3.out.at_ hb2)
  clear hb2 x0 x1 x2 x3 y0 y1 y2 y3 HT1 HK1 HK2 HS3
  obtain ⟨⟨x0, x1, x2, x3⟩, y0, y1, y2, y3⟩ := HT2.out.cells
  simp only at x0 x1 x2 x3 y0 y1 y2 y3
  go_wp2_with fail
  refine (keptt_any _ os _ g2 w2 HS4.out.others HK3.out (Nat.le_refl _) ho).mono ?_
  rintro e w3 ⟨rfl, hb3⟩
  have HT3 := Lib.hid (HT2.out.next hb3)
  clear hb3 x0 x1 x2 x3 y0 y1 y2 y3
  go_wp2_with fail
  go_ret
  exact ⟨rfl, HT3.out.low⟩
end Kt
end Go.Proofs.Ytkdcpnbfeagggaa
end
