/- Texts of this proof, one behind the other. -/
import Derived.Deep.QuietTactic
import Derived.BigQuiet
import Derived.Shelf.SlSortCmp.QuietGrown
import Derived.Test.YtddnfikjfmfhfaaRows
import Derived.Deep.Slices
import Derived.Deep.Fields
import Derived.ChangeSame
import Derived.SizedLaws
import Derived.OpenShut
import Derived.Test.YtddnfikjfmfhfaaC10
import Derived.Test.YtddnfikjfmfhfaaC12
import Derived.Test.YtddnfikjfmfhfaaC09
section
/- storemankit.LentUses: a list with marks behind its end. Written by gen_flent.py. -/
namespace Go.Proofs.Ytddnfikjfmfhfaa
open Go.ChangeShapes Go.WideShapes Go.ChangeAt Go.RowKit Go.Maps
set_option linter.unusedVariables false


def markU (k i : Nat) : Us := ⟨0, 1000003 * ((k : Int) + 7) + (i : Int), 0⟩
def marksU (k n : Nat) : List Us := (List.range n).map fun i => markU k i
theorem marksU_succ (k n : Nat) : marksU k (n + 1) = marksU k n ++ [markU k n] := by simp [marksU, List.range_succ]
theorem marksU_len (k n : Nat) : (marksU k n).length = n := by simp [marksU]
theorem marksU_get (k n i : Nat) (h : i < n) : (marksU k n)[i]? = some (markU k i) := by simp [marksU, h]
theorem marku_any (k i : Int) (w : World) (h0 : 0 ≤ k) (h1 : k ≤ 1000000) (h2 : 0 ≤ i) (h3 : i ≤ 1099511627776) :
    Calls Try.prog 36 #[.int .i64 k, .int .i64 i] w fun e w' => e = .returned (.agg #[.int .i64 0, .int .i64 (1000003 * (k + 7) + i), .int .i64 0]) ∧ w.alloc (.cells #[.int .i64 0, .int .i64 (1000003 * (k + 7) + i), .int .i64 0] 44) = w' := by
  go_enter Try.func36, Try.ntmps36
  go_wp2_with (go_at_call 46; ((with_reducible refine (mark_any k i _ h0 h1 h2 h3).mono ?_); rintro e w' ⟨rfl, rfl⟩))
  exact bodyPost_ret (v := .agg #[.int .i64 0, .int .i64 (1000003 * (k + 7) + i), .int .i64 0]) (by simp [results, Try.results36, go_sem]) rfl ⟨rfl, rfl⟩

theorem newu_at (w : World) (n : Nat) (hn : w.heap.size = n) (M : Int) (t : TypeId) : ∀ (j : Nat) (u : Value), [.int .i64 0, .int .i64 M, .int .i64 0][j]? = some u → (w.alloc (.cells #[.int .i64 0, .int .i64 M, .int .i64 0] t)).cell? ((⟨n, 0, none⟩ : Addr).add j) = some u := by
  subst hn
  intro j u h
  rw [fresh_cell, ← h, ← Array.getElem?_toList]
theorem oneu_mark (M : Int) : ∀ u ∈ [Value.int .i64 0, .int .i64 M, .int .i64 0], u.oneCell' = true := by
  intro u hu
  simp at hu
  rcases hu with rfl | rfl | rfl <;> rfl

/-- What is lent: the parts, twelve marks behind their end. -/
def LentToU (l : List Us) (w : World) (e : Ending) (w' : World) : Prop :=
  e = .returned (.slice (some ⟨w.heap.size, 0, none⟩) l.length (l.length + 12)) ∧ Below w.heap.size w w' ∧
  w'.ownsRow w.heap.size 44 3 (.slice (some ⟨w.heap.size, 0, none⟩) (l.length + 12) (l.length + 12)) (l.length + 12) (ucells (l ++ marksU 1 12))

set_option maxRecDepth 100000 in
set_option maxHeartbeats 1000000 in
theorem lentu_any (v : Value) (l : List Us) (B : Nat) (w : World) (hv : USl w B v l) (hB : B ≤ w.heap.size) (hlen : l.length ≤ 1048576) :
    Calls Try.prog 22 #[v] w (LentToU l w) := by
  obtain ⟨i0, hi, hz0, hz1, hz2⟩ := info_parts infoUse
  obtain ⟨A, c, rfl, hc1, hc2, hcz, hl⟩ := id hv
  have H1 := Lib.hid hi
  have H2 := Lib.hid hz0
  have H3 := Lib.hid hz1
  have H4 := Lib.hid hz2
  clear hi hz0 hz1 hz2
  go_enter Try.func22, Try.ntmps22
  go_wp2_with (first
    | (at_make; refine wpList_make_own _ rfl _ _ 28 rfl w.heap.size 44 i0 (.agg #[.int .i64 0, .int .i64 0, .int .i64 0]) 3 Try.underlying28 H1.out H2.out H3.out .i64 .i64 _ (l.length + 12) rfl rfl (by omega) (by rw [H4.out]; omega) (by unfold maxLen; omega) (Nat.le_refl _) ?_; intro w1 hown1 hg1)
    | (at_builtin; refine wpList_append_fits_any _ rfl (.tmp 9) (.tmp 10) 28 rfl w.heap.size 44 i0 3 Try.underlying28 H1.out H3.out w.heap.size 0 (l.length + 12) [] rfl hown1 A l.length c (ucells l) rfl (ucells_length l) (fun h => ⟨by have := hcz h; omega, hcz h⟩) (fun ad had j u hu => by have h2 := (hl.below ((Below.refl _ _).grown hg1 hB (fun k hk => by cases hk))).get hu; obtain ⟨ad', e1, _, e2⟩ := h2; rw [had] at e1; injection e1 with e1; rw [e1]; exact e2) (ucells_one l) (by omega) ?_; intro w2 hown2 hg2))
  have hb2 : Below w.heap.size w w2 := ((Below.refl _ _).grown hg1 (Nat.le_refl _) (fun k hk => by cases hk)).grown hg2 hg1.size (fun k hk => by cases hk; exact Nat.le_refl _)
  have hz : w.heap.size < w2.heap.size := by have := hown2.lt w.heap.size rfl; omega
  clear hown1 hg1 hg2
  simp only [Nat.zero_add, List.nil_append] at hown2
  go_loopw [3, 4] (fun v i wr => ∃ k : Nat, k ≤ 12 ∧ i = .int .i64 k ∧ v = .slice (some ⟨w.heap.size, 0, none⟩) (l.length + k) (l.length + 12) ∧
      wr.ownsRow w.heap.size 44 3 (.slice (some ⟨w.heap.size, 0, none⟩) (l.length + k) (l.length + 12)) (l.length + k) (ucells (l ++ marksU 1 k)) ∧ Below w.heap.size w wr ∧ w.heap.size < wr.heap.size)
    (fun _ i _ => 12 - (intOf i).toNat)
  case atStart => exact ⟨0, by omega, rfl, rfl, by simpa [marksU] using hown2, hb2, hz⟩
  case round =>
    obtain ⟨k, hk, rfl, rfl, hrow, hbr, hzr⟩ := hrel
    by_cases hlt : k < 12
    · have hmk : (1000003 * ((1 : Int) + 7) + (k : Int)) = 8000024 + (k : Int) := by omega
      have HMK := Lib.hid hmk
      clear hmk
      go_wp2_with (first
        | (go_at_call 36; ((with_reducible refine (marku_any 1 k _ (by omega) (by omega) (by omega) (by omega)).mono ?_); rintro e w' ⟨rfl, rfl⟩))
        | (at_builtin; refine wpList_append_fits _ rfl (.tmp 16) (.tmp 19) 28 rfl w.heap.size 44 i0 3 Try.underlying28 H1.out H3.out w.heap.size (l.length + k) (l.length + 12) _ rfl ((hrow.alloc _).alloc _) ⟨wr.heap.size + 1, 0, none⟩ 1 1 [.int .i64 0, .int .i64 (8000024 + (k : Int)), .int .i64 0] rfl rfl (newu_at _ _ (by simp) _ _) (oneu_mark _) (by omega) ?_; intro w3 hown3 hg3))
      have hst : ucells (l ++ marksU 1 k) ++ [.int .i64 0, .int .i64 (8000024 + (k : Int)), .int .i64 0] = ucells (l ++ marksU 1 (k + 1)) := by
        rw [marksU_succ, ← HMK.out, ← List.append_assoc, ucells_append (l ++ marksU 1 k)]; rfl
      rw [hst] at hown3
      have hb3 : Below w.heap.size w w3 := ((hbr.alloc hbr.size _).alloc (by simp only [World.size_alloc]; omega) _).grown hg3 (by simp only [World.size_alloc]; omega) (fun j hj => by cases hj; exact Nat.le_refl _)
      have hz3 := hg3.size
      simp only [World.size_alloc] at hz3
      have HST := Lib.hid hst
      clear hst
      go_roundw
      case rel => exact ⟨k + 1, by omega, by go_num, rfl, hown3, hb3, by omega⟩
      case measure => simp [intOf]; omega
    · obtain rfl : k = 12 := by omega
      go_wp2
      go_ret
      exact ⟨rfl, hbr, hrow⟩
end Go.Proofs.Ytddnfikjfmfhfaa
end
section
/- storemankit.KeptUses: whether a list and its marks are still as they were. Written by gen_flent.py. -/
namespace Go.Proofs.Ytddnfikjfmfhfaa
open Go.ChangeShapes Go.WideShapes Go.ChangeAt Go.RowKit Go.Maps Go.Sort
set_option linter.unusedVariables false

/-- It is itself. -/
def EqU (x y : Us) : Prop := ∀ w, (binOp .eql 44 (.agg #[.int .i64 x.want, .int .i64 x.lot, .int .i64 x.qty]) (.agg #[.int .i64 y.want, .int .i64 y.lot, .int .i64 y.qty])).run Try.prog w = .ok (.bool true) w
theorem eqU_self (x : Us) : EqU x x := fun w => by have := eql_U x x w; rw [decide_eq_true rfl] at this; exact this
def EqMU (M : Int) : Prop := ∀ w, (binOp .eql 44 (.agg #[.int .i64 0, .int .i64 M, .int .i64 0]) (.agg #[.int .i64 0, .int .i64 M, .int .i64 0])).run Try.prog w = .ok (.bool true) w
theorem eqU_mark (M : Int) : EqMU M := eqU_self ⟨0, M, 0⟩
theorem marku_grown (k i M : Int) (w : World) (n : Nat) (os : Array Obj) (hM : 1000003 * (k + 7) + i = M) (h0 : 0 ≤ k) (h1 : k ≤ 1000000) (h2 : 0 ≤ i) (h3 : i ≤ 1099511627776) :
    Calls Try.prog 36 #[.int .i64 k, .int .i64 i] (grow (w.drewN n) os) fun e w'' => e = .returned (.agg #[.int .i64 0, .int .i64 M, .int .i64 0]) ∧ ∃ p : GrownBy, w'' = grow (w.drewN p.n) p.os := by
  subst hM
  exact Calls.grown_of ((marku_any k i _ h0 h1 h2 h3).mono fun e w' ⟨he, hw⟩ => ⟨he, 0, #[.cells #[.int .i64 0, .int .i64 (1000003 * (k + 7) + i), .int .i64 0] 44], by rw [← hw, alloc_eq_grow]; rfl⟩)

set_option maxRecDepth 100000 in
set_option maxHeartbeats 1000000 in
theorem keptu_any (v : Value) (l : List Us) (B g : Nat) (w : World) (hv : USl w B v l) (hg : Lies w B (some ⟨g, 0, none⟩) (ucells (l ++ marksU 1 12))) (hB : B ≤ w.heap.size) (hlen : l.length ≤ 1048576) :
    Calls Try.prog 25 #[.slice (some ⟨g, 0, none⟩) l.length (l.length + 12), v] w fun e w' => e = .returned (.bool true) ∧ Go.RowKit.Below w.heap.size w w' := by
  obtain ⟨A, c, rfl, hc1, hc2, hcz, hl⟩ := id hv
  have hm : Try.prog.follows .mixedOrders = true := by kernel_rfl
  have HM := Lib.hid hm
  clear hm
  go_enter Try.func25, Try.ntmps25
  go_wp2
  go_loopw [6] (fun i wr => ∃ k : Nat, k ≤ l.length + 12 ∧ i = .int .i64 k ∧ Go.RowKit.Below w.heap.size w wr) (fun i _ => l.length + 12 - (intOf i).toNat)
  case atStart => exact ⟨0, Nat.zero_le _, rfl, Below.refl _ _⟩
  case round =>
    obtain ⟨k, hk, rfl, hbr⟩ := hrel
    by_cases hlt : k < l.length
    · obtain ⟨p, hp⟩ : ∃ p, l[k]? = some p := ⟨_, List.getElem?_eq_getElem hlt⟩
      obtain ⟨ad, hA, _, hp0, hp1, hp2⟩ := (hl.below (hbr.mono hB)).rowU hp
      subst hA
      have hpp : (l ++ marksU 1 12)[k]? = some p := by rw [List.getElem?_append_left hlt, hp]
      obtain ⟨ag, hag, _, hg0, hg1, hg2⟩ := (hg.below (hbr.mono hB)).rowU hpp
      injection hag with hag
      subst hag
      rw [addr0] at hg0 hg1 hg2
      have heq : EqU p p := eqU_self p
      unfold EqU at heq
      have HN := Lib.hid hp
      have HPP := Lib.hid hpp
      clear hp hpp
      have hd1 : decide (k < l.length) = true := decide_eq_true (by omega)
      have hd2 : decide (l.length ≤ k) = false := decide_eq_false (by omega)
      go_wp2
      go_quiet (fail)
      go_wp2
      go_roundw
      case rel => exact ⟨k + 1, by omega, by go_num, below_draws hbr _⟩
      case measure => simp [intOf]; omega
    · by_cases hlt2 : k < l.length + 12
      · have hpp : (l ++ marksU 1 12)[k]? = some (markU 1 (k - l.length)) := by rw [List.getElem?_append_right (by omega), marksU_get 1 12 _ (by omega)]
        obtain ⟨ag, hag, hgb, hg0, hg1, hg2⟩ := (hg.below (hbr.mono hB)).rowU hpp
        injection hag with hag
        subst hag
        rw [addr0] at hg0 hg1 hg2
        have hgs : g < wr.heap.size := by have := hbr.size; show (⟨g, 0, none⟩ : Addr).block < _; omega
        have hq0 : ∀ n os, (grow (wr.drewN n) os).cell? ⟨g, k * 3, none⟩ = some (.int .i64 0) := fun n os => cell_grown hgs hg0 n os
        have hq1 : ∀ n os, (grow (wr.drewN n) os).cell? ⟨g, k * 3 + 1, none⟩ = some (.int .i64 (8000024 + ((k : Int) - (l.length : Int)))) := fun n os => by
          rw [cell_grown hgs hg1 n os]
          simp only [markU]
          congr 2
          omega
        have hq2 : ∀ n os, (grow (wr.drewN n) os).cell? ⟨g, k * 3 + 2, none⟩ = some (.int .i64 0) := fun n os => cell_grown hgs hg2 n os
        clear hg0 hg1 hg2
        have heq := eqU_mark (8000024 + ((k : Int) - (l.length : Int)))
        unfold EqMU at heq
        have HPP := Lib.hid hpp
        clear hpp
        have hd1 : decide (k < l.length) = false := decide_eq_false (by omega)
        have hd2 : decide (l.length ≤ k) = true := decide_eq_true (by omega)
        have hle0 : 0 ≤ (k : Int) - (l.length : Int) := by omega
        go_wp2
        have hm := HM.out
        refine wp_region_quiet_grown (by assumption) (by kernel_rfl) ?_
        repeat (go_big_quiet_step ((go_at_call 36; exact marku_grown 1 ((k : Int) - (l.length : Int)) (8000024 + ((k : Int) - (l.length : Int))) _ _ _ (by omega) (by omega) (by omega) (by omega) (by omega))))
        refine wpQuiet_nil ?_
        intro _ hw'
        obtain ⟨⟨nq, osq⟩, hw''⟩ := hw'
        subst hw''
        clear hm
        have hbq := below_grow hbr hbr.size nq osq
        go_wp2
        go_roundw
        case rel => exact ⟨k + 1, by omega, by go_num, hbq⟩
        case measure => simp [intOf]; omega
      · obtain rfl : k = l.length + 12 := by omega
        go_wp2
        go_ret
        exact ⟨rfl, hbr⟩
end Go.Proofs.Ytddnfikjfmfhfaa
end
section
/- The law FlowChecks: whatever lots, wants and uses; the walk. -/
namespace Go.Proofs.Ytddnfikjfmfhfaa
open Go.ChangeShapes Go.WideShapes Go.ChangeAt Go.RowKit Go.Maps
set_option linter.unusedVariables false
theorem lies_left {w : World} {B : Nat} {A : Option Addr} {a b : List Value} (h : Lies w B A (a ++ b)) : Lies w B A a := fun hne => by
  obtain ⟨ad, e, hb, hc⟩ := h (fun e => hne (List.append_eq_nil_iff.1 e).1)
  refine ⟨ad, e, hb, fun j u hu => hc j u ?_⟩
  rw [List.getElem?_append_left (List.getElem?_eq_some_iff.1 hu).1]
  exact hu
theorem usl_lent {w : World} {B g : Nat} {us M : List Us} (h : Lies w B (some ⟨g, 0, none⟩) (ucells (us ++ M))) (hl : us.length ≤ 1048576) : USl w B (.slice (some ⟨g, 0, none⟩) us.length (us.length + 12)) us :=
  ⟨_, _, rfl, by omega, by unfold maxLen; omega, (fun h => by cases h), lies_left (by rw [← ucells_append]; exact h)⟩
set_option maxRecDepth 100000 in
set_option maxHeartbeats 8000000 in
theorem checks_any (v1 v2 v3 : Value) (l : List Lt) (ws : List Wt) (us : List Us) (w : World) (hv1 : LSl w w.heap.size v1 l) (hv2 : WSl w w.heap.size v2 ws) (hv3 : USl w w.heap.size v3 us) (hs : Sized l) (hsu : SizedU us) :
    Calls Try.prog 4 #[v1, v2, v3] w fun e w' => e = .returned (.bool true) ∧ Below w.heap.size w w' := by
  obtain ⟨A1, c1, rfl, hc11, hc12, hcz1, _⟩ := id hv1
  obtain ⟨A2, c2, rfl, hc21, hc22, hcz2, _⟩ := id hv2
  obtain ⟨A3, c3, rfl, hc31, hc32, hcz3, _⟩ := id hv3
  have HV1 := Lib.hid hv1
  have HV2 := Lib.hid hv2
  have HV3 := Lib.hid hv3
  have HS : Hid (Sized l) := Lib.hid hs
  have HSU : Hid (SizedU us) := Lib.hid hsu
  clear hv1 hv2 hv3 hs hsu
  go_enter Try.func4, Try.ntmps4
  go_wp2_with fail
  refine (awake_any w).mono ?_
  rintro e w1 ⟨rfl, hb1'⟩
  have HW1 := Lib.hid (HV1.out.at_ hb1')
  have HW2 := Lib.hid (HV2.out.at_ hb1')
  have HW3 := Lib.hid (HV3.out.at_ hb1')
  have HB1 := Lib.hid hb1'
  clear hb1'
  by_cases hS4 : l.length ≤ 40 ∧ ws.length ≤ 60
  · have hsd : decide (l.length ≤ 40 ∧ ws.length ≤ 60) = true := decide_eq_true hS4
    obtain ⟨h40, h60⟩ := hS4
    by_cases h200 : us.length ≤ 200
    · have hd2 : decide (200 < (us.length : Int)) = false := decide_eq_false (by omega)
      obtain ⟨b, hb⟩ : ∃ b, checkB l ws us = b := ⟨_, rfl⟩
      have KC : Hid (∀ v1 v2 v3 W, LSl W W.heap.size v1 l → WSl W W.heap.size v2 ws → USl W W.heap.size v3 us → Calls Try.prog 23 #[v1, v2, v3] W fun e w' => e = .returned (.bool b) ∧ Below W.heap.size W w') := Lib.hid (fun v1 v2 v3 W a b' c => by rw [← hb]; exact check_any v1 v2 v3 l ws us W (by omega) (by omega) (by omega) HS.out HSU.out a b' c)
      have KR : Hid (∀ v1 v2 v3 W, LSl W W.heap.size v1 l → WSl W W.heap.size v2 ws → USl W W.heap.size v3 us → Calls Try.prog 24 #[v1, v2, v3] W fun e w' => e = .returned (.bool b) ∧ Below W.heap.size W w') := Lib.hid (fun v1 v2 v3 W a b' c => by rw [← hb]; exact rcheck_any v1 v2 v3 l ws us W a b' c HS.out HSU.out (by omega))
      clear hb
      go_wp2_with (first
        | (go_at_call 10; ((with_reducible refine (small_any _ _ _ _ _ _ _).mono ?_); rintro e w2 ⟨rfl, rfl⟩; rw [hsd]))
        | (go_at_call 22; fail))
      refine (lentu_any _ us w1.heap.size w1 HW3.out (Nat.le_refl _) (by omega)).mono ?_
      rintro e w2 ⟨rfl, hb2', ho2'⟩
      obtain ⟨g, hg⟩ : ∃ g, w1.heap.size = g := ⟨_, rfl⟩
      have HG2 : Hid (Lies w2 w2.heap.size (some ⟨g, 0, none⟩) (ucells (us ++ marksU 1 12))) := Lib.hid (by rw [← hg]; exact Lies.own ho2')
      have HX1 := Lib.hid (HW1.out.at_ hb2')
      have HX2 := Lib.hid (HW2.out.at_ hb2')
      have HX3 := Lib.hid (HW3.out.at_ hb2')
      have HB2 := Lib.hid (below_two HB1.out hb2')
      rw [hg]
      clear hb2' ho2' HW1 HW2 HW3 HB1 hg
      cases b
      all_goals
        go_wp2_with (first
          | (go_at_call 23; ((with_reducible refine (KC.out _ _ _ _ HX1.out HX2.out (usl_lent HG2.out (by omega))).mono ?_); rintro e w3 ⟨rfl, hb3'⟩; have HG3 := Lib.hid ((HG2.out.below hb3').mono hb3'.size); have HY1 := Lib.hid (HX1.out.at_ hb3'); have HY2 := Lib.hid (HX2.out.at_ hb3'); have HY3 := Lib.hid (HX3.out.at_ hb3'); have HB3 := Lib.hid (below_two HB2.out hb3'); clear hb3' HX1 HX2 HX3 HB2 HG2))
          | (go_at_call 24; ((with_reducible refine (KR.out _ _ _ _ HY1.out HY2.out HY3.out).mono ?_); rintro e w4 ⟨rfl, hb4'⟩; have HG4 := Lib.hid ((HG3.out.below hb4').mono hb4'.size); have HZ3 := Lib.hid (HY3.out.at_ hb4'); have HB4 := Lib.hid (below_two HB3.out hb4'); clear hb4' HY1 HY2 HY3 HB3 HG3))
          | (go_at_call 25; ((with_reducible refine (keptu_any _ us _ g _ HZ3.out HG4.out (Nat.le_refl _) (by omega)).mono ?_); rintro e w5 ⟨rfl, hb5'⟩; have HB5 := Lib.hid (below_two HB4.out hb5'); clear hb5')))
        go_ret
        exact ⟨rfl, HB5.out⟩
    · have hd2 : decide (200 < (us.length : Int)) = true := decide_eq_true (by omega)
      go_wp2_with (go_at_call 10; ((with_reducible refine (small_any _ _ _ _ _ _ _).mono ?_); rintro e w2 ⟨rfl, rfl⟩; rw [hsd]))
      go_ret
      exact ⟨rfl, HB1.out⟩
  · have hsd : decide (l.length ≤ 40 ∧ ws.length ≤ 60) = false := decide_eq_false hS4
    clear hS4
    go_wp2_with (go_at_call 10; ((with_reducible refine (small_any _ _ _ _ _ _ _).mono ?_); rintro e w2 ⟨rfl, rfl⟩; rw [hsd]))
    go_ret
    exact ⟨rfl, HB1.out⟩
end Go.Proofs.Ytddnfikjfmfhfaa
end
section
/- Arguments: a lot by value, a list of lots, as cells. -/
namespace Go.Proofs.Ytddnfikjfmfhfaa
open Go.ChangeShapes Go.WideShapes Go.ChangeAt Go.RowKit Go.Deep
set_option linter.unusedVariables false
set_option linter.constructorNameAsVariable false
set_option maxRecDepth 100000

theorem win_of_cells {H : Type} {enc : TypeId × Value → H} {W : World} {base fuel : Nat} {sp : Nat → Bool} {held : Bool} {cs : List Value} {x : DataW H × List MemPlace} (hl : cs.length = 2)
    (h : DataW.trod enc Try.prog W base sp held fuel 40 cs = some x) : ∃ f u : Int, cs = [.int .i64 f, .int .i64 u] ∧ -9223372036854775808 ≤ f ∧ f ≤ 9223372036854775807 ∧ -9223372036854775808 ≤ u ∧ u ≤ 9223372036854775807 := by
  obtain ⟨ys, n, _, _, _, hyl, hf⟩ := DataW.trod_struct Try.underlying40 h
  match cs, hl with
  | [c0, c1], _ =>
    have hC3 : Try.prog.cellsOf 3 = 1 := by kernel_rfl
    obtain ⟨y0, hy0⟩ : ∃ y, ys[0]? = some y := ⟨_, List.getElem?_eq_getElem (by rw [hyl]; decide)⟩
    obtain ⟨y1, hy1⟩ : ∃ y, ys[1]? = some y := ⟨_, List.getElem?_eq_getElem (by rw [hyl]; decide)⟩
    have g0 : DataW.trod enc Try.prog W base sp held n 3 [c0] = some y0 := by have h := (hf 0 _ rfl).trans hy0; simpa [hC3] using h
    have g1 : DataW.trod enc Try.prog W base sp held n 3 [c1] = some y1 := by have h := (hf 1 _ rfl).trans hy1; simpa [hC3] using h
    obtain ⟨f, e0, _, w0⟩ := DataW.trod_int Try.underlying3 g0
    obtain ⟨u, e1, _, w1⟩ := DataW.trod_int Try.underlying3 g1
    obtain rfl : c0 = _ := by simpa using e0
    obtain rfl : c1 = _ := by simpa using e1
    exact ⟨f, u, rfl, (bounds_i64 w0).1, (bounds_i64 w0).2, (bounds_i64 w1).1, (bounds_i64 w1).2⟩
theorem lot_of_cells {H : Type} {enc : TypeId × Value → H} {W : World} {base fuel : Nat} {sp : Nat → Bool} {held : Bool} {cs : List Value} {x : DataW H × List MemPlace} (hl : cs.length = 6)
    (h : DataW.trod enc Try.prog W base sp held fuel 42 cs = some x) : ∃ y : Lt, cs = encL y ∧ y.Fits := by
  obtain ⟨ys, n, _, _, _, hyl, hf⟩ := DataW.trod_struct Try.underlying42 h
  match cs, hl with
  | [c0, c1, c2, c3, c4, c5], _ =>
    have hC3 : Try.prog.cellsOf 3 = 1 := by kernel_rfl
    have hC2 : Try.prog.cellsOf 2 = 1 := by kernel_rfl
    have hC9 : Try.prog.cellsOf 9 = 1 := by kernel_rfl
    have hC4 : Try.prog.cellsOf 4 = 1 := by kernel_rfl
    have hCW : Try.prog.cellsOf 40 = 2 := by kernel_rfl
    obtain ⟨y0, hy0⟩ : ∃ y, ys[0]? = some y := ⟨_, List.getElem?_eq_getElem (by rw [hyl]; decide)⟩
    obtain ⟨y1, hy1⟩ : ∃ y, ys[1]? = some y := ⟨_, List.getElem?_eq_getElem (by rw [hyl]; decide)⟩
    obtain ⟨y2, hy2⟩ : ∃ y, ys[2]? = some y := ⟨_, List.getElem?_eq_getElem (by rw [hyl]; decide)⟩
    obtain ⟨y3, hy3⟩ : ∃ y, ys[3]? = some y := ⟨_, List.getElem?_eq_getElem (by rw [hyl]; decide)⟩
    obtain ⟨y4, hy4⟩ : ∃ y, ys[4]? = some y := ⟨_, List.getElem?_eq_getElem (by rw [hyl]; decide)⟩
    have g0 : DataW.trod enc Try.prog W base sp held n 3 [c0] = some y0 := by have h := (hf 0 _ rfl).trans hy0; simpa [hC3] using h
    have g1 : DataW.trod enc Try.prog W base sp held n 9 [c1] = some y1 := by have h := (hf 1 _ rfl).trans hy1; simpa [hC9] using h
    have g2 : DataW.trod enc Try.prog W base sp held n 40 [c2, c3] = some y2 := by have h := (hf 2 _ rfl).trans hy2; simpa [hCW] using h
    have g3 : DataW.trod enc Try.prog W base sp held n 2 [c4] = some y3 := by have h := (hf 3 _ rfl).trans hy3; simpa [hC2] using h
    have g4 : DataW.trod enc Try.prog W base sp held n 4 [c5] = some y4 := by have h := (hf 4 _ rfl).trans hy4; simpa [hC4] using h
    obtain ⟨i, e0, _, w0⟩ := DataW.trod_int Try.underlying3 g0
    obtain ⟨s, e1, _, w1⟩ := DataW.trod_string Try.underlying9 g1
    obtain ⟨f, u, e2, b1, b2, b3, b4⟩ := win_of_cells rfl g2
    obtain ⟨q, e3, _, w3⟩ := DataW.trod_int Try.underlying2 g3
    obtain ⟨b, e4, _⟩ := DataW.trod_bool Try.underlying4 g4
    simp only [List.cons.injEq, and_true] at e0 e1 e2 e3 e4
    obtain ⟨e2, e2'⟩ := e2
    subst e0 e1 e2 e2' e3 e4
    exact ⟨⟨i, s.data.toList, f, u, q, b⟩, rfl, (bounds_i64 w0).1, (bounds_i64 w0).2, by show s.data.toList.length ≤ maxLen; rw [Array.length_toList]; exact w1, b1, b2, b3, b4, (bounds_i64 w3).1, (bounds_i64 w3).2⟩
/-- A lot that is handed by value. -/
theorem open_lot {H : Type} {enc : TypeId × Value → H} {W : World} {r : Reach} {b0 base : Nat} {sp : Nat → Bool} {held : Bool} {v : Value} {d : DataW H} {p : List MemPlace} (hval : Value.okWide Try.prog W r b0 42 v)
    (h : DataW.Trod enc Try.prog W base sp held 42 v d p) : ∃ y : Lt, v = aggL y ∧ y.Fits := by
  obtain ⟨cs, rfl, hsz⟩ := okWide_struct Try.underlying42 hval
  obtain ⟨l⟩ := cs
  have hC : Try.prog.cellsOf 42 = 6 := by kernel_rfl
  have hl : l.length = 6 := by have := hsz.trans hC; simpa using this
  obtain ⟨fuel, hf⟩ := h
  have hf' : DataW.trod enc Try.prog W base sp held fuel 42 l = some (d, p) := by simpa [Value.cells] using hf
  obtain ⟨y, rfl, hy⟩ := lot_of_cells hl hf'
  exact ⟨y, rfl, hy⟩

theorem cell_lt {w : World} {p : Addr} {u : Value} (h : w.cell? p = some u) : p.block < w.heap.size := World.block_lt_of_cell? w p h
/-- A list of lots that is handed. -/
theorem open_lots {H : Type} {enc : TypeId × Value → H} {W : World} {r : Reach} {b0 base : Nat} {sp : Nat → Bool} {held : Bool} {v : Value} {d : DataW H} {p : List MemPlace} (hval : Value.okWide Try.prog W r b0 22 v)
    (h : DataW.Trod enc Try.prog W base sp held 22 v d p) : ∃ l, LSl W W.heap.size v l ∧ Sized l ∧ (l = [] ∨ ∃ elems spare, d = .slice elems spare ∧ l.length = elems.length) := by
  obtain ⟨a0, len0, cap0, rfl⟩ := okWide_slice Try.underlying22 hval
  obtain ⟨fuel, hf⟩ := h
  rcases open_slice Try.underlying22 hf with ⟨hcs, _⟩ | ⟨a, len, cap, m, n, D, Pl, hcs, _, hl, hm, hmm, hx, hi⟩
  · simp [Value.cells] at hcs
    obtain ⟨rfl, rfl, rfl⟩ := hcs
    exact ⟨[], ⟨none, 0, rfl, Nat.le_refl _, by simp [maxLen], fun _ => rfl, Lies.none⟩, fun x hx => by simp at hx, .inl rfl⟩
  · simp [Value.cells] at hcs
    obtain ⟨rfl, rfl, rfl⟩ := hcs
    have hlm : len0 ≤ m := by rw [hmm]; split <;> omega
    have hC : Try.prog.cellsOf 42 = 6 := by kernel_rfl
    have hpt : ∀ i, i < len0 → ∃ y : Lt, y.Fits ∧ ∀ c u, (encL y)[c]? = some u → W.cell? (a.add (i * 6 + c)) = some u := by
      intro i hil
      obtain ⟨cs', hc, ht⟩ := hi i (by omega)
      rw [hC] at hc
      obtain ⟨_, hlen, hat⟩ := World.cells?_some hc
      obtain ⟨y, rfl, hy⟩ := lot_of_cells hlen ht
      refine ⟨y, hy, fun c u hu => ?_⟩
      have hc6 : c < 6 := by have := (List.getElem?_eq_some_iff.1 hu).1; rw [encL_length] at this; exact this
      have := hat c hc6
      rw [addr_add] at this
      rw [this, hu]
    let f : Nat → Lt := fun i => if h : i < len0 then Classical.choose (hpt i h) else default
    have hff : ∀ i, i < len0 → (f i).Fits ∧ ∀ c u, (encL (f i))[c]? = some u → W.cell? (a.add (i * 6 + c)) = some u := by
      intro i hil
      have := Classical.choose_spec (hpt i hil)
      simp only [f, dif_pos hil]
      exact this
    have hlen : ((List.range len0).map f).length = len0 := by simp
    have hget : ∀ k, k < len0 → ((List.range len0).map f)[k]? = some (f k) := fun k hk => by simp [hk]
    refine ⟨(List.range len0).map f, ⟨some a, cap0, by rw [hlen], by omega, hm, fun h => (by cases h), fun hne => ?_⟩, fun q hq => ?_, .inr ?_⟩
    · have h0 : 0 < len0 := by
        rcases Nat.eq_zero_or_pos len0 with h | h
        · subst h; simp [lcells] at hne
        · exact h
      refine ⟨a, rfl, by have := cell_lt ((hff 0 h0).2 0 _ rfl); rw [addr_block] at this; exact this, fun j u hu => ?_⟩
      have hj : j < len0 * 6 := by have := (List.getElem?_eq_some_iff.1 hu).1; rw [lcells_length, hlen] at this; exact this
      have hk : j / 6 < len0 := by omega
      have := lcells_get _ _ _ (hget (j / 6) hk) (j % 6) (by omega)
      rw [show j / 6 * 6 + j % 6 = j by omega] at this
      rw [this] at hu
      have := (hff (j / 6) hk).2 (j % 6) u hu
      rwa [show j / 6 * 6 + j % 6 = j by omega] at this
    · obtain ⟨k, hk, rfl⟩ := List.mem_map.1 hq
      exact (hff k (by simpa using hk)).1
    · simp only [Prod.mk.injEq] at hx
      exact ⟨_, _, hx.1, by simp⟩

theorem own_knob : ownKnob Try.prog.godebug = none := by kernel_rfl
/-- What a law leaves behind: nothing that was there has turned. -/
theorem post_below {H : Type} {enc : TypeId × Value → H} {P : Program} {f : Func} {s : ChangeSpec} {apart fresh handsOn : Bool} {W W' : World} {args : Array Value} {v : Value} {ds gs : List (DataW H)} {before pa pv : List MemPlace}
    (hW : DataW.Whole enc P f.params.toList s.vars apart W args.toList ds gs before)
    (hres : ∀ (b : Nat) (sp : Nat → Bool) (hd : Bool), DataW.TrodAll enc P W' b sp hd f.resultTypes.toList (v.resultList f.resultTypes.size) (s.fn H (ds ++ gs)).results [])
    (hargs : DataW.TrodAll enc P W' 0 (fun b => decide (b < W.heap.size)) true f.params.toList args.toList (s.fn H (ds ++ gs)).args pa)
    (hvars : DataW.TrodVars enc P W' (fun b => decide (b < W.heap.size)) s.vars (s.fn H (ds ++ gs)).vars pv)
    (hb : Below W.heap.size W W') : s.post enc P f apart fresh handsOn false W args v W' :=
  ⟨ds, gs, before, [], pa, pv, hW, hres _ _ _, hargs, hvars, hb.frame _, fun h => by cases h⟩
theorem laid_out : laidOutB Try.prog = true := by kernel_rfl
end Go.Proofs.Ytddnfikjfmfhfaa
end
section
/- Lists of wants and of uses that are handed. Written by gen_fopen.py. -/
namespace Go.Proofs.Ytddnfikjfmfhfaa
open Go.ChangeShapes Go.WideShapes Go.ChangeAt Go.RowKit Go.Deep
set_option linter.unusedVariables false
set_option maxRecDepth 100000
theorem wants_of_cells {H : Type} {enc : TypeId × Value → H} {W : World} {base fuel : Nat} {sp : Nat → Bool} {held : Bool} {cs : List Value} {x : DataW H × List MemPlace} (hl : cs.length = 3)
    (h : DataW.trod enc Try.prog W base sp held fuel 47 cs = some x) : ∃ y : Wt, cs = encW y ∧ y.Fits := by
  obtain ⟨ys, n, _, _, _, hyl, hf⟩ := DataW.trod_struct Try.underlying47 h
  match cs, hl with
  | [c0, c1, c2], _ =>
    have hC3 : Try.prog.cellsOf 3 = 1 := by kernel_rfl
    have hC2 : Try.prog.cellsOf 2 = 1 := by kernel_rfl
    have hC9 : Try.prog.cellsOf 9 = 1 := by kernel_rfl
    obtain ⟨y0, hy0⟩ : ∃ y, ys[0]? = some y := ⟨_, List.getElem?_eq_getElem (by rw [hyl]; decide)⟩
    obtain ⟨y1, hy1⟩ : ∃ y, ys[1]? = some y := ⟨_, List.getElem?_eq_getElem (by rw [hyl]; decide)⟩
    obtain ⟨y2, hy2⟩ : ∃ y, ys[2]? = some y := ⟨_, List.getElem?_eq_getElem (by rw [hyl]; decide)⟩
    have g0 : DataW.trod enc Try.prog W base sp held n 9 [c0] = some y0 := by have h := (hf 0 _ rfl).trans hy0; simpa [hC9] using h
    have g1 : DataW.trod enc Try.prog W base sp held n 3 [c1] = some y1 := by have h := (hf 1 _ rfl).trans hy1; simpa [hC3] using h
    have g2 : DataW.trod enc Try.prog W base sp held n 2 [c2] = some y2 := by have h := (hf 2 _ rfl).trans hy2; simpa [hC2] using h
    obtain ⟨a0, e0, _, w0⟩ := DataW.trod_string Try.underlying9 g0
    obtain ⟨a1, e1, _, w1⟩ := DataW.trod_int Try.underlying3 g1
    obtain ⟨a2, e2, _, w2⟩ := DataW.trod_int Try.underlying2 g2
    simp only [List.cons.injEq, and_true] at e0 e1 e2
    subst e0 e1 e2
    exact ⟨⟨a0.data.toList, a1, a2⟩, rfl, by show a0.data.toList.length ≤ maxLen; rw [Array.length_toList]; exact w0, (bounds_i64 w1).1, (bounds_i64 w1).2, (bounds_i64 w2).1, (bounds_i64 w2).2⟩
theorem uses_of_cells {H : Type} {enc : TypeId × Value → H} {W : World} {base fuel : Nat} {sp : Nat → Bool} {held : Bool} {cs : List Value} {x : DataW H × List MemPlace} (hl : cs.length = 3)
    (h : DataW.trod enc Try.prog W base sp held fuel 44 cs = some x) : ∃ y : Us, cs = encU y ∧ y.Fits := by
  obtain ⟨ys, n, _, _, _, hyl, hf⟩ := DataW.trod_struct Try.underlying44 h
  match cs, hl with
  | [c0, c1, c2], _ =>
    have hC3 : Try.prog.cellsOf 3 = 1 := by kernel_rfl
    have hC2 : Try.prog.cellsOf 2 = 1 := by kernel_rfl
    have hC9 : Try.prog.cellsOf 9 = 1 := by kernel_rfl
    obtain ⟨y0, hy0⟩ : ∃ y, ys[0]? = some y := ⟨_, List.getElem?_eq_getElem (by rw [hyl]; decide)⟩
    obtain ⟨y1, hy1⟩ : ∃ y, ys[1]? = some y := ⟨_, List.getElem?_eq_getElem (by rw [hyl]; decide)⟩
    obtain ⟨y2, hy2⟩ : ∃ y, ys[2]? = some y := ⟨_, List.getElem?_eq_getElem (by rw [hyl]; decide)⟩
    have g0 : DataW.trod enc Try.prog W base sp held n 3 [c0] = some y0 := by have h := (hf 0 _ rfl).trans hy0; simpa [hC3] using h
    have g1 : DataW.trod enc Try.prog W base sp held n 3 [c1] = some y1 := by have h := (hf 1 _ rfl).trans hy1; simpa [hC3] using h
    have g2 : DataW.trod enc Try.prog W base sp held n 2 [c2] = some y2 := by have h := (hf 2 _ rfl).trans hy2; simpa [hC2] using h
    obtain ⟨a0, e0, _, w0⟩ := DataW.trod_int Try.underlying3 g0
    obtain ⟨a1, e1, _, w1⟩ := DataW.trod_int Try.underlying3 g1
    obtain ⟨a2, e2, _, w2⟩ := DataW.trod_int Try.underlying2 g2
    simp only [List.cons.injEq, and_true] at e0 e1 e2
    subst e0 e1 e2
    exact ⟨⟨a0, a1, a2⟩, rfl, (bounds_i64 w0).1, (bounds_i64 w0).2, (bounds_i64 w1).1, (bounds_i64 w1).2, (bounds_i64 w2).1, (bounds_i64 w2).2⟩
/-- A list of wants that is handed. -/
theorem open_wants {H : Type} {enc : TypeId × Value → H} {W : World} {r : Reach} {b0 base : Nat} {sp : Nat → Bool} {held : Bool} {v : Value} {d : DataW H} {p : List MemPlace} (hval : Value.okWide Try.prog W r b0 23 v)
    (h : DataW.Trod enc Try.prog W base sp held 23 v d p) : ∃ l, WSl W W.heap.size v l ∧ SizedW l ∧ (l = [] ∨ ∃ elems spare, d = .slice elems spare ∧ l.length = elems.length) := by
  obtain ⟨a0, len0, cap0, rfl⟩ := okWide_slice Try.underlying23 hval
  obtain ⟨fuel, hf⟩ := h
  rcases open_slice Try.underlying23 hf with ⟨hcs, _⟩ | ⟨a, len, cap, m, n, D, Pl, hcs, _, hl, hm, hmm, hx, hi⟩
  · simp [Value.cells] at hcs
    obtain ⟨rfl, rfl, rfl⟩ := hcs
    exact ⟨[], ⟨none, 0, rfl, Nat.le_refl _, by simp [maxLen], fun _ => rfl, Lies.none⟩, fun x hx => by simp at hx, .inl rfl⟩
  · simp [Value.cells] at hcs
    obtain ⟨rfl, rfl, rfl⟩ := hcs
    have hlm : len0 ≤ m := by rw [hmm]; split <;> omega
    have hC : Try.prog.cellsOf 47 = 3 := by kernel_rfl
    have hpt : ∀ i, i < len0 → ∃ y : Wt, y.Fits ∧ ∀ c u, (encW y)[c]? = some u → W.cell? (a.add (i * 3 + c)) = some u := by
      intro i hil
      obtain ⟨cs', hc, ht⟩ := hi i (by omega)
      rw [hC] at hc
      obtain ⟨_, hlen, hat⟩ := World.cells?_some hc
      obtain ⟨y, rfl, hy⟩ := wants_of_cells hlen ht
      refine ⟨y, hy, fun c u hu => ?_⟩
      have hcn : c < 3 := by have := (List.getElem?_eq_some_iff.1 hu).1; rw [encW_length] at this; exact this
      have := hat c hcn
      rw [addr_add] at this
      rw [this, hu]
    let f : Nat → Wt := fun i => if h : i < len0 then Classical.choose (hpt i h) else default
    have hff : ∀ i, i < len0 → (f i).Fits ∧ ∀ c u, (encW (f i))[c]? = some u → W.cell? (a.add (i * 3 + c)) = some u := by
      intro i hil
      have := Classical.choose_spec (hpt i hil)
      simp only [f, dif_pos hil]
      exact this
    have hlen : ((List.range len0).map f).length = len0 := by simp
    have hget : ∀ k, k < len0 → ((List.range len0).map f)[k]? = some (f k) := fun k hk => by simp [hk]
    refine ⟨(List.range len0).map f, ⟨some a, cap0, by rw [hlen], by omega, hm, fun h => (by cases h), fun hne => ?_⟩, fun q hq => ?_, .inr ?_⟩
    · have h0 : 0 < len0 := by
        rcases Nat.eq_zero_or_pos len0 with h | h
        · subst h; simp [wcells] at hne
        · exact h
      refine ⟨a, rfl, by have := cell_lt ((hff 0 h0).2 0 _ rfl); rw [addr_block] at this; exact this, fun j u hu => ?_⟩
      have hj : j < len0 * 3 := by have := (List.getElem?_eq_some_iff.1 hu).1; rw [wcells_length, hlen] at this; exact this
      have hk : j / 3 < len0 := by omega
      have := wcells_get _ _ _ (hget (j / 3) hk) (j % 3) (by omega)
      rw [show j / 3 * 3 + j % 3 = j by omega] at this
      rw [this] at hu
      have := (hff (j / 3) hk).2 (j % 3) u hu
      rwa [show j / 3 * 3 + j % 3 = j by omega] at this
    · obtain ⟨k, hk, rfl⟩ := List.mem_map.1 hq
      exact (hff k (by simpa using hk)).1
    · simp only [Prod.mk.injEq] at hx
      exact ⟨_, _, hx.1, by simp⟩

/-- A list of uses that is handed. -/
theorem open_uses {H : Type} {enc : TypeId × Value → H} {W : World} {r : Reach} {b0 base : Nat} {sp : Nat → Bool} {held : Bool} {v : Value} {d : DataW H} {p : List MemPlace} (hval : Value.okWide Try.prog W r b0 28 v)
    (h : DataW.Trod enc Try.prog W base sp held 28 v d p) : ∃ l, USl W W.heap.size v l ∧ SizedU l ∧ (l = [] ∨ ∃ elems spare, d = .slice elems spare ∧ l.length = elems.length) := by
  obtain ⟨a0, len0, cap0, rfl⟩ := okWide_slice Try.underlying28 hval
  obtain ⟨fuel, hf⟩ := h
  rcases open_slice Try.underlying28 hf with ⟨hcs, _⟩ | ⟨a, len, cap, m, n, D, Pl, hcs, _, hl, hm, hmm, hx, hi⟩
  · simp [Value.cells] at hcs
    obtain ⟨rfl, rfl, rfl⟩ := hcs
    exact ⟨[], ⟨none, 0, rfl, Nat.le_refl _, by simp [maxLen], fun _ => rfl, Lies.none⟩, fun x hx => by simp at hx, .inl rfl⟩
  · simp [Value.cells] at hcs
    obtain ⟨rfl, rfl, rfl⟩ := hcs
    have hlm : len0 ≤ m := by rw [hmm]; split <;> omega
    have hC : Try.prog.cellsOf 44 = 3 := by kernel_rfl
    have hpt : ∀ i, i < len0 → ∃ y : Us, y.Fits ∧ ∀ c u, (encU y)[c]? = some u → W.cell? (a.add (i * 3 + c)) = some u := by
      intro i hil
      obtain ⟨cs', hc, ht⟩ := hi i (by omega)
      rw [hC] at hc
      obtain ⟨_, hlen, hat⟩ := World.cells?_some hc
      obtain ⟨y, rfl, hy⟩ := uses_of_cells hlen ht
      refine ⟨y, hy, fun c u hu => ?_⟩
      have hcn : c < 3 := by have := (List.getElem?_eq_some_iff.1 hu).1; rw [encU_length] at this; exact this
      have := hat c hcn
      rw [addr_add] at this
      rw [this, hu]
    let f : Nat → Us := fun i => if h : i < len0 then Classical.choose (hpt i h) else default
    have hff : ∀ i, i < len0 → (f i).Fits ∧ ∀ c u, (encU (f i))[c]? = some u → W.cell? (a.add (i * 3 + c)) = some u := by
      intro i hil
      have := Classical.choose_spec (hpt i hil)
      simp only [f, dif_pos hil]
      exact this
    have hlen : ((List.range len0).map f).length = len0 := by simp
    have hget : ∀ k, k < len0 → ((List.range len0).map f)[k]? = some (f k) := fun k hk => by simp [hk]
    refine ⟨(List.range len0).map f, ⟨some a, cap0, by rw [hlen], by omega, hm, fun h => (by cases h), fun hne => ?_⟩, fun q hq => ?_, .inr ?_⟩
    · have h0 : 0 < len0 := by
        rcases Nat.eq_zero_or_pos len0 with h | h
        · subst h; simp [ucells] at hne
        · exact h
      refine ⟨a, rfl, by have := cell_lt ((hff 0 h0).2 0 _ rfl); rw [addr_block] at this; exact this, fun j u hu => ?_⟩
      have hj : j < len0 * 3 := by have := (List.getElem?_eq_some_iff.1 hu).1; rw [ucells_length, hlen] at this; exact this
      have hk : j / 3 < len0 := by omega
      have := ucells_get _ _ _ (hget (j / 3) hk) (j % 3) (by omega)
      rw [show j / 3 * 3 + j % 3 = j by omega] at this
      rw [this] at hu
      have := (hff (j / 3) hk).2 (j % 3) u hu
      rwa [show j / 3 * 3 + j % 3 = j by omega] at this
    · obtain ⟨k, hk, rfl⟩ := List.mem_map.1 hq
      exact (hff k (by simpa using hk)).1
    · simp only [Prod.mk.injEq] at hx
      exact ⟨_, _, hx.1, by simp⟩

end Go.Proofs.Ytddnfikjfmfhfaa
end
