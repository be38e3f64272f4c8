/- storemankit.KeptParts, OverParts: whether a list of parts and its marks are still as they were; both written over. -/
import Derived.Test.YtfppiigmibjbnaaGreatMarkP
import Derived.Test.YtfppiigmibjbnaaGreatSame
namespace Go.Proofs.YtfppiigmibjbnaaGreat
open Go.ChangeShapes Go.WideShapes Go.ChangeAt Go.RowKit Go.Maps Go.Sort
set_option linter.unusedVariables false

theorem eql_part (p q : Pt) (w : World) : (binOp .eql 38 (.agg #[encStr p.1, .int .i64 p.2]) (.agg #[encStr q.1, .int .i64 q.2])).run Tryz.prog w = .ok (.bool (decide (p = q))) w := by
  rw [run_eql_struct, eq_part]; rfl
theorem below_grow {B : Nat} {a w : World} (h : Go.RowKit.Below B a w) (hB : B ≤ w.heap.size) (n : Nat) (os : Array Obj) : Go.RowKit.Below B a (grow (w.drewN n) os) :=
  ⟨h.os, h.tape, h.output, by have := h.size; simp only [size_grow]; show a.heap.size ≤ w.heap.size + os.size; omega, fun k hk => (heap_grow_old (w.drewN n) os (show k < w.heap.size by omega)).trans (h.block k hk)⟩
theorem markp_grown (k i M : Int) (w : World) (n : Nat) (os : Array Obj) (hM : 1000003 * (k + 7) + i = M) (h0 : 0 ≤ k) (h1 : k ≤ 1000000) (h2 : 0 ≤ i) (h3 : i ≤ 1099511627776) :
    Calls Tryz.prog 20 #[.int .i64 k, .int .i64 i] (grow (w.drewN n) os) fun e w'' => e = .returned (.agg #[.string ⟨#[]⟩, .int .i64 M]) ∧ ∃ p : GrownBy, w'' = grow (w.drewN p.n) p.os := by
  subst hM
  exact Calls.grown_of ((markp_any k i _ h0 h1 h2 h3).mono fun e w' ⟨he, hw⟩ => ⟨he, 0, #[.cells #[.string ⟨#[]⟩, .int .i64 (1000003 * (k + 7) + i)] 38], by rw [← hw, alloc_eq_grow]; rfl⟩)

set_option maxRecDepth 100000 in
set_option maxHeartbeats 1000000 in
theorem keptp_any (v : Value) (l : List Pt) (B g : Nat) (w : World) (hv : PSl w B v l) (hg : Lies w B (some ⟨g, 0, none⟩) (pcells (l ++ marksP 1 12))) (hB : B ≤ w.heap.size) (hlen : l.length ≤ 1048576) :
    Calls Tryz.prog 9 #[.slice (some ⟨g, 0, none⟩) l.length (l.length + 12), v] w fun e w' => e = .returned (.bool true) ∧ Go.RowKit.Below w.heap.size w w' := by
  obtain ⟨A, c, rfl, hc1, hc2, hcz, hl⟩ := id hv
  have hm : Tryz.prog.follows .mixedOrders = true := by kernel_rfl
  have HM := Lib.hid hm
  clear hm
  go_enter Tryz.func9, Tryz.ntmps9
  go_wp2
  go_loopw [6] (fun i wr => ∃ k : Nat, k ≤ l.length + 12 ∧ i = .int .i64 k ∧ Go.RowKit.Below w.heap.size w wr) (fun i _ => l.length + 12 - (intOf i).toNat)
  case atStart => exact ⟨0, Nat.zero_le _, rfl, Below.refl _ _⟩
  case round =>
    obtain ⟨k, hk, rfl, hbr⟩ := hrel
    by_cases hlt : k < l.length
    · obtain ⟨p, hp⟩ : ∃ p, l[k]? = some p := ⟨_, List.getElem?_eq_getElem hlt⟩
      obtain ⟨ad, c', hvv, _, _, hp0, hp1⟩ := (hv.below (hbr.mono hB)).cells hp
      injection hvv with hA _ hC
      subst hA hC
      have hpp : (l ++ marksP 1 12)[k]? = some p := by rw [List.getElem?_append_left hlt, hp]
      obtain ⟨ag, hag, _, hg0⟩ := (hg.below (hbr.mono hB)).get (pcells_item _ k p hpp)
      injection hag with hag
      subst hag
      obtain ⟨ag, hag, _, hg1⟩ := (hg.below (hbr.mono hB)).get (pcells_qty _ k p hpp)
      injection hag with hag
      subst hag
      rw [addr0] at hg0 hg1
      have heq : ∀ w, (binOp .eql 38 (.agg #[encStr p.1, .int .i64 p.2]) (.agg #[encStr p.1, .int .i64 p.2])).run Tryz.prog w = .ok (.bool true) w := fun w => by rw [eql_part]; simp
      have HN := Lib.hid hp
      have HPP := Lib.hid hpp
      clear hp hpp
      have hd1 : decide (k < l.length) = true := decide_eq_true (by omega)
      have hd2 : decide (l.length ≤ k) = false := decide_eq_false (by omega)
      go_wp2
      go_quiet (fail)
      go_wp2
      go_roundw
      case rel => exact ⟨k + 1, by omega, by go_num, below_draws hbr _⟩
      case measure => simp [intOf]; omega
    · by_cases hlt2 : k < l.length + 12
      · have hpp : (l ++ marksP 1 12)[k]? = some (markP 1 (k - l.length)) := by rw [List.getElem?_append_right (by omega), marksP_get 1 12 _ (by omega)]
        obtain ⟨ag, hag, hgb, hg0⟩ := (hg.below (hbr.mono hB)).get (pcells_item _ k _ hpp)
        injection hag with hag
        subst hag
        obtain ⟨ag, hag, _, hg1⟩ := (hg.below (hbr.mono hB)).get (pcells_qty _ k _ hpp)
        injection hag with hag
        subst hag
        rw [addr0] at hg0 hg1
        have hgs : g < wr.heap.size := by have := hbr.size; show (⟨g, 0, none⟩ : Addr).block < _; omega
        have hq0 : ∀ n os, (grow (wr.drewN n) os).cell? ⟨g, k * 2, none⟩ = some (.string ⟨#[]⟩) := fun n os => cell_grown hgs hg0 n os
        have hq1 : ∀ n os, (grow (wr.drewN n) os).cell? ⟨g, k * 2 + 1, none⟩ = some (.int .i64 (8000024 + ((k : Int) - (l.length : Int)))) := fun n os => by
          rw [cell_grown hgs hg1 n os]
          simp only [markP]
          congr 2
          omega
        clear hg0 hg1
        have heq : ∀ w, (binOp .eql 38 (.agg #[.string ⟨#[]⟩, .int .i64 (8000024 + ((k : Int) - (l.length : Int)))]) (.agg #[.string ⟨#[]⟩, .int .i64 (8000024 + ((k : Int) - (l.length : Int)))])).run Tryz.prog w = .ok (.bool true) w := fun w => by
          have := eql_part ([], 8000024 + ((k : Int) - (l.length : Int))) ([], 8000024 + ((k : Int) - (l.length : Int))) w
          simpa using this
        have HPP := Lib.hid hpp
        clear hpp
        have hd1 : decide (k < l.length) = false := decide_eq_false (by omega)
        have hd2 : decide (l.length ≤ k) = true := decide_eq_true (by omega)
        have hle0 : 0 ≤ (k : Int) - (l.length : Int) := by omega
        go_wp2
        have hm := HM.out
        refine wp_region_quiet_grown (by assumption) (by kernel_rfl) ?_
        repeat (go_big_quiet_step ((go_at_call 20; exact markp_grown 1 ((k : Int) - (l.length : Int)) (8000024 + ((k : Int) - (l.length : Int))) _ _ _ (by omega) (by omega) (by omega) (by omega) (by omega))))
        refine wpQuiet_nil ?_
        intro _ hw'
        obtain ⟨⟨nq, osq⟩, hw''⟩ := hw'
        subst hw''
        clear hm
        have hbq := below_grow hbr hbr.size nq osq
        go_wp2
        go_roundw
        case rel => exact ⟨k + 1, by omega, by go_num, hbq⟩
        case measure => simp [intOf]; omega
      · obtain rfl : k = l.length + 12 := by omega
        go_wp2
        go_ret
        exact ⟨rfl, hbr⟩
end Go.Proofs.YtfppiigmibjbnaaGreat
