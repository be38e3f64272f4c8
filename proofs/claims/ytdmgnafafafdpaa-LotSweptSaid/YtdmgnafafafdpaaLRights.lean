/- The law LotRights: whatever two lots; the walk. Written by gen_lawr.py. -/
import Derived.Test.YtdmgnafafafdpaaLAwake2
import Derived.Deep.RegionHeld3
namespace Go.Proofs.Ytdmgnafafafdpaa
open Go.ChangeShapes Go.WideShapes Go.ChangeAt Go.RowKit
set_option linter.unusedVariables false

theorem Box6.below {W W' : World} {B n₀ : Nat} {x : Lt} (h : Box6 W B x) (hB : B < n₀) (hb : Below n₀ W W') : Box6 W' B x := (hb.block B hB).trans h
/-- Two boxes that hold two lots, behind a world. -/
def Held2 (w : World) (a b : Lt) (W : World) : Prop := Box6 W w.heap.size a ∧ Box6 W (w.heap.size + 1) b ∧ Below w.heap.size w W
theorem Held2.next {w W W' : World} {a b : Lt} (h : Held2 w a b W) (hb : Below W.heap.size W W') : Held2 w a b W' :=
  ⟨h.1.below h.1.lt hb, h.2.1.below h.2.1.lt hb, below_two h.2.2 hb⟩
theorem Held2.one {w W : World} {a b : Lt} (h : Held2 w a b W) : W.cell? ⟨w.heap.size, 0, none⟩ = some (.int .i64 a.id) ∧ W.cell? ⟨w.heap.size, 1, none⟩ = some (.string ⟨a.item.toArray⟩) ∧ W.cell? ⟨w.heap.size, 2, none⟩ = some (.int .i64 a.fr) ∧
    W.cell? ⟨w.heap.size, 3, none⟩ = some (.int .i64 a.un) ∧ W.cell? ⟨w.heap.size, 4, none⟩ = some (.int .i64 a.qty) ∧ W.cell? ⟨w.heap.size, 5, none⟩ = some (.bool a.arr) := h.1.cells
theorem Held2.two {w W : World} {a b : Lt} (h : Held2 w a b W) : W.cell? ⟨w.heap.size + 1, 0, none⟩ = some (.int .i64 b.id) ∧ W.cell? ⟨w.heap.size + 1, 1, none⟩ = some (.string ⟨b.item.toArray⟩) ∧ W.cell? ⟨w.heap.size + 1, 2, none⟩ = some (.int .i64 b.fr) ∧
    W.cell? ⟨w.heap.size + 1, 3, none⟩ = some (.int .i64 b.un) ∧ W.cell? ⟨w.heap.size + 1, 4, none⟩ = some (.int .i64 b.qty) ∧ W.cell? ⟨w.heap.size + 1, 5, none⟩ = some (.bool b.arr) := h.2.1.cells
abbrev agX (x : Lt) : Value := .agg #[.int .i64 x.id, .string ⟨x.item.toArray⟩, .int .i64 x.fr, .int .i64 x.un, .int .i64 x.qty, .bool x.arr]

set_option maxRecDepth 100000 in
set_option maxHeartbeats 4000000 in
theorem rights_any (a b : Lt) (w : World) : Calls Try.prog 3 #[aggL a, aggL b] w fun e w' => e = .returned (.bool true) ∧ Below w.heap.size w w' := by
  obtain ⟨r, hr⟩ : ∃ r, lrightB a = r := ⟨_, rfl⟩
  obtain ⟨c, hc⟩ : ∃ c, cmpL a b = c := ⟨_, rfl⟩
  have H1 : Hid (∀ W, Calls Try.prog 6 #[agX a] W fun e w' => e = .returned (.bool r) ∧ Below W.heap.size W w') := Lib.hid (fun W => by rw [← hr]; exact lright_any a W)
  have H2 : Hid (∀ W, Calls Try.prog 7 #[agX a] W fun e w' => e = .returned (.bool r) ∧ Below W.heap.size W w') := Lib.hid (fun W => by rw [← hr]; exact lrref_any a W)
  have H3 : Hid (∀ W, Calls Try.prog 8 #[agX a, agX b] W fun e w' => e = .returned (.int .i64 c) ∧ Below W.heap.size W w') := Lib.hid (fun W => by rw [← hc]; exact compare_any a b W)
  have H4 : Hid (∀ W, Calls Try.prog 9 #[agX a, agX b] W fun e w' => e = .returned (.int .i64 c) ∧ Below W.heap.size W w') := Lib.hid (fun W => by rw [← hc]; exact comparer_any a b W)
  clear hr hc
  go_enter Try.func3, Try.ntmps3
  go_wp2_with fail
  have hS : Held2 w a b ((w.alloc (.cells #[.int .i64 a.id, .string ⟨a.item.toArray⟩, .int .i64 a.fr, .int .i64 a.un, .int .i64 a.qty, .bool a.arr] 25)).alloc (.cells #[.int .i64 b.id, .string ⟨b.item.toArray⟩, .int .i64 b.fr, .int .i64 b.un, .int .i64 b.qty, .bool b.arr] 25)).drew := by
    have h1 := Box6.new w a
    have h2 := Box6.new (w.alloc (.cells #[.int .i64 a.id, .string ⟨a.item.toArray⟩, .int .i64 a.fr, .int .i64 a.un, .int .i64 a.qty, .bool a.arr] 25)) b
    have h3 := (below_alloc3 w (.cells #[.int .i64 a.id, .string ⟨a.item.toArray⟩, .int .i64 a.fr, .int .i64 a.un, .int .i64 a.qty, .bool a.arr] 25) (.cells #[.int .i64 b.id, .string ⟨b.item.toArray⟩, .int .i64 b.fr, .int .i64 b.un, .int .i64 b.qty, .bool b.arr] 25)).drew
    rw [World.size_alloc] at h2
    exact ⟨h1.below h1.lt (below_alloc1 _ _).drew, h2, h3⟩
  refine wp_region_held_drew (S := Held2 w a b) (by kernel_rfl) hS (fun hS => ?_)
  refine wpAnyH_take (i := 0) (v := (agX a)) rfl (by kernel_rfl) (by kernel_rfl) (by kernel_rfl) (fun _ _ _ h => h) (Or.inl ⟨by kernel_rfl, fun w' hS' => by obtain ⟨d0, d1, d2, d3, d4, d5⟩ := hS'.one; go_simp⟩) hS ?_
  refine wpAnyH_take (i := 2) (v := (agX a)) rfl (by kernel_rfl) (by kernel_rfl) (by kernel_rfl) (fun _ _ _ h => h) (Or.inl ⟨by kernel_rfl, fun w' hS' => by obtain ⟨d0, d1, d2, d3, d4, d5⟩ := hS'.one; go_simp⟩) hS ?_
  refine wpAnyH_ready (rs := [1]) (by kernel_rfl) (by simp) ?_
  refine AllReadyH.cons rfl (fun K hK => ?_) AllReadyH.nil
  go_simp
  refine (H1.out _).mono ?_
  rintro e w1 ⟨rfl, hbx⟩
  refine hK.out _ _ (hS.next hbx) (fun hS => ?_)
  clear hK K hbx
  refine wpAnyH_ready (rs := [3]) (by kernel_rfl) (by simp) ?_
  refine AllReadyH.cons rfl (fun K hK => ?_) AllReadyH.nil
  go_simp
  refine (H2.out _).mono ?_
  rintro e w2 ⟨rfl, hbx⟩
  refine hK.out _ _ (hS.next hbx) (fun hS => ?_)
  clear hK K hbx
  refine wpAnyH_take (i := 4) (v := ((.bool true))) rfl (by kernel_rfl) (by kernel_rfl) (by kernel_rfl) (fun _ _ _ h => h) (Or.inl ⟨by kernel_rfl, fun w' hS' => by go_simp⟩) hS ?_
  refine wpAnyH_take (i := 5) (v := ((.bool true))) rfl (by kernel_rfl) (by kernel_rfl) (by kernel_rfl) (fun _ _ _ h => h) (Or.inl ⟨by kernel_rfl, fun w' hS' => by go_simp⟩) hS ?_
  refine wpAnyH_take (i := 6) (v := (agX a)) rfl (by kernel_rfl) (by kernel_rfl) (by kernel_rfl) (fun _ _ _ h => h) (Or.inl ⟨by kernel_rfl, fun w' hS' => by obtain ⟨d0, d1, d2, d3, d4, d5⟩ := hS'.one; go_simp⟩) hS ?_
  refine wpAnyH_take (i := 7) (v := (agX b)) rfl (by kernel_rfl) (by kernel_rfl) (by kernel_rfl) (fun _ _ _ h => h) (Or.inl ⟨by kernel_rfl, fun w' hS' => by obtain ⟨d0, d1, d2, d3, d4, d5⟩ := hS'.two; go_simp⟩) hS ?_
  refine wpAnyH_take (i := 9) (v := (agX a)) rfl (by kernel_rfl) (by kernel_rfl) (by kernel_rfl) (fun _ _ _ h => h) (Or.inl ⟨by kernel_rfl, fun w' hS' => by obtain ⟨d0, d1, d2, d3, d4, d5⟩ := hS'.one; go_simp⟩) hS ?_
  refine wpAnyH_take (i := 10) (v := (agX b)) rfl (by kernel_rfl) (by kernel_rfl) (by kernel_rfl) (fun _ _ _ h => h) (Or.inl ⟨by kernel_rfl, fun w' hS' => by obtain ⟨d0, d1, d2, d3, d4, d5⟩ := hS'.two; go_simp⟩) hS ?_
  refine wpAnyH_ready (rs := [8]) (by kernel_rfl) (by simp) ?_
  refine AllReadyH.cons rfl (fun K hK => ?_) AllReadyH.nil
  go_simp
  refine (H3.out _).mono ?_
  rintro e w3 ⟨rfl, hbx⟩
  refine hK.out _ _ (hS.next hbx) (fun hS => ?_)
  clear hK K hbx
  refine wpAnyH_ready (rs := [11]) (by kernel_rfl) (by simp) ?_
  refine AllReadyH.cons rfl (fun K hK => ?_) AllReadyH.nil
  go_simp
  refine (H4.out _).mono ?_
  rintro e w4 ⟨rfl, hbx⟩
  refine hK.out _ _ (hS.next hbx) (fun hS => ?_)
  clear hK K hbx
  refine wpAnyH_take (i := 12) (v := ((.bool true))) rfl (by kernel_rfl) (by kernel_rfl) (by kernel_rfl) (fun _ _ _ h => h) (Or.inl ⟨by kernel_rfl, fun w' hS' => by go_simp⟩) hS ?_
  refine wpAnyH_take (i := 13) (v := ((.bool true))) rfl (by kernel_rfl) (by kernel_rfl) (by kernel_rfl) (fun _ _ _ h => h) (Or.inl ⟨by kernel_rfl, fun w' hS' => by go_simp⟩) hS ?_
  refine wpAnyH_take (i := 14) (v := ((.bool true))) rfl (by kernel_rfl) (by kernel_rfl) (by kernel_rfl) (fun _ _ _ h => h) (Or.inl ⟨by kernel_rfl, fun w' hS' => by go_simp⟩) hS ?_
  refine wpAnyH_ready (rs := [15]) (by kernel_rfl) (by simp) ?_
  refine AllReadyH.cons rfl (fun K hK => ?_) AllReadyH.nil
  go_simp
  refine (awake_any _).mono ?_
  rintro e w5 ⟨rfl, hbx⟩
  refine hK.out _ _ (hS.next hbx) (fun hS => ?_)
  clear hK K hbx
  refine wpAnyH_take (i := 16) (v := ((.bool true))) rfl (by kernel_rfl) (by kernel_rfl) (by kernel_rfl) (fun _ _ _ h => h) (Or.inl ⟨by kernel_rfl, fun w' hS' => by go_simp⟩) hS ?_
  refine wpAnyH_take (i := 17) (v := ((.bool true))) rfl (by kernel_rfl) (by kernel_rfl) (by kernel_rfl) (fun _ _ _ h => h) (Or.inl ⟨by kernel_rfl, fun w' hS' => by go_simp⟩) hS ?_
  refine wpAnyH_done (by kernel_rfl) ?_ _
  go_simp
  go_wp2_with fail
  go_ret
  exact ⟨rfl, hS.2.2⟩
end Go.Proofs.Ytdmgnafafafdpaa
