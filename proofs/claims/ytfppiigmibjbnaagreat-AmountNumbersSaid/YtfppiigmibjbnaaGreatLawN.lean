/- The law AmountNumbers walks through. -/
import Derived.Test.YtfppiigmibjbnaaGreatWalks
import Derived.Deep.DeepCutAuto
import Derived.Deep.RegionHeld
namespace Go.Proofs.YtfppiigmibjbnaaGreat
open Go.ChangeShapes Go.WideShapes Go.ChangeAt Go.RowKit Go.Maps
set_option linter.unusedVariables false

def listC : Array Value := #[.int .i64 (-9223372036854775808), .int .i64 (-1125899906842624), .int .i64 (-1), .int .i64 0, .int .i64 1, .int .i64 2, .int .i64 3, .int .i64 33554432, .int .i64 33554433,
  .int .i64 375299968947541, .int .i64 375299968947542, .int .i64 1125899906842623, .int .i64 1125899906842624, .int .i64 1125899906842625, .int .i64 4611686018427387904, .int .i64 9223372036854775807]
theorem list_at (i : Nat) (h : i < 16) : ∃ x : Int, listC[i]? = some (.int .i64 x) ∧ -9223372036854775808 ≤ x ∧ x ≤ 9223372036854775807 := by
  match i, h with
  | 0, _ => exact ⟨_, rfl, by omega, by omega⟩
  | 1, _ => exact ⟨_, rfl, by omega, by omega⟩
  | 2, _ => exact ⟨_, rfl, by omega, by omega⟩
  | 3, _ => exact ⟨_, rfl, by omega, by omega⟩
  | 4, _ => exact ⟨_, rfl, by omega, by omega⟩
  | 5, _ => exact ⟨_, rfl, by omega, by omega⟩
  | 6, _ => exact ⟨_, rfl, by omega, by omega⟩
  | 7, _ => exact ⟨_, rfl, by omega, by omega⟩
  | 8, _ => exact ⟨_, rfl, by omega, by omega⟩
  | 9, _ => exact ⟨_, rfl, by omega, by omega⟩
  | 10, _ => exact ⟨_, rfl, by omega, by omega⟩
  | 11, _ => exact ⟨_, rfl, by omega, by omega⟩
  | 12, _ => exact ⟨_, rfl, by omega, by omega⟩
  | 13, _ => exact ⟨_, rfl, by omega, by omega⟩
  | 14, _ => exact ⟨_, rfl, by omega, by omega⟩
  | 15, _ => exact ⟨_, rfl, by omega, by omega⟩
  | i + 16, h => exact absurd h (by omega)
theorem cells_at (w : World) (i : Nat) (h : i < 16) : ∃ x : Int, (w.alloc (.cells listC 2)).cell? ⟨w.heap.size, i, none⟩ = some (.int .i64 x) ∧ -9223372036854775808 ≤ x ∧ x ≤ 9223372036854775807 := by
  obtain ⟨x, h1, h2, h3⟩ := list_at i h
  exact ⟨x, by rw [cell_of_row _ _ _ _ _ _ (heap_alloc_new w _)]; exact h1, h2, h3⟩
/-- Three numbers written out. -/
theorem three_sl (w : World) (x y : Int) : ISl (w.alloc (.cells #[.int .i64 x, .int .i64 y, .int .i64 1] 2)) (w.alloc (.cells #[.int .i64 x, .int .i64 y, .int .i64 1] 2)).heap.size (.slice (some ⟨w.heap.size, 0, none⟩) 3 3) [x, y, 1] := by
  have h := World.ownsRow_lit (base := w.heap.size) (e := 2) (size := 1) w #[.int .i64 x, .int .i64 y, .int .i64 1] 3 (Nat.le_refl _) (by simp [maxLen]) rfl
  exact ⟨_, 3, rfl, Nat.le_refl _, by simp [maxLen], fun h => (by cases h), Lies.own h⟩
theorem one_sl (w : World) (x : Int) : PSl (w.alloc (.cells #[.string ⟨#[65]⟩, .int .i64 x] 38)) (w.alloc (.cells #[.string ⟨#[65]⟩, .int .i64 x] 38)).heap.size (.slice (some ⟨w.heap.size, 0, none⟩) 1 1) [([65], x)] := by
  have h := World.ownsRow_lit (base := w.heap.size) (e := 38) (size := 2) w #[.string ⟨#[65]⟩, .int .i64 x] 1 (Nat.le_refl _) (by simp [maxLen]) rfl
  exact ⟨_, 1, rfl, Nat.le_refl _, by simp [maxLen], fun h => (by cases h), Lies.own h⟩
theorem two_sl (w : World) (y : Int) : PSl (w.alloc (.cells #[.string ⟨#[65]⟩, .int .i64 y, .string ⟨#[]⟩, .int .i64 0] 38)) (w.alloc (.cells #[.string ⟨#[65]⟩, .int .i64 y, .string ⟨#[]⟩, .int .i64 0] 38)).heap.size (.slice (some ⟨w.heap.size, 0, none⟩) 2 2) [([65], y), ([], 0)] := by
  have h := World.ownsRow_lit (base := w.heap.size) (e := 38) (size := 2) w #[.string ⟨#[65]⟩, .int .i64 y, .string ⟨#[]⟩, .int .i64 0] 2 (Nat.le_refl _) (by simp [maxLen]) rfl
  exact ⟨_, 2, rfl, Nat.le_refl _, by simp [maxLen], fun h => (by cases h), Lies.own h⟩
theorem nil_sl (w : World) (B : Nat) : PSl w B (.slice none 0 0) [] := ⟨none, 0, rfl, Nat.le_refl _, by simp [maxLen], fun _ => rfl, Lies.none⟩
theorem psl_more {w : World} {B B' : Nat} {v : Value} {l : List Pt} (h : PSl w B v l) (hB : B ≤ B') : PSl w B' v l := by
  obtain ⟨A, c, h1, h2, h3, hz, h4⟩ := h
  exact ⟨A, c, h1, h2, h3, hz, h4.mono hB⟩
def oneO (x : Int) : Obj := .cells #[.string ⟨#[65]⟩, .int .i64 x] 38
def twoO (y : Int) : Obj := .cells #[.string ⟨#[65]⟩, .int .i64 y, .string ⟨#[]⟩, .int .i64 0] 38
theorem join_ab (w : World) (x y : Int) :
    PSl ((w.alloc (.cells #[.string ⟨#[65]⟩, .int .i64 x] 38)).alloc (.cells #[.string ⟨#[65]⟩, .int .i64 y, .string ⟨#[]⟩, .int .i64 0] 38)) ((w.alloc (.cells #[.string ⟨#[65]⟩, .int .i64 x] 38)).alloc (.cells #[.string ⟨#[65]⟩, .int .i64 y, .string ⟨#[]⟩, .int .i64 0] 38)).heap.size (.slice (some ⟨w.heap.size, 0, none⟩) 1 1) [([65], x)] ∧
    PSl ((w.alloc (.cells #[.string ⟨#[65]⟩, .int .i64 x] 38)).alloc (.cells #[.string ⟨#[65]⟩, .int .i64 y, .string ⟨#[]⟩, .int .i64 0] 38)) ((w.alloc (.cells #[.string ⟨#[65]⟩, .int .i64 x] 38)).alloc (.cells #[.string ⟨#[65]⟩, .int .i64 y, .string ⟨#[]⟩, .int .i64 0] 38)).heap.size (.slice none 0 0) [] ∧
    PSl ((w.alloc (.cells #[.string ⟨#[65]⟩, .int .i64 x] 38)).alloc (.cells #[.string ⟨#[65]⟩, .int .i64 y, .string ⟨#[]⟩, .int .i64 0] 38)) ((w.alloc (.cells #[.string ⟨#[65]⟩, .int .i64 x] 38)).alloc (.cells #[.string ⟨#[65]⟩, .int .i64 y, .string ⟨#[]⟩, .int .i64 0] 38)).heap.size (.slice (some ⟨w.heap.size + 1, 0, none⟩) 2 2) [([65], y), ([], 0)] := by
  refine ⟨?_, nil_sl _ _, ?_⟩
  · exact psl_more ((one_sl w x).below ((Below.refl _ _).alloc (Nat.le_refl _) _)) (by simp)
  · have h := two_sl (w.alloc (.cells #[.string ⟨#[65]⟩, .int .i64 x] 38)) y
    have e : (w.alloc (.cells #[.string ⟨#[65]⟩, .int .i64 x] 38)).heap.size = w.heap.size + 1 := by simp
    rw [e] at h
    exact h
theorem join_ba (w : World) (x y : Int) :
    PSl ((w.alloc (.cells #[.string ⟨#[65]⟩, .int .i64 y, .string ⟨#[]⟩, .int .i64 0] 38)).alloc (.cells #[.string ⟨#[65]⟩, .int .i64 x] 38)) ((w.alloc (.cells #[.string ⟨#[65]⟩, .int .i64 y, .string ⟨#[]⟩, .int .i64 0] 38)).alloc (.cells #[.string ⟨#[65]⟩, .int .i64 x] 38)).heap.size (.slice (some ⟨w.heap.size + 1, 0, none⟩) 1 1) [([65], x)] ∧
    PSl ((w.alloc (.cells #[.string ⟨#[65]⟩, .int .i64 y, .string ⟨#[]⟩, .int .i64 0] 38)).alloc (.cells #[.string ⟨#[65]⟩, .int .i64 x] 38)) ((w.alloc (.cells #[.string ⟨#[65]⟩, .int .i64 y, .string ⟨#[]⟩, .int .i64 0] 38)).alloc (.cells #[.string ⟨#[65]⟩, .int .i64 x] 38)).heap.size (.slice none 0 0) [] ∧
    PSl ((w.alloc (.cells #[.string ⟨#[65]⟩, .int .i64 y, .string ⟨#[]⟩, .int .i64 0] 38)).alloc (.cells #[.string ⟨#[65]⟩, .int .i64 x] 38)) ((w.alloc (.cells #[.string ⟨#[65]⟩, .int .i64 y, .string ⟨#[]⟩, .int .i64 0] 38)).alloc (.cells #[.string ⟨#[65]⟩, .int .i64 x] 38)).heap.size (.slice (some ⟨w.heap.size, 0, none⟩) 2 2) [([65], y), ([], 0)] := by
  refine ⟨?_, nil_sl _ _, ?_⟩
  · have h := one_sl (w.alloc (.cells #[.string ⟨#[65]⟩, .int .i64 y, .string ⟨#[]⟩, .int .i64 0] 38)) x
    have e : (w.alloc (.cells #[.string ⟨#[65]⟩, .int .i64 y, .string ⟨#[]⟩, .int .i64 0] 38)).heap.size = w.heap.size + 1 := by simp
    rw [e] at h
    exact h
  · exact psl_more ((two_sl w y).below ((Below.refl _ _).alloc (Nat.le_refl _) _)) (by simp)
theorem sized_xy (x y : Int) (h0 : -9223372036854775808 ≤ x) (h1 : x ≤ 9223372036854775807) (h2 : -9223372036854775808 ≤ y) (h3 : y ≤ 9223372036854775807) : Sized ([(([65] : List UInt8), x)] ++ ([] ++ [([65], y), ([], 0)])) := by
  intro p hp
  simp at hp
  rcases hp with rfl | rfl | rfl
  · exact ⟨by simp [maxLen], h0, h1⟩
  · exact ⟨by simp [maxLen], h2, h3⟩
  · exact ⟨by simp [maxLen], by simp, by simp⟩

theorem times_lit1 (w : World) : Calls Tryz.prog 16 #[.int .i64 375299968947541, .int .i64 3] w fun e w' => e = .returned (.tuple #[.int .i64 1125899906842623, .bool true]) ∧ w = w' := by
  have h := times_any 375299968947541 3 w
  rwa [show timesV 375299968947541 3 = 1125899906842623 by decide, show timesB 375299968947541 3 = true by decide] at h
theorem times_lit2 (w : World) : Calls Tryz.prog 16 #[.int .i64 375299968947542, .int .i64 3] w fun e w' => e = .returned (.tuple #[.int .i64 0, .bool false]) ∧ w = w' := by
  have h := times_any 375299968947542 3 w
  rwa [show timesV 375299968947542 3 = 0 by decide, show timesB 375299968947542 3 = false by decide] at h
theorem sum_lit (w : World) : Calls Tryz.prog 17 #[.slice none 0 0] w fun e w' => e = .returned (.tuple #[.int .i64 0, .bool true]) ∧ w = w' :=
  sum_any (.slice none 0 0) [] w.heap.size w ⟨none, 0, rfl, Nat.le_refl _, by simp [maxLen], fun _ => rfl, Lies.none⟩ (by simp)
theorem join_lit (w : World) : Calls Tryz.prog 8 #[.slice none 0 0] w fun e w' => (∃ A c, e = .returned (.tuple #[.slice A 0 c, .bool true])) ∧ Below w.heap.size w w' := by
  refine (join_any (H := Unit) none 0 [] w ⟨[], rfl, Lies.none, fun i v l h => by simp at h⟩ (by intro p hp; simp at hp) (by simp) (by simp)).mono fun e w' h => ?_
  obtain ⟨hb, ⟨_, v, out, rfl, _, hl, ho⟩ | ⟨hno, _⟩⟩ := h
  · have h0 : out.length = 0 := by simpa using hl
    obtain ⟨A, c, rfl, _⟩ := own_form ho
    rw [h0]
    exact ⟨⟨A, c, rfl⟩, hb⟩
  · exact absurd joinOk_nil hno

set_option maxRecDepth 100000 in
set_option maxHeartbeats 8000000 in
theorem numbers_walk (w : World) : Calls Tryz.prog 4 #[] w fun e w' => e = .returned (.bool true) ∧ Below w.heap.size w w' := by
  have hcs := cells_at w
  have hb0 : Below w.heap.size w (w.alloc (.cells listC 2)) := (Below.refl _ _).alloc (Nat.le_refl _) _
  have hsz : w.heap.size < (w.alloc (.cells listC 2)).heap.size := by simp
  unfold listC at hcs hb0 hsz
  have HCS := Lib.hid hcs
  clear hcs
  go_enter Tryz.func4, Tryz.ntmps4
  go_wp2_with fail
  generalize w.alloc (.cells #[.int .i64 (-9223372036854775808), .int .i64 (-1125899906842624), .int .i64 (-1), .int .i64 0, .int .i64 1, .int .i64 2, .int .i64 3, .int .i64 33554432, .int .i64 33554433,
    .int .i64 375299968947541, .int .i64 375299968947542, .int .i64 1125899906842623, .int .i64 1125899906842624, .int .i64 1125899906842625, .int .i64 4611686018427387904, .int .i64 9223372036854775807] 2) = w0 at HCS hb0 hsz ⊢
  go_loopw [3] (fun i wr => ∃ a : Nat, a ≤ 16 ∧ i = .int .i64 a ∧ Below w0.heap.size w0 wr) (fun i _ => 16 - (intOf i).toNat)
  case atStart => exact ⟨0, by omega, rfl, Below.refl _ _⟩
  case round =>
    obtain ⟨a, ha, rfl, hbr⟩ := hrel
    by_cases halt : a < 16
    · obtain ⟨wo, rfl⟩ : ∃ wo : World, wo = wr := ⟨_, rfl⟩
      obtain ⟨x, hx, hx0, hx1⟩ := HCS.out a halt
      have HX := Lib.hid hx
      have hpa : (⟨w.heap.size, a, none⟩ : Addr).block < w0.heap.size := hsz
      clear hx
      go_wp2_with fail
      go_loopw [4] (fun i wr => ∃ b : Nat, b ≤ 16 ∧ i = .int .i64 b ∧ Below w0.heap.size w0 wr) (fun i _ => 16 - (intOf i).toNat)
      case atStart => exact ⟨0, by omega, rfl, hbr⟩
      case round =>
        clear hbr
        obtain ⟨b, hb, rfl, hbr⟩ := hrel
        by_cases hblt : b < 16
        · obtain ⟨wp, rfl⟩ : ∃ wp : World, wp = wr := ⟨_, rfl⟩
          obtain ⟨y, hy, hy0, hy1⟩ := HCS.out b hblt
          have HY := Lib.hid hy
          have hpb : (⟨w.heap.size, b, none⟩ : Addr).block < w0.heap.size := hsz
          clear hy
          go_upto_region 9 with (fail)
          go_cut [77] (fun v wx => v = .bool false ∧ Below w0.heap.size w0 wx)
          case first =>
            have hS : (fun w' => Below w0.heap.size w0 w') wp.drew := hbr.drew
            refine wp_region_held_drew (S := fun w' => Below w0.heap.size w0 w') (by kernel_rfl) hS (fun hS => ?_)
            refine wpAnyH_take (i := 0) (v := (.slice (some ⟨w.heap.size, 0, none⟩) 16 16)) rfl (by kernel_rfl) (by kernel_rfl) (by kernel_rfl) (fun _ _ _ h => h) (Or.inl ⟨by kernel_rfl, fun w' hS' => by go_simp⟩) hS ?_
            refine wpAnyH_take (i := 1) (v := (.int .i64 (a : Int))) rfl (by kernel_rfl) (by kernel_rfl) (by kernel_rfl) (fun _ _ _ h => h) (Or.inl ⟨by kernel_rfl, fun w' hS' => by go_simp⟩) hS ?_
            refine wpAnyH_take (i := 2) (v := (.pointer (some ⟨w.heap.size, a, none⟩))) rfl (by kernel_rfl) (by kernel_rfl) (by kernel_rfl) (fun _ _ _ h => h) (Or.inl ⟨by kernel_rfl, fun w' hS' => by go_simp⟩) hS ?_
            refine wpAnyH_take (i := 3) (v := (.int .i64 x)) rfl (by kernel_rfl) (by kernel_rfl) (by kernel_rfl) (fun _ _ _ h => h) (Or.inl ⟨by kernel_rfl, fun w' hS' => by have hc := (hS'.cell hpa).trans HX.out; go_simp⟩) hS ?_
            refine wpAnyH_take (i := 4) (v := (.slice (some ⟨w.heap.size, 0, none⟩) 16 16)) rfl (by kernel_rfl) (by kernel_rfl) (by kernel_rfl) (fun _ _ _ h => h) (Or.inl ⟨by kernel_rfl, fun w' hS' => by go_simp⟩) hS ?_
            refine wpAnyH_take (i := 5) (v := (.int .i64 (b : Int))) rfl (by kernel_rfl) (by kernel_rfl) (by kernel_rfl) (fun _ _ _ h => h) (Or.inl ⟨by kernel_rfl, fun w' hS' => by go_simp⟩) hS ?_
            refine wpAnyH_take (i := 6) (v := (.pointer (some ⟨w.heap.size, b, none⟩))) rfl (by kernel_rfl) (by kernel_rfl) (by kernel_rfl) (fun _ _ _ h => h) (Or.inl ⟨by kernel_rfl, fun w' hS' => by go_simp⟩) hS ?_
            refine wpAnyH_take (i := 7) (v := (.int .i64 y)) rfl (by kernel_rfl) (by kernel_rfl) (by kernel_rfl) (fun _ _ _ h => h) (Or.inl ⟨by kernel_rfl, fun w' hS' => by have hc := (hS'.cell hpb).trans HY.out; go_simp⟩) hS ?_
            refine wpAnyH_ready (rs := [8]) (by kernel_rfl) (by simp) ?_
            refine AllReadyH.cons rfl (fun K hK => ?_) AllReadyH.nil
            go_simp
            refine (two_walk x y _).mono ?_
            rintro e w1 ⟨rfl, hb1⟩
            refine hK.out _ _ (hS.trans (hb1.mono hS.size)) (fun hS => ?_)
            clear hK K
            clear hb1
            refine wpAnyH_take (i := 9) (v := (.bool false)) rfl (by kernel_rfl) (by kernel_rfl) (by kernel_rfl) (fun _ _ _ h => h) (Or.inl ⟨by kernel_rfl, fun w' hS' => by go_simp⟩) hS ?_
            refine wpAnyH_take (i := 10) (v := (.bool false)) rfl (by kernel_rfl) (by kernel_rfl) (by kernel_rfl) (fun _ _ _ h => h) (Or.inl ⟨by kernel_rfl, fun w' hS' => by go_simp⟩) hS ?_
            refine wpAnyH_take (i := 11) (v := (.slice (some ⟨w.heap.size, 0, none⟩) 16 16)) rfl (by kernel_rfl) (by kernel_rfl) (by kernel_rfl) (fun _ _ _ h => h) (Or.inl ⟨by kernel_rfl, fun w' hS' => by go_simp⟩) hS ?_
            refine wpAnyH_take (i := 12) (v := (.int .i64 (a : Int))) rfl (by kernel_rfl) (by kernel_rfl) (by kernel_rfl) (fun _ _ _ h => h) (Or.inl ⟨by kernel_rfl, fun w' hS' => by go_simp⟩) hS ?_
            refine wpAnyH_take (i := 13) (v := (.pointer (some ⟨w.heap.size, a, none⟩))) rfl (by kernel_rfl) (by kernel_rfl) (by kernel_rfl) (fun _ _ _ h => h) (Or.inl ⟨by kernel_rfl, fun w' hS' => by go_simp⟩) hS ?_
            refine wpAnyH_take (i := 14) (v := (.int .i64 x)) rfl (by kernel_rfl) (by kernel_rfl) (by kernel_rfl) (fun _ _ _ h => h) (Or.inl ⟨by kernel_rfl, fun w' hS' => by have hc := (hS'.cell hpa).trans HX.out; go_simp⟩) hS ?_
            refine wpAnyH_take (i := 15) (v := (.slice (some ⟨w.heap.size, 0, none⟩) 16 16)) rfl (by kernel_rfl) (by kernel_rfl) (by kernel_rfl) (fun _ _ _ h => h) (Or.inl ⟨by kernel_rfl, fun w' hS' => by go_simp⟩) hS ?_
            refine wpAnyH_take (i := 16) (v := (.int .i64 (b : Int))) rfl (by kernel_rfl) (by kernel_rfl) (by kernel_rfl) (fun _ _ _ h => h) (Or.inl ⟨by kernel_rfl, fun w' hS' => by go_simp⟩) hS ?_
            refine wpAnyH_take (i := 17) (v := (.pointer (some ⟨w.heap.size, b, none⟩))) rfl (by kernel_rfl) (by kernel_rfl) (by kernel_rfl) (fun _ _ _ h => h) (Or.inl ⟨by kernel_rfl, fun w' hS' => by go_simp⟩) hS ?_
            refine wpAnyH_take (i := 18) (v := (.int .i64 y)) rfl (by kernel_rfl) (by kernel_rfl) (by kernel_rfl) (fun _ _ _ h => h) (Or.inl ⟨by kernel_rfl, fun w' hS' => by have hc := (hS'.cell hpb).trans HY.out; go_simp⟩) hS ?_
            refine wpAnyH_ready (rs := [19]) (by kernel_rfl) (by simp) ?_
            refine AllReadyH.cons rfl (fun K hK => ?_) AllReadyH.nil
            go_simp
            refine hK.out _ _ (hS.alloc hS.size _) (fun hS => ?_)
            clear hK K
            have hI := Lib.hid (three_sl w1 x y)
            refine wpAnyH_ready (rs := [20]) (by kernel_rfl) (by simp) ?_
            refine AllReadyH.cons rfl (fun K hK => ?_) AllReadyH.nil
            go_simp
            refine (sums_walk _ _ _ hI.out).mono ?_
            rintro e w2 ⟨rfl, hb2⟩
            refine hK.out _ _ (hS.trans (hb2.mono hS.size)) (fun hS => ?_)
            clear hK K
            clear hb2 hI
            refine wpAnyH_take (i := 21) (v := (.bool false)) rfl (by kernel_rfl) (by kernel_rfl) (by kernel_rfl) (fun _ _ _ h => h) (Or.inl ⟨by kernel_rfl, fun w' hS' => by go_simp⟩) hS ?_
            refine wpAnyH_take (i := 22) (v := (.bool false)) rfl (by kernel_rfl) (by kernel_rfl) (by kernel_rfl) (fun _ _ _ h => h) (Or.inl ⟨by kernel_rfl, fun w' hS' => by go_simp⟩) hS ?_
            refine wpAnyH_take (i := 23) (v := (.bool false)) rfl (by kernel_rfl) (by kernel_rfl) (by kernel_rfl) (fun _ _ _ h => h) (Or.inl ⟨by kernel_rfl, fun w' hS' => by go_simp⟩) hS ?_
            refine wpAnyH_take (i := 24) (v := (.slice (some ⟨w.heap.size, 0, none⟩) 16 16)) rfl (by kernel_rfl) (by kernel_rfl) (by kernel_rfl) (fun _ _ _ h => h) (Or.inl ⟨by kernel_rfl, fun w' hS' => by go_simp⟩) hS ?_
            refine wpAnyH_take (i := 25) (v := (.int .i64 (a : Int))) rfl (by kernel_rfl) (by kernel_rfl) (by kernel_rfl) (fun _ _ _ h => h) (Or.inl ⟨by kernel_rfl, fun w' hS' => by go_simp⟩) hS ?_
            refine wpAnyH_take (i := 26) (v := (.pointer (some ⟨w.heap.size, a, none⟩))) rfl (by kernel_rfl) (by kernel_rfl) (by kernel_rfl) (fun _ _ _ h => h) (Or.inl ⟨by kernel_rfl, fun w' hS' => by go_simp⟩) hS ?_
            refine wpAnyH_take (i := 27) (v := (.int .i64 x)) rfl (by kernel_rfl) (by kernel_rfl) (by kernel_rfl) (fun _ _ _ h => h) (Or.inl ⟨by kernel_rfl, fun w' hS' => by have hc := (hS'.cell hpa).trans HX.out; go_simp⟩) hS ?_
            refine wpAnyH_take (i := 28) (v := (.agg #[.string ⟨#[65]⟩, .int .i64 x])) rfl (by kernel_rfl) (by kernel_rfl) (by kernel_rfl) (fun _ _ _ h => h) (Or.inl ⟨by kernel_rfl, fun w' hS' => by go_simp⟩) hS ?_
            refine wpAnyH_take (i := 30) (v := (.slice (some ⟨w.heap.size, 0, none⟩) 16 16)) rfl (by kernel_rfl) (by kernel_rfl) (by kernel_rfl) (fun _ _ _ h => h) (Or.inl ⟨by kernel_rfl, fun w' hS' => by go_simp⟩) hS ?_
            refine wpAnyH_take (i := 31) (v := (.int .i64 (b : Int))) rfl (by kernel_rfl) (by kernel_rfl) (by kernel_rfl) (fun _ _ _ h => h) (Or.inl ⟨by kernel_rfl, fun w' hS' => by go_simp⟩) hS ?_
            refine wpAnyH_take (i := 32) (v := (.pointer (some ⟨w.heap.size, b, none⟩))) rfl (by kernel_rfl) (by kernel_rfl) (by kernel_rfl) (fun _ _ _ h => h) (Or.inl ⟨by kernel_rfl, fun w' hS' => by go_simp⟩) hS ?_
            refine wpAnyH_take (i := 33) (v := (.int .i64 y)) rfl (by kernel_rfl) (by kernel_rfl) (by kernel_rfl) (fun _ _ _ h => h) (Or.inl ⟨by kernel_rfl, fun w' hS' => by have hc := (hS'.cell hpb).trans HY.out; go_simp⟩) hS ?_
            refine wpAnyH_take (i := 34) (v := (.agg #[.string ⟨#[65]⟩, .int .i64 y])) rfl (by kernel_rfl) (by kernel_rfl) (by kernel_rfl) (fun _ _ _ h => h) (Or.inl ⟨by kernel_rfl, fun w' hS' => by go_simp⟩) hS ?_
            refine wpAnyH_take (i := 35) (v := (.agg #[.string ⟨#[]⟩, .int .i64 0])) rfl (by kernel_rfl) (by kernel_rfl) (by kernel_rfl) (fun _ _ _ h => h) (Or.inl ⟨by kernel_rfl, fun w' hS' => by go_simp⟩) hS ?_
            refine wpAnyH_ready (rs := [29, 36]) (by kernel_rfl) (by simp) ?_
            refine AllReadyH.cons rfl (fun K hK => ?_) (AllReadyH.cons rfl (fun K hK => ?_) AllReadyH.nil)
            · go_simp
              refine hK.out _ _ (hS.alloc hS.size _) (fun hS => ?_)
              clear hK K
              refine wpAnyH_ready (rs := [36]) (by kernel_rfl) (by simp) ?_
              refine AllReadyH.cons rfl (fun K hK => ?_) AllReadyH.nil
              go_simp
              refine hK.out _ _ (hS.alloc hS.size _) (fun hS => ?_)
              clear hK K
              have hJ := Lib.hid (join_ab w2 x y)
              refine wpAnyH_ready (rs := [37]) (by kernel_rfl) (by simp) ?_
              refine AllReadyH.cons rfl (fun K hK => ?_) AllReadyH.nil
              go_simp
              refine (joins_any (some ⟨w2.heap.size, 0, none⟩) none (some ⟨w2.heap.size + 1, 0, none⟩) 1 0 2 [([65], x)] [] [([65], y), ([], 0)] _ hJ.out.1 hJ.out.2.1 hJ.out.2.2 (sized_xy x y hx0 hx1 hy0 hy1) (by simp) (by simp) (by simp)).mono ?_
              rintro e w3 ⟨rfl, hb3⟩
              refine hK.out _ _ (hS.trans (hb3.mono hS.size)) (fun hS => ?_)
              clear hK K
              refine wpAnyH_take (i := 38) (v := (.bool false)) rfl (by kernel_rfl) (by kernel_rfl) (by kernel_rfl) (fun _ _ _ h => h) (Or.inl ⟨by kernel_rfl, fun w' hS' => by go_simp⟩) hS ?_
              refine wpAnyH_take (i := 39) (v := (.bool false)) rfl (by kernel_rfl) (by kernel_rfl) (by kernel_rfl) (fun _ _ _ h => h) (Or.inl ⟨by kernel_rfl, fun w' hS' => by go_simp⟩) hS ?_
              refine wpAnyH_done (by kernel_rfl) ?_ _
              go_simp
              go_wp2_with fail
              go_meet
              exact ⟨rfl, hS⟩
            · go_simp
              refine hK.out _ _ (hS.alloc hS.size _) (fun hS => ?_)
              clear hK K
              refine wpAnyH_ready (rs := [29]) (by kernel_rfl) (by simp) ?_
              refine AllReadyH.cons rfl (fun K hK => ?_) AllReadyH.nil
              go_simp
              refine hK.out _ _ (hS.alloc hS.size _) (fun hS => ?_)
              clear hK K
              have hJ := Lib.hid (join_ba w2 x y)
              refine wpAnyH_ready (rs := [37]) (by kernel_rfl) (by simp) ?_
              refine AllReadyH.cons rfl (fun K hK => ?_) AllReadyH.nil
              go_simp
              refine (joins_any (some ⟨w2.heap.size + 1, 0, none⟩) none (some ⟨w2.heap.size, 0, none⟩) 1 0 2 [([65], x)] [] [([65], y), ([], 0)] _ hJ.out.1 hJ.out.2.1 hJ.out.2.2 (sized_xy x y hx0 hx1 hy0 hy1) (by simp) (by simp) (by simp)).mono ?_
              rintro e w3 ⟨rfl, hb3⟩
              refine hK.out _ _ (hS.trans (hb3.mono hS.size)) (fun hS => ?_)
              clear hK K
              refine wpAnyH_take (i := 38) (v := (.bool false)) rfl (by kernel_rfl) (by kernel_rfl) (by kernel_rfl) (fun _ _ _ h => h) (Or.inl ⟨by kernel_rfl, fun w' hS' => by go_simp⟩) hS ?_
              refine wpAnyH_take (i := 39) (v := (.bool false)) rfl (by kernel_rfl) (by kernel_rfl) (by kernel_rfl) (fun _ _ _ h => h) (Or.inl ⟨by kernel_rfl, fun w' hS' => by go_simp⟩) hS ?_
              refine wpAnyH_done (by kernel_rfl) ?_ _
              go_simp
              go_wp2_with fail
              go_meet
              exact ⟨rfl, hS⟩

          case rest =>
            obtain ⟨rfl, hbx⟩ := hcut
            obtain ⟨wq, rfl⟩ : ∃ wq : World, wq = wc := ⟨_, rfl⟩
            clear hbr
            go_wp2_with fail
            go_roundw
            case rel => exact ⟨b + 1, by omega, by go_num, hbx⟩
            case measure => simp [intOf]; omega
        · obtain rfl : b = 16 := by omega
          go_wp2_with fail
          go_roundw
          case rel => exact ⟨a + 1, by omega, by go_num, hbr⟩
          case measure => simp [intOf]; omega
    · obtain rfl : a = 16 := by omega
      go_wp2_with fail
      refine (times_lit1 _).mono ?_
      rintro e w1 ⟨rfl, rfl⟩
      go_wp2_with fail
      refine (times_lit2 _).mono ?_
      rintro e w2 ⟨rfl, rfl⟩
      go_wp2_with fail
      refine (sum_lit _).mono ?_
      rintro e w3 ⟨rfl, rfl⟩
      go_wp2_with fail
      refine (join_lit _).mono ?_
      rintro e w4 ⟨⟨A, c, rfl⟩, hb4⟩
      have h4 := hbr.trans (hb4.mono hbr.size)
      go_wp2_with fail
      refine (awake_any _).mono ?_
      rintro e w5 ⟨rfl, hb5⟩
      have h5 := h4.trans (hb5.mono h4.size)
      go_wp2_with fail
      go_ret
      exact ⟨rfl, hb0.trans (h5.mono hb0.size)⟩
end Go.Proofs.YtfppiigmibjbnaaGreat
