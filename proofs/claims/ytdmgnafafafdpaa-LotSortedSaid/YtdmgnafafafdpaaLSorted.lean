/- The law LotSorted: whatever lots; the walk. Written by gen_laws.py. -/
import Derived.Test.YtdmgnafafafdpaaLCount
import Derived.Deep.DeepCutAuto
namespace Go.Proofs.Ytdmgnafafafdpaa
open Go.ChangeShapes Go.WideShapes Go.ChangeAt Go.RowKit
set_option linter.unusedVariables false

/-- Three boxes that hold three lots, behind a world. -/
def Held3 (w : World) (a b c : Lt) (W : World) : Prop := Box6 W w.heap.size a ∧ Box6 W (w.heap.size + 1) b ∧ Box6 W (w.heap.size + 2) c ∧ Below w.heap.size w W
theorem Held3.next {w W W' : World} {a b c : Lt} (h : Held3 w a b c W) (hb : Below W.heap.size W W') : Held3 w a b c W' :=
  ⟨h.1.below h.1.lt hb, h.2.1.below h.2.1.lt hb, h.2.2.1.below h.2.2.1.lt hb, below_two h.2.2.2 hb⟩
abbrev objX (x : Lt) : Obj := .cells #[.int .i64 x.id, .string ⟨x.item.toArray⟩, .int .i64 x.fr, .int .i64 x.un, .int .i64 x.qty, .bool x.arr] 25
theorem held3_start (w : World) (a b c : Lt) : Held3 w a b c (((w.alloc (objX a)).alloc (objX b)).alloc (objX c)) := by
  have h1 := Box6.new w a
  have h2 := Box6.new (w.alloc (objX a)) b
  have h3 := Box6.new ((w.alloc (objX a)).alloc (objX b)) c
  simp only [World.size_alloc] at h2 h3
  exact ⟨(h1.below h1.lt (below_alloc1 _ _)).below (by simp; omega) (below_alloc1 _ _), h2.below (by simp) (below_alloc1 _ _), h3, (below_alloc3 w _ _).alloc (by simp; omega) _⟩
theorem held3_cells {w W : World} {a b c : Lt} (h : Held3 w a b c W) :
    (W.cell? ⟨w.heap.size, 0, none⟩ = some (.int .i64 a.id) ∧ W.cell? ⟨w.heap.size, 1, none⟩ = some (.string ⟨a.item.toArray⟩) ∧ W.cell? ⟨w.heap.size, 2, none⟩ = some (.int .i64 a.fr) ∧
    W.cell? ⟨w.heap.size, 3, none⟩ = some (.int .i64 a.un) ∧ W.cell? ⟨w.heap.size, 4, none⟩ = some (.int .i64 a.qty) ∧ W.cell? ⟨w.heap.size, 5, none⟩ = some (.bool a.arr)) ∧
    (W.cell? ⟨w.heap.size + 1, 0, none⟩ = some (.int .i64 b.id) ∧ W.cell? ⟨w.heap.size + 1, 1, none⟩ = some (.string ⟨b.item.toArray⟩) ∧ W.cell? ⟨w.heap.size + 1, 2, none⟩ = some (.int .i64 b.fr) ∧
    W.cell? ⟨w.heap.size + 1, 3, none⟩ = some (.int .i64 b.un) ∧ W.cell? ⟨w.heap.size + 1, 4, none⟩ = some (.int .i64 b.qty) ∧ W.cell? ⟨w.heap.size + 1, 5, none⟩ = some (.bool b.arr)) ∧
    (W.cell? ⟨w.heap.size + 2, 0, none⟩ = some (.int .i64 c.id) ∧ W.cell? ⟨w.heap.size + 2, 1, none⟩ = some (.string ⟨c.item.toArray⟩) ∧ W.cell? ⟨w.heap.size + 2, 2, none⟩ = some (.int .i64 c.fr) ∧
    W.cell? ⟨w.heap.size + 2, 3, none⟩ = some (.int .i64 c.un) ∧ W.cell? ⟨w.heap.size + 2, 4, none⟩ = some (.int .i64 c.qty) ∧ W.cell? ⟨w.heap.size + 2, 5, none⟩ = some (.bool c.arr)) :=
  ⟨h.1.cells, h.2.1.cells, h.2.2.1.cells⟩

theorem cmpL_anti (a b : Lt) : cmpL a b < 0 ↔ 0 < cmpL b a := (cmpL_neg a b).trans (cmpL_pos b a).symm
theorem cmpL_le_trans {a b c : Lt} (h1 : cmpL a b ≤ 0) (h2 : cmpL b c ≤ 0) : cmpL a c ≤ 0 ∧ (cmpL a c < 0 ∨ (cmpL a b = 0 ∧ cmpL b c = 0)) := by
  have e1 : ¬ (b.un < a.un ∨ (b.un = a.un ∧ b.id < a.id)) := fun h => absurd ((cmpL_pos a b).2 h) (by omega)
  have e2 : ¬ (c.un < b.un ∨ (c.un = b.un ∧ c.id < b.id)) := fun h => absurd ((cmpL_pos b c).2 h) (by omega)
  refine ⟨Int.not_lt.1 (fun h => ?_), ?_⟩
  · have := (cmpL_pos a c).1 h
    omega
  · by_cases h : cmpL a c < 0
    · exact .inl h
    · have e3 : ¬ (a.un < c.un ∨ (a.un = c.un ∧ a.id < c.id)) := fun h' => h ((cmpL_neg a c).2 h')
      exact .inr ⟨(cmpL_zero a b).2 (by omega), (cmpL_zero b c).2 (by omega)⟩
theorem addr_zero6 (ad : Addr) : ad.add (0 * 6) = ad := by simp [Addr.add]
theorem neq_len {a b : Nat} (h : a = b) : ((a : Int) != (b : Int)) = false := by simp [h]
theorem eq_len {a b : Nat} (h : a = b) : ((a : Int) == (b : Int)) = true := by simp [h]
theorem le_of_len {a b n : Nat} (h : a = b) (h2 : b ≤ n) : a ≤ n := h ▸ h2
/-- What the comparisons of three lots tell of one another. -/
theorem cmp3 (a b c : Lt) : cmpL b a = -cmpL a b ∧ cmpL a a = 0 ∧ -1 ≤ cmpL a b ∧ cmpL a b ≤ 1 ∧
    (cmpL a b ≤ 0 → cmpL b c ≤ 0 → cmpL a c ≤ 0 ∧ (cmpL a c < 0 ∨ (cmpL a b = 0 ∧ cmpL b c = 0))) := by
  have p := cmpL_anti a b
  have q := cmpL_anti b a
  have r := cmpL_rng a b
  have r' := cmpL_rng b a
  refine ⟨by omega, (cmpL_zero a a).2 ⟨rfl, rfl⟩, by omega, by omega, fun h1 h2 => cmpL_le_trans h1 h2⟩

set_option maxRecDepth 100000 in
set_option maxHeartbeats 8000000 in
theorem sorted_any (v : Value) (l : List Lt) (a b c : Lt) (w : World) (hv : LSl w w.heap.size v l) (hs : Sized l) (hlen : l.length ≤ 140737488355328) :
    Calls Try.prog 4 #[v, aggL a, aggL b, aggL c] w fun e w' => e = .returned (.bool true) ∧ Below w.heap.size w w' := by
  have HV := Lib.hid hv
  have HS : Hid (Sized l) := Lib.hid hs
  have HL := Lib.hid hlen
  have H0 := Lib.hid (held3_start w a b c)
  clear hv hs hlen
  go_enter Try.func4, Try.ntmps4
  go_wp2_with (first
    | (go_at_call 10; ((with_reducible refine (awake_any _).mono ?_); rintro e w1 ⟨rfl, hb1⟩; have H1 := Lib.hid (H0.out.next hb1); clear hb1))
    | (go_at_call 11; fail))
  have hb1 := H1.out.2.2.2
  refine (great_any v l w1 (HV.out.at_ hb1) HS.out HL.out).mono ?_
  rintro e w' ⟨bg, rfl, rfl, hfew⟩
  cases bg
  · have hl400 : l.length ≤ 400 := hfew rfl
    have HB1 := Lib.hid hb1
    clear hfew hb1
    obtain ⟨A0, c0, rfl, hcc1, hcc2, _⟩ := id HV.out
    go_wp2_with (first
      | (go_at_call 12; (first
          | ((with_reducible refine (sort_any _ l w1 (by omega) (HV.out.at_ HB1.out)).mono ?_); rintro e w2 ⟨sv, out, rfl, hst, ho, hb2⟩; have HO := Lib.hid (And.intro hst (And.intro (LSl.own ho) hb2)); obtain ⟨A2, c2, rfl, hd1, hd2, _⟩ := own_form ho; clear hst ho hb2; have hlo : Hid (out.length = l.length) := Lib.hid HO.out.1.length; have ho400 := le_of_len hlo.out hl400; have hn1 := neq_len hlo.out; have hn2 := eq_len hlo.out; have H2 := Lib.hid (H1.out.next HO.out.2.2))
          | ((with_reducible refine (sort_any _ out w2 (by omega) HO.out.2.1).mono ?_); rintro e w3 ⟨sv3, out3, rfl, hst3, ho3, hb3⟩; obtain rfl : out3 = out := hst3.unique (stab_self HO.out.1.pairs); have H3 := Lib.hid (H2.out.next hb3); have HO3 := Lib.hid (And.intro (LSl.own ho3) (HO.out.2.1.at_ hb3)); clear hst3 ho3 hb3)))
      | (go_at_call 13; ((with_reducible refine (same_yes out3 _ _ w3 HO3.out.1 HO3.out.2 (by omega)).mono ?_); rintro e w4 ⟨rfl, hb4⟩; have H4 := Lib.hid (H3.out.next hb4); have HO4 := Lib.hid (HO3.out.2.at_ hb4); clear hb4)))
    clear hn1 hn2
    have HV4 := Lib.hid (HV.out.at_ H4.out.2.2.2)
    have HPS := Lib.hid HO.out.1.pairs
    have HPM := Lib.hid HO.out.1.perm
    clear HO HO3 hlo
    go_loopw [10] (fun i wr => ∃ k : Nat, k ≤ out3.length ∧ i = .int .i64 k ∧ Hid (Below w4.heap.size w4 wr)) (fun i _ => out3.length - (intOf i).toNat)
    case atStart => exact ⟨0, Nat.zero_le _, rfl, Lib.hid (Below.refl _ _)⟩
    case round =>
      obtain ⟨k, hk, rfl, HB⟩ := hrel
      by_cases hlt : k < out3.length
      · obtain ⟨x, hx⟩ : ∃ x, out3[k]? = some x := ⟨_, List.getElem?_eq_getElem hlt⟩
        obtain ⟨ad, rfl, hab, _⟩ := HO4.out.six hx
        have HX := Lib.hid hx
        have hcn : Hid (cnt l x = cnt out3 x) := Lib.hid (cnt_perm HPM.out.symm x)
        have hcc : ∀ W, Below w4.heap.size w4 W → Calls Try.prog 14 #[.slice (some ad) out3.length c2, agX x] W fun e w' => e = .returned (.int .i64 (cnt out3 x)) ∧ Below W.heap.size W w' := fun W hW => count_any _ out3 x W (HO4.out.at_ hW) (by omega)
        have hcd : ∀ W, Below w4.heap.size w4 W → Calls Try.prog 14 #[.slice A0 l.length c0, agX x] W fun e w' => e = .returned (.int .i64 (cnt out3 x)) ∧ Below W.heap.size W w' := fun W hW => by rw [← hcn.out]; exact count_any _ l x W (HV4.out.at_ hW) (by omega)
        generalize cnt out3 x = nx at hcc hcd
        have HC := Lib.hid hcc
        have HD := Lib.hid hcd
        clear hx hcc hcd hcn
        have hltI : (k : Int) < (out3.length : Int) := by omega
        by_cases hk0 : 0 < k
        · obtain ⟨j, rfl⟩ : ∃ j, k = j + 1 := ⟨k - 1, by omega⟩
          obtain ⟨y, hy⟩ : ∃ y, out3[j]? = some y := ⟨_, List.getElem?_eq_getElem (by omega)⟩
          have HY := Lib.hid hy
          have hyx : cmpL y x ≤ 0 := by
            have h := List.pairwise_iff_getElem.1 HPS.out j (j + 1) (by omega) hlt (by omega)
            rw [(List.getElem?_eq_some_iff.1 hy).2, (List.getElem?_eq_some_iff.1 HX.out).2] at h
            exact h
          have hcv : ∀ W, Calls Try.prog 8 #[agX y, agX x] W fun e w' => e = .returned (.int .i64 (cmpL y x)) ∧ Below W.heap.size W w' := fun W => compare_any y x W
          generalize cmpL y x = cv at hyx hcv
          have HCV := Lib.hid hcv
          clear hy hcv
          have hgt : decide ((0 : Int) < cv) = false := decide_eq_false (by omega)
          have hltJ : (j : Int) < (out3.length : Int) := by omega
          have e1 : IntKind.i64.wrap ((j : Int) + 1 - 1) = (j : Int) := by rw [IntKind.wrap_i64]; omega
          have e2 : (j : Int) + 1 - 1 = (j : Int) := by omega
          have e3 : IntKind.i64.wrap (j : Int) = (j : Int) := by rw [IntKind.wrap_i64]; omega
          go_upto_region 11 with (fail)
          go_cut [67] (fun v wx => v = .bool false ∧ Below w4.heap.size w4 wx)
          case first =>
            have hS : (fun w' => Below w4.heap.size w4 w') wr.drew := HB.out.drew
            refine wp_region_held_drew (S := fun w' => Below w4.heap.size w4 w') (by kernel_rfl) hS (fun hS => ?_)
            refine wpAnyH_take (i := 0) (v := ((.int .i64 ((j : Int) + 1)))) rfl (by kernel_rfl) (by kernel_rfl) (by kernel_rfl) (fun _ _ _ h => h) (Or.inl ⟨by kernel_rfl, fun w' hS' => by go_simp⟩) hS ?_
            refine wpAnyH_take (i := 1) (v := ((.bool true))) rfl (by kernel_rfl) (by kernel_rfl) (by kernel_rfl) (fun _ _ _ h => h) (Or.inl ⟨by kernel_rfl, fun w' hS' => by go_simp⟩) hS ?_
            refine wpAnyH_take (i := 2) (v := ((.bool true))) rfl (by kernel_rfl) (by kernel_rfl) (by kernel_rfl) (fun _ _ _ h => h) (Or.inl ⟨by kernel_rfl, fun w' hS' => by go_simp⟩) hS ?_
            refine wpAnyH_take (i := 3) (v := ((.slice (some ad) out3.length c2))) rfl (by kernel_rfl) (by kernel_rfl) (by kernel_rfl) (fun _ _ _ h => h) (Or.inl ⟨by kernel_rfl, fun w' hS' => by go_simp⟩) hS ?_
            refine wpAnyH_take (i := 4) (v := ((.int .i64 ((j : Int) + 1)))) rfl (by kernel_rfl) (by kernel_rfl) (by kernel_rfl) (fun _ _ _ h => h) (Or.inl ⟨by kernel_rfl, fun w' hS' => by go_simp⟩) hS ?_
            refine wpAnyH_take (i := 5) (v := ((.int .i64 (j : Int)))) rfl (by kernel_rfl) (by kernel_rfl) (by kernel_rfl) (fun _ _ _ h => h) (Or.inl ⟨by kernel_rfl, fun w' hS' => by go_simp⟩) hS ?_
            refine wpAnyH_take (i := 6) (v := ((.pointer (some (ad.add (j * 6)))))) rfl (by kernel_rfl) (by kernel_rfl) (by kernel_rfl) (fun _ _ _ h => h) (Or.inl ⟨by kernel_rfl, fun w' hS' => by go_simp; try (intro h; exact absurd h (by omega))⟩) hS ?_
            refine wpAnyH_take (i := 7) (v := (agX y)) rfl (by kernel_rfl) (by kernel_rfl) (by kernel_rfl) (fun _ _ _ h => h) (Or.inl ⟨by kernel_rfl, fun w' hS' => by have hL := (HO4.out.below hS').six HY.out; obtain ⟨ad', had, _, d0, d1, d2, d3, d4, d5⟩ := hL; cases had; go_simp⟩) hS ?_
            refine wpAnyH_take (i := 8) (v := ((.slice (some ad) out3.length c2))) rfl (by kernel_rfl) (by kernel_rfl) (by kernel_rfl) (fun _ _ _ h => h) (Or.inl ⟨by kernel_rfl, fun w' hS' => by go_simp⟩) hS ?_
            refine wpAnyH_take (i := 9) (v := ((.int .i64 ((j : Int) + 1)))) rfl (by kernel_rfl) (by kernel_rfl) (by kernel_rfl) (fun _ _ _ h => h) (Or.inl ⟨by kernel_rfl, fun w' hS' => by go_simp⟩) hS ?_
            refine wpAnyH_take (i := 10) (v := ((.pointer (some (ad.add ((j + 1) * 6)))))) rfl (by kernel_rfl) (by kernel_rfl) (by kernel_rfl) (fun _ _ _ h => h) (Or.inl ⟨by kernel_rfl, fun w' hS' => by go_simp; try (intro h; exact absurd h (by omega))⟩) hS ?_
            refine wpAnyH_take (i := 11) (v := (agX x)) rfl (by kernel_rfl) (by kernel_rfl) (by kernel_rfl) (fun _ _ _ h => h) (Or.inl ⟨by kernel_rfl, fun w' hS' => by have hL := (HO4.out.below hS').six HX.out; obtain ⟨ad', had, _, d0, d1, d2, d3, d4, d5⟩ := hL; cases had; go_simp⟩) hS ?_
            refine wpAnyH_ready (rs := [12]) (by kernel_rfl) (by simp) ?_
            refine AllReadyH.cons rfl (fun K hK => ?_) AllReadyH.nil
            go_simp
            refine (HCV.out _).mono ?_
            rintro e w5 ⟨rfl, hby⟩
            refine hK.out _ _ (hS.trans (hby.mono hS.size)) (fun hS => ?_)
            clear hK K hby
            refine wpAnyH_take (i := 13) (v := ((.bool false))) rfl (by kernel_rfl) (by kernel_rfl) (by kernel_rfl) (fun _ _ _ h => h) (Or.inl ⟨by kernel_rfl, fun w' hS' => by go_simp⟩) hS ?_
            refine wpAnyH_take (i := 14) (v := ((.bool false))) rfl (by kernel_rfl) (by kernel_rfl) (by kernel_rfl) (fun _ _ _ h => h) (Or.inl ⟨by kernel_rfl, fun w' hS' => by go_simp⟩) hS ?_
            refine wpAnyH_take (i := 15) (v := ((.bool false))) rfl (by kernel_rfl) (by kernel_rfl) (by kernel_rfl) (fun _ _ _ h => h) (Or.inl ⟨by kernel_rfl, fun w' hS' => by go_simp⟩) hS ?_
            refine wpAnyH_take (i := 16) (v := ((.slice (some ad) out3.length c2))) rfl (by kernel_rfl) (by kernel_rfl) (by kernel_rfl) (fun _ _ _ h => h) (Or.inl ⟨by kernel_rfl, fun w' hS' => by go_simp⟩) hS ?_
            refine wpAnyH_take (i := 17) (v := ((.slice (some ad) out3.length c2))) rfl (by kernel_rfl) (by kernel_rfl) (by kernel_rfl) (fun _ _ _ h => h) (Or.inl ⟨by kernel_rfl, fun w' hS' => by go_simp⟩) hS ?_
            refine wpAnyH_take (i := 18) (v := ((.int .i64 ((j : Int) + 1)))) rfl (by kernel_rfl) (by kernel_rfl) (by kernel_rfl) (fun _ _ _ h => h) (Or.inl ⟨by kernel_rfl, fun w' hS' => by go_simp⟩) hS ?_
            refine wpAnyH_take (i := 19) (v := ((.pointer (some (ad.add ((j + 1) * 6)))))) rfl (by kernel_rfl) (by kernel_rfl) (by kernel_rfl) (fun _ _ _ h => h) (Or.inl ⟨by kernel_rfl, fun w' hS' => by go_simp; try (intro h; exact absurd h (by omega))⟩) hS ?_
            refine wpAnyH_take (i := 20) (v := (agX x)) rfl (by kernel_rfl) (by kernel_rfl) (by kernel_rfl) (fun _ _ _ h => h) (Or.inl ⟨by kernel_rfl, fun w' hS' => by have hL := (HO4.out.below hS').six HX.out; obtain ⟨ad', had, _, d0, d1, d2, d3, d4, d5⟩ := hL; cases had; go_simp⟩) hS ?_
            refine wpAnyH_take (i := 22) (v := ((.slice A0 l.length c0))) rfl (by kernel_rfl) (by kernel_rfl) (by kernel_rfl) (fun _ _ _ h => h) (Or.inl ⟨by kernel_rfl, fun w' hS' => by go_simp⟩) hS ?_
            refine wpAnyH_take (i := 23) (v := ((.slice (some ad) out3.length c2))) rfl (by kernel_rfl) (by kernel_rfl) (by kernel_rfl) (fun _ _ _ h => h) (Or.inl ⟨by kernel_rfl, fun w' hS' => by go_simp⟩) hS ?_
            refine wpAnyH_take (i := 24) (v := ((.int .i64 ((j : Int) + 1)))) rfl (by kernel_rfl) (by kernel_rfl) (by kernel_rfl) (fun _ _ _ h => h) (Or.inl ⟨by kernel_rfl, fun w' hS' => by go_simp⟩) hS ?_
            refine wpAnyH_take (i := 25) (v := ((.pointer (some (ad.add ((j + 1) * 6)))))) rfl (by kernel_rfl) (by kernel_rfl) (by kernel_rfl) (fun _ _ _ h => h) (Or.inl ⟨by kernel_rfl, fun w' hS' => by go_simp; try (intro h; exact absurd h (by omega))⟩) hS ?_
            refine wpAnyH_take (i := 26) (v := (agX x)) rfl (by kernel_rfl) (by kernel_rfl) (by kernel_rfl) (fun _ _ _ h => h) (Or.inl ⟨by kernel_rfl, fun w' hS' => by have hL := (HO4.out.below hS').six HX.out; obtain ⟨ad', had, _, d0, d1, d2, d3, d4, d5⟩ := hL; cases had; go_simp⟩) hS ?_
            refine wpAnyH_ready (rs := [21]) (by kernel_rfl) (by simp) ?_
            refine AllReadyH.cons rfl (fun K hK => ?_) AllReadyH.nil
            go_simp
            refine (HC.out _ hS).mono ?_
            rintro e w6 ⟨rfl, hby⟩
            refine hK.out _ _ (hS.trans (hby.mono hS.size)) (fun hS => ?_)
            clear hK K hby
            refine wpAnyH_ready (rs := [27]) (by kernel_rfl) (by simp) ?_
            refine AllReadyH.cons rfl (fun K hK => ?_) AllReadyH.nil
            go_simp
            refine (HD.out _ hS).mono ?_
            rintro e w7 ⟨rfl, hby⟩
            refine hK.out _ _ (hS.trans (hby.mono hS.size)) (fun hS => ?_)
            clear hK K hby
            refine wpAnyH_take (i := 28) (v := ((.bool false))) rfl (by kernel_rfl) (by kernel_rfl) (by kernel_rfl) (fun _ _ _ h => h) (Or.inl ⟨by kernel_rfl, fun w' hS' => by go_simp⟩) hS ?_
            refine wpAnyH_take (i := 29) (v := ((.bool false))) rfl (by kernel_rfl) (by kernel_rfl) (by kernel_rfl) (fun _ _ _ h => h) (Or.inl ⟨by kernel_rfl, fun w' hS' => by go_simp⟩) hS ?_
            refine wpAnyH_done (by kernel_rfl) ?_ _
            go_simp
            go_wp2_with fail
            go_meet
            exact ⟨rfl, hS⟩
          case rest =>
            obtain ⟨rfl, hbx⟩ := hcut
            have HB3 := Lib.hid hbx
            clear hbx HB
            go_wp2
            go_roundw
            case rel => exact ⟨j + 1 + 1, by omega, by go_num, HB3⟩
            case measure => simp [intOf]; omega
        · obtain rfl : k = 0 := by omega
          go_upto_region 11 with (fail)
          go_cut [67] (fun v wx => v = .bool false ∧ Below w4.heap.size w4 wx)
          case first =>
            have hS : (fun w' => Below w4.heap.size w4 w') wr.drew := HB.out.drew
            refine wp_region_held_drew (S := fun w' => Below w4.heap.size w4 w') (by kernel_rfl) hS (fun hS => ?_)
            refine wpAnyH_take (i := 0) (v := ((.int .i64 0))) rfl (by kernel_rfl) (by kernel_rfl) (by kernel_rfl) (fun _ _ _ h => h) (Or.inl ⟨by kernel_rfl, fun w' hS' => by go_simp⟩) hS ?_
            refine wpAnyH_take (i := 1) (v := ((.bool false))) rfl (by kernel_rfl) (by kernel_rfl) (by kernel_rfl) (fun _ _ _ h => h) (Or.inl ⟨by kernel_rfl, fun w' hS' => by go_simp⟩) hS ?_
            refine wpAnyH_take (i := 2) (v := ((.bool false))) rfl (by kernel_rfl) (by kernel_rfl) (by kernel_rfl) (fun _ _ _ h => h) (Or.inl ⟨by kernel_rfl, fun w' hS' => by go_simp⟩) hS ?_
            refine wpAnyH_take (i := 3) (v := (undef)) rfl (by kernel_rfl) (by kernel_rfl) (by kernel_rfl) (fun _ _ _ h => h) (Or.inr ⟨by kernel_rfl, rfl⟩) hS ?_
            refine wpAnyH_take (i := 4) (v := (undef)) rfl (by kernel_rfl) (by kernel_rfl) (by kernel_rfl) (fun _ _ _ h => h) (Or.inr ⟨by kernel_rfl, rfl⟩) hS ?_
            refine wpAnyH_take (i := 5) (v := (undef)) rfl (by kernel_rfl) (by kernel_rfl) (by kernel_rfl) (fun _ _ _ h => h) (Or.inr ⟨by kernel_rfl, rfl⟩) hS ?_
            refine wpAnyH_take (i := 6) (v := (undef)) rfl (by kernel_rfl) (by kernel_rfl) (by kernel_rfl) (fun _ _ _ h => h) (Or.inr ⟨by kernel_rfl, rfl⟩) hS ?_
            refine wpAnyH_take (i := 7) (v := (undef)) rfl (by kernel_rfl) (by kernel_rfl) (by kernel_rfl) (fun _ _ _ h => h) (Or.inr ⟨by kernel_rfl, rfl⟩) hS ?_
            refine wpAnyH_take (i := 8) (v := (undef)) rfl (by kernel_rfl) (by kernel_rfl) (by kernel_rfl) (fun _ _ _ h => h) (Or.inr ⟨by kernel_rfl, rfl⟩) hS ?_
            refine wpAnyH_take (i := 9) (v := (undef)) rfl (by kernel_rfl) (by kernel_rfl) (by kernel_rfl) (fun _ _ _ h => h) (Or.inr ⟨by kernel_rfl, rfl⟩) hS ?_
            refine wpAnyH_take (i := 10) (v := (undef)) rfl (by kernel_rfl) (by kernel_rfl) (by kernel_rfl) (fun _ _ _ h => h) (Or.inr ⟨by kernel_rfl, rfl⟩) hS ?_
            refine wpAnyH_take (i := 11) (v := (undef)) rfl (by kernel_rfl) (by kernel_rfl) (by kernel_rfl) (fun _ _ _ h => h) (Or.inr ⟨by kernel_rfl, rfl⟩) hS ?_
            refine wpAnyH_take (i := 12) (v := (undef)) rfl (by kernel_rfl) (by kernel_rfl) (by kernel_rfl) (fun _ _ _ h => h) (Or.inr ⟨by kernel_rfl, rfl⟩) hS ?_
            refine wpAnyH_take (i := 13) (v := (undef)) rfl (by kernel_rfl) (by kernel_rfl) (by kernel_rfl) (fun _ _ _ h => h) (Or.inr ⟨by kernel_rfl, rfl⟩) hS ?_
            refine wpAnyH_take (i := 14) (v := ((.bool false))) rfl (by kernel_rfl) (by kernel_rfl) (by kernel_rfl) (fun _ _ _ h => h) (Or.inl ⟨by kernel_rfl, fun w' hS' => by go_simp⟩) hS ?_
            refine wpAnyH_take (i := 15) (v := ((.bool false))) rfl (by kernel_rfl) (by kernel_rfl) (by kernel_rfl) (fun _ _ _ h => h) (Or.inl ⟨by kernel_rfl, fun w' hS' => by go_simp⟩) hS ?_
            refine wpAnyH_take (i := 16) (v := ((.slice (some ad) out3.length c2))) rfl (by kernel_rfl) (by kernel_rfl) (by kernel_rfl) (fun _ _ _ h => h) (Or.inl ⟨by kernel_rfl, fun w' hS' => by go_simp⟩) hS ?_
            refine wpAnyH_take (i := 17) (v := ((.slice (some ad) out3.length c2))) rfl (by kernel_rfl) (by kernel_rfl) (by kernel_rfl) (fun _ _ _ h => h) (Or.inl ⟨by kernel_rfl, fun w' hS' => by go_simp⟩) hS ?_
            refine wpAnyH_take (i := 18) (v := ((.int .i64 0))) rfl (by kernel_rfl) (by kernel_rfl) (by kernel_rfl) (fun _ _ _ h => h) (Or.inl ⟨by kernel_rfl, fun w' hS' => by go_simp⟩) hS ?_
            refine wpAnyH_take (i := 19) (v := ((.pointer (some ad)))) rfl (by kernel_rfl) (by kernel_rfl) (by kernel_rfl) (fun _ _ _ h => h) (Or.inl ⟨by kernel_rfl, fun w' hS' => by go_simp; try (intro h; exact absurd h (by omega))⟩) hS ?_
            refine wpAnyH_take (i := 20) (v := (agX x)) rfl (by kernel_rfl) (by kernel_rfl) (by kernel_rfl) (fun _ _ _ h => h) (Or.inl ⟨by kernel_rfl, fun w' hS' => by have hL := (HO4.out.below hS').six HX.out; obtain ⟨ad', had, _, hL⟩ := hL; cases had; rw [addr_zero6] at hL; obtain ⟨d0, d1, d2, d3, d4, d5⟩ := hL; go_simp⟩) hS ?_
            refine wpAnyH_take (i := 22) (v := ((.slice A0 l.length c0))) rfl (by kernel_rfl) (by kernel_rfl) (by kernel_rfl) (fun _ _ _ h => h) (Or.inl ⟨by kernel_rfl, fun w' hS' => by go_simp⟩) hS ?_
            refine wpAnyH_take (i := 23) (v := ((.slice (some ad) out3.length c2))) rfl (by kernel_rfl) (by kernel_rfl) (by kernel_rfl) (fun _ _ _ h => h) (Or.inl ⟨by kernel_rfl, fun w' hS' => by go_simp⟩) hS ?_
            refine wpAnyH_take (i := 24) (v := ((.int .i64 0))) rfl (by kernel_rfl) (by kernel_rfl) (by kernel_rfl) (fun _ _ _ h => h) (Or.inl ⟨by kernel_rfl, fun w' hS' => by go_simp⟩) hS ?_
            refine wpAnyH_take (i := 25) (v := ((.pointer (some ad)))) rfl (by kernel_rfl) (by kernel_rfl) (by kernel_rfl) (fun _ _ _ h => h) (Or.inl ⟨by kernel_rfl, fun w' hS' => by go_simp; try (intro h; exact absurd h (by omega))⟩) hS ?_
            refine wpAnyH_take (i := 26) (v := (agX x)) rfl (by kernel_rfl) (by kernel_rfl) (by kernel_rfl) (fun _ _ _ h => h) (Or.inl ⟨by kernel_rfl, fun w' hS' => by have hL := (HO4.out.below hS').six HX.out; obtain ⟨ad', had, _, hL⟩ := hL; cases had; rw [addr_zero6] at hL; obtain ⟨d0, d1, d2, d3, d4, d5⟩ := hL; go_simp⟩) hS ?_
            refine wpAnyH_ready (rs := [21]) (by kernel_rfl) (by simp) ?_
            refine AllReadyH.cons rfl (fun K hK => ?_) AllReadyH.nil
            go_simp
            refine (HC.out _ hS).mono ?_
            rintro e w6 ⟨rfl, hby⟩
            refine hK.out _ _ (hS.trans (hby.mono hS.size)) (fun hS => ?_)
            clear hK K hby
            refine wpAnyH_ready (rs := [27]) (by kernel_rfl) (by simp) ?_
            refine AllReadyH.cons rfl (fun K hK => ?_) AllReadyH.nil
            go_simp
            refine (HD.out _ hS).mono ?_
            rintro e w7 ⟨rfl, hby⟩
            refine hK.out _ _ (hS.trans (hby.mono hS.size)) (fun hS => ?_)
            clear hK K hby
            refine wpAnyH_take (i := 28) (v := ((.bool false))) rfl (by kernel_rfl) (by kernel_rfl) (by kernel_rfl) (fun _ _ _ h => h) (Or.inl ⟨by kernel_rfl, fun w' hS' => by go_simp⟩) hS ?_
            refine wpAnyH_take (i := 29) (v := ((.bool false))) rfl (by kernel_rfl) (by kernel_rfl) (by kernel_rfl) (fun _ _ _ h => h) (Or.inl ⟨by kernel_rfl, fun w' hS' => by go_simp⟩) hS ?_
            refine wpAnyH_done (by kernel_rfl) ?_ _
            go_simp
            go_wp2_with fail
            go_meet
            exact ⟨rfl, hS⟩
          case rest =>
            obtain ⟨rfl, hbx⟩ := hcut
            have HB3 := Lib.hid hbx
            clear hbx HB
            go_wp2
            go_roundw
            case rel => exact ⟨1, by omega, by go_num, HB3⟩
            case measure => simp [intOf]; omega
      · obtain rfl : k = out3.length := by omega
        have H5 := Lib.hid (H4.out.next HB.out)
        have h3 := cmp3 a b c
        have C1 : Hid (∀ W, Calls Try.prog 8 #[agX a, agX b] W fun e w' => e = .returned (.int .i64 (cmpL a b)) ∧ Below W.heap.size W w') := Lib.hid (fun W => compare_any a b W)
        have C2 : Hid (∀ W, Calls Try.prog 8 #[agX b, agX c] W fun e w' => e = .returned (.int .i64 (cmpL b c)) ∧ Below W.heap.size W w') := Lib.hid (fun W => compare_any b c W)
        have C3 : Hid (∀ W, Calls Try.prog 8 #[agX a, agX c] W fun e w' => e = .returned (.int .i64 (cmpL a c)) ∧ Below W.heap.size W w') := Lib.hid (fun W => compare_any a c W)
        have C4 : Hid (∀ W, Calls Try.prog 8 #[agX b, agX a] W fun e w' => e = .returned (.int .i64 (-cmpL a b)) ∧ Below W.heap.size W w') := Lib.hid (fun W => by rw [← h3.1]; exact compare_any b a W)
        have C5 : Hid (∀ W, Calls Try.prog 8 #[agX a, agX a] W fun e w' => e = .returned (.int .i64 0) ∧ Below W.heap.size W w') := Lib.hid (fun W => by have h := compare_any a a W; rw [h3.2.1] at h; exact h)
        have hr := h3.2.2
        clear h3
        generalize cmpL a b = x at C1 C4 hr
        generalize cmpL b c = y at C2 hr
        generalize cmpL a c = z at C3 hr
        have hx1 := hr.1
        have hx2 := hr.2.1
        have HR := Lib.hid hr.2.2
        clear hr
        go_upto_region 13 with (fail)
        go_cut [11, 12, 13] (fun v1 v2 v3 wx => v1 = .int .i64 x ∧ v2 = .int .i64 y ∧ v3 = .int .i64 z ∧ Held3 w a b c wx)
        case first =>
          have hS : Held3 w a b c wr.drew := H5.out.next ((Below.refl _ _).drew)
          refine wp_region_held_drew (S := Held3 w a b c) (by kernel_rfl) hS (fun hS => ?_)
          refine wpAnyH_take (i := 0) (v := (agX a)) rfl (by kernel_rfl) (by kernel_rfl) (by kernel_rfl) (fun _ _ _ h => h) (Or.inl ⟨by kernel_rfl, fun w' hS' => by obtain ⟨⟨d0, d1, d2, d3, d4, d5⟩, _, _⟩ := held3_cells hS'; go_simp⟩) hS ?_
          refine wpAnyH_take (i := 1) (v := (agX b)) rfl (by kernel_rfl) (by kernel_rfl) (by kernel_rfl) (fun _ _ _ h => h) (Or.inl ⟨by kernel_rfl, fun w' hS' => by obtain ⟨_, ⟨d0, d1, d2, d3, d4, d5⟩, _⟩ := held3_cells hS'; go_simp⟩) hS ?_
          refine wpAnyH_take (i := 3) (v := (agX b)) rfl (by kernel_rfl) (by kernel_rfl) (by kernel_rfl) (fun _ _ _ h => h) (Or.inl ⟨by kernel_rfl, fun w' hS' => by obtain ⟨_, ⟨d0, d1, d2, d3, d4, d5⟩, _⟩ := held3_cells hS'; go_simp⟩) hS ?_
          refine wpAnyH_take (i := 4) (v := (agX c)) rfl (by kernel_rfl) (by kernel_rfl) (by kernel_rfl) (fun _ _ _ h => h) (Or.inl ⟨by kernel_rfl, fun w' hS' => by obtain ⟨_, _, ⟨d0, d1, d2, d3, d4, d5⟩⟩ := held3_cells hS'; go_simp⟩) hS ?_
          refine wpAnyH_take (i := 6) (v := (agX a)) rfl (by kernel_rfl) (by kernel_rfl) (by kernel_rfl) (fun _ _ _ h => h) (Or.inl ⟨by kernel_rfl, fun w' hS' => by obtain ⟨⟨d0, d1, d2, d3, d4, d5⟩, _, _⟩ := held3_cells hS'; go_simp⟩) hS ?_
          refine wpAnyH_take (i := 7) (v := (agX c)) rfl (by kernel_rfl) (by kernel_rfl) (by kernel_rfl) (fun _ _ _ h => h) (Or.inl ⟨by kernel_rfl, fun w' hS' => by obtain ⟨_, _, ⟨d0, d1, d2, d3, d4, d5⟩⟩ := held3_cells hS'; go_simp⟩) hS ?_
          refine wpAnyH_ready (rs := [2]) (by kernel_rfl) (by simp) ?_
          refine AllReadyH.cons rfl (fun K hK => ?_) AllReadyH.nil
          go_simp
          refine (C1.out _).mono ?_
          rintro e w5 ⟨rfl, hby⟩
          refine hK.out _ _ (hS.next hby) (fun hS => ?_)
          clear hK K hby
          refine wpAnyH_ready (rs := [5]) (by kernel_rfl) (by simp) ?_
          refine AllReadyH.cons rfl (fun K hK => ?_) AllReadyH.nil
          go_simp
          refine (C2.out _).mono ?_
          rintro e w6 ⟨rfl, hby⟩
          refine hK.out _ _ (hS.next hby) (fun hS => ?_)
          clear hK K hby
          refine wpAnyH_ready (rs := [8]) (by kernel_rfl) (by simp) ?_
          refine AllReadyH.cons rfl (fun K hK => ?_) AllReadyH.nil
          go_simp
          refine (C3.out _).mono ?_
          rintro e w7 ⟨rfl, hby⟩
          refine hK.out _ _ (hS.next hby) (fun hS => ?_)
          clear hK K hby
          refine wpAnyH_take (i := 9) (v := ((.int .i64 x))) rfl (by kernel_rfl) (by kernel_rfl) (by kernel_rfl) (fun _ _ _ h => h) (Or.inl ⟨by kernel_rfl, fun w' hS' => by go_simp⟩) hS ?_
          refine wpAnyH_take (i := 10) (v := ((.int .i64 y))) rfl (by kernel_rfl) (by kernel_rfl) (by kernel_rfl) (fun _ _ _ h => h) (Or.inl ⟨by kernel_rfl, fun w' hS' => by go_simp⟩) hS ?_
          refine wpAnyH_take (i := 11) (v := ((.int .i64 z))) rfl (by kernel_rfl) (by kernel_rfl) (by kernel_rfl) (fun _ _ _ h => h) (Or.inl ⟨by kernel_rfl, fun w' hS' => by go_simp⟩) hS ?_
          refine wpAnyH_done (by kernel_rfl) ?_ _
          go_simp
          go_wp2_with fail
          go_meet
          exact ⟨rfl, rfl, rfl, hS⟩
        case rest =>
          obtain ⟨rfl, rfl, rfl, hbx⟩ := hcut
          have H6 := Lib.hid hbx
          obtain ⟨⟨d0, d1, d2, d3, d4, d5⟩, ⟨f0, f1, f2, f3, f4, f5⟩, _⟩ := held3_cells hbx
          clear hbx HB C1 C2 C3
          have hw1 : IntKind.i64.wrap (-x) = -x := by rw [IntKind.wrap_i64]; omega
          have hl1 : decide (x < -1) = false := decide_eq_false (by omega)
          have hl2 : decide ((1 : Int) < x) = false := decide_eq_false (by omega)
          by_cases hx0 : x ≤ 0
          · by_cases hy0 : y ≤ 0
            · obtain ⟨hz0, hz1⟩ := HR.out hx0 hy0
              by_cases hzn : z < 0
              · clear hz1
                go_wp2_with (go_at_call 8; (first
                  | ((with_reducible refine (C4.out _).mono ?_); rintro e w6 ⟨rfl, hb6⟩; have H7 := Lib.hid (H6.out.next hb6); obtain ⟨⟨g0, g1, g2, g3, g4, g5⟩, _, _⟩ := held3_cells H7.out; clear hb6)
                  | ((with_reducible refine (C5.out _).mono ?_); rintro e w7 ⟨rfl, hb7⟩; have H8 := Lib.hid (H7.out.next hb7); clear hb7)))
                go_ret
                exact ⟨rfl, H8.out.2.2.2⟩
              · obtain ⟨hx9, hy9⟩ := hz1.resolve_left hzn
                have hzf : decide (z < 0) = false := decide_eq_false hzn
                have e1 : (x == 0) = true := by simp [hx9]
                have e2 : (y == 0) = true := by simp [hy9]
                clear hx9 hy9
                go_wp2_with (go_at_call 8; (first
                  | ((with_reducible refine (C4.out _).mono ?_); rintro e w6 ⟨rfl, hb6⟩; have H7 := Lib.hid (H6.out.next hb6); obtain ⟨⟨g0, g1, g2, g3, g4, g5⟩, _, _⟩ := held3_cells H7.out; clear hb6)
                  | ((with_reducible refine (C5.out _).mono ?_); rintro e w7 ⟨rfl, hb7⟩; have H8 := Lib.hid (H7.out.next hb7); clear hb7)))
                go_ret
                exact ⟨rfl, H8.out.2.2.2⟩
            · have hy1 : decide (y ≤ 0) = false := decide_eq_false hy0
              go_wp2_with (go_at_call 8; (first
                | ((with_reducible refine (C4.out _).mono ?_); rintro e w6 ⟨rfl, hb6⟩; have H7 := Lib.hid (H6.out.next hb6); obtain ⟨⟨g0, g1, g2, g3, g4, g5⟩, _, _⟩ := held3_cells H7.out; clear hb6)
                | ((with_reducible refine (C5.out _).mono ?_); rintro e w7 ⟨rfl, hb7⟩; have H8 := Lib.hid (H7.out.next hb7); clear hb7)))
              go_ret
              exact ⟨rfl, H8.out.2.2.2⟩
          · have hx1 : decide (x ≤ 0) = false := decide_eq_false hx0
            go_wp2_with (go_at_call 8; (first
              | ((with_reducible refine (C4.out _).mono ?_); rintro e w6 ⟨rfl, hb6⟩; have H7 := Lib.hid (H6.out.next hb6); obtain ⟨⟨g0, g1, g2, g3, g4, g5⟩, _, _⟩ := held3_cells H7.out; clear hb6)
              | ((with_reducible refine (C5.out _).mono ?_); rintro e w7 ⟨rfl, hb7⟩; have H8 := Lib.hid (H7.out.next hb7); clear hb7)))
            go_ret
            exact ⟨rfl, H8.out.2.2.2⟩
  · have HB1 := Lib.hid hb1
    clear hfew hb1
    go_wp2
    go_ret
    exact ⟨rfl, HB1.out⟩
end Go.Proofs.Ytdmgnafafafdpaa
