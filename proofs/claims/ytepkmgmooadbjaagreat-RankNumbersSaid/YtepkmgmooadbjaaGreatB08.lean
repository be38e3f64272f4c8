/- Texts of this proof, one behind the other. -/
import Derived.BigRegion
import Derived.Deep.DeepCutAuto
import Derived.Test.YtepkmgmooadbjaaGreatRows
import Derived.Deep.Slices
import Derived.Deep.Fields
import Derived.ChangeSame
import Derived.SizedLaws
import Derived.OpenShut
import Derived.Test.YtepkmgmooadbjaaGreatB07
import Derived.Test.YtepkmgmooadbjaaGreatB03
section
/- The law RankNumbers; the walk. Written by gen_rnum.py. -/
namespace Go.Proofs.YtepkmgmooadbjaaGreat
open Go.ChangeShapes Go.WideShapes Go.ChangeAt Go.RowKit Go.Maps
set_option linter.unusedVariables false

set_option maxRecDepth 100000 in
set_option maxHeartbeats 8000000 in
theorem numbers_any (w : World) : Calls Tryz.prog 4 #[] w fun e w' => e = .returned (.bool true) ∧ Go.RowKit.Below w.heap.size w w' := by
  obtain ⟨i0, hi, hz0, hz1, hz2⟩ := info_parts infoLot
  have H1 := Lib.hid hi
  have H2 := Lib.hid hz0
  have H3 := Lib.hid hz1
  have H4 := Lib.hid hz2
  clear hi hz0 hz1 hz2
  obtain ⟨hrw, hb0, hsz⟩ := rows_start w
  unfold numW intsC qtysC codesC at hrw hb0 hsz
  have HR0 := Lib.hid hrw
  have HB0 := Lib.hid hb0
  clear hrw hb0
  go_enter Tryz.func4, Tryz.ntmps4
  go_wp2
  rw [show w.heap.size + 1 + 1 = w.heap.size + 2 from rfl]
  obtain ⟨W0, hW0⟩ : ∃ W0, W0 = ((w.alloc (.cells #[.int .i64 (-9223372036854775808), .int .i64 (-2), .int .i64 (-1), .int .i64 0, .int .i64 1, .int .i64 2, .int .i64 98, .int .i64 99, .int .i64 100, .int .i64 3999, .int .i64 4000, .int .i64 4001, .int .i64 9223372036854775807] 3)).alloc (.cells #[.int .i64 (-1), .int .i64 0, .int .i64 1, .int .i64 1073741824, .int .i64 1073741825] 2)).alloc (.cells #[.string ⟨#[]⟩, .string ⟨#[65]⟩, .string ⟨#[97]⟩, .string ⟨#[65, 66, 67, 68, 69, 70, 71, 72, 73, 74, 75, 76, 77]⟩] 9) := ⟨_, rfl⟩
  rw [← hW0] at HR0 HB0 hsz ⊢
  clear hW0
  obtain ⟨n0, hn0⟩ : ∃ n0, w.heap.size = n0 := ⟨_, rfl⟩
  rw [hn0] at HR0 hsz ⊢
  go_loopw [4, 5] (fun v i wr => ∃ a : Nat, a ≤ 13 ∧ i = .int .i64 a ∧ ∃ l : List Lt, Hid (wr.ownsRow (n0 + 3) 37 8 v l.length (lcells l)) ∧ Hid (l.length = 20 * a) ∧ Hid (Sized l) ∧ Hid (Go.RowKit.Below (n0 + 3) W0 wr)) (fun _ i _ => 13 - (intOf i).toNat)
  case atStart => exact ⟨0, by omega, rfl, [], Lib.hid ⟨rfl, .inl ⟨rfl, rfl⟩⟩, Lib.hid rfl, Lib.hid (by intro x hx; simp at hx), Lib.hid (Below.refl _ _)⟩
  case round =>
    obtain ⟨a, ha, rfl, l, HO, HLA, HSZ, HB⟩ := hrel
    obtain ⟨A, c, rfl, hca, hcb, hcc⟩ := own_form HO.out
    by_cases halt : a < 13
    · have hda : decide ((a : Int) < 13) = true := decide_eq_true (by omega)
      go_wp2
      obtain ⟨wo, rfl⟩ : ∃ wo : World, wo = wr := ⟨_, rfl⟩
      go_loopw [4, 6] (fun v i wr => ∃ s : Nat, s ≤ 5 ∧ i = .int .i64 s ∧ ∃ l : List Lt, Hid (wr.ownsRow (n0 + 3) 37 8 v l.length (lcells l)) ∧ Hid (l.length = 20 * a + 4 * s) ∧ Hid (Sized l) ∧ Hid (Go.RowKit.Below (n0 + 3) W0 wr)) (fun _ i _ => 5 - (intOf i).toNat)
      case atStart => exact ⟨0, by omega, rfl, l, HO, Lib.hid (by have := HLA.out; omega), HSZ, HB⟩
      case round =>
        clear HO HSZ HB hca hcb hcc HLA
        obtain ⟨s, hs, rfl, l, HO, HLA, HSZ, HB⟩ := hrel
        obtain ⟨A, c, rfl, hca, hcb, hcc⟩ := own_form HO.out
        by_cases hslt : s < 5
        · have hds : decide ((s : Int) < 5) = true := decide_eq_true (by omega)
          go_wp2
          obtain ⟨wp, rfl⟩ : ∃ wp : World, wp = wr := ⟨_, rfl⟩
          go_loopw [4, 7] (fun v i wr => ∃ k : Nat, k ≤ 4 ∧ i = .int .i64 k ∧ ∃ l : List Lt, Hid (wr.ownsRow (n0 + 3) 37 8 v l.length (lcells l)) ∧ Hid (l.length = 20 * a + 4 * s + k) ∧ Hid (Sized l) ∧ Hid (Go.RowKit.Below (n0 + 3) W0 wr)) (fun _ i _ => 4 - (intOf i).toNat)
          case atStart => exact ⟨0, by omega, rfl, l, HO, Lib.hid (by have := HLA.out; omega), HSZ, HB⟩
          case round =>
            clear HO HSZ HB hca hcb hcc HLA
            obtain ⟨k, hk, rfl, l, HO, HLA, HSZ, HB⟩ := hrel
            obtain ⟨A, c, rfl, hca, hcb, hcc⟩ := own_form HO.out
            by_cases hklt : k < 4
            · have hdk : decide ((k : Int) < 4) = true := decide_eq_true (by omega)
              obtain ⟨j, hj, jl⟩ : ∃ j, (a + k) % 13 = j ∧ j < 13 := ⟨_, rfl, by omega⟩
              obtain ⟨q, hq, ql⟩ : ∃ q, a % 5 = q ∧ q < 5 := ⟨_, rfl, by omega⟩
              have t1 := tmod_nat (a + k) 13
              have t2 := tmod_nat a 5
              rw [hj] at t1
              rw [hq] at t2
              push_cast at t1 t2
              have HR := Lib.hid (HR0.out.below HB.out)
              obtain ⟨x1, c1, b1, b1'⟩ := HR.out.int a halt
              obtain ⟨x2, c2, b2, b2'⟩ := HR.out.int j jl
              obtain ⟨x3, c3, b3, b3'⟩ := HR.out.qty q ql
              obtain ⟨s4, c4, b4⟩ := HR.out.txt k hklt
              have hwz : n0 + 3 ≤ wr.heap.size := by have := HB.out.size; omega
              have HC1 := Lib.hid c1
              have HC2 := Lib.hid c2
              have HC3 := Lib.hid c3
              have HC4 := Lib.hid c4
              have hp1 : (⟨n0, a, none⟩ : Addr).block < wr.heap.size := by show n0 < _; omega
              have hp2 : (⟨n0, j, none⟩ : Addr).block < wr.heap.size := by show n0 < _; omega
              have hp3 : (⟨n0 + 1, q, none⟩ : Addr).block < wr.heap.size := by show n0 + 1 < _; omega
              have hp4 : (⟨n0 + 2, k, none⟩ : Addr).block < wr.heap.size := by show n0 + 2 < _; omega
              have hu8 : IntKind.u8.wrap (s : Int) = (s : Int) := by unfold IntKind.wrap; simp [IntKind.signed, IntKind.bits]; omega
              clear c1 c2 c3 c4 hj hq
              go_upto_region 14 with (fail)
              go_cut [8] (fun v wx => v = .pointer (some ⟨wr.heap.size, 0, none⟩) ∧ Bx wx wr.heap.size ⟨1, [65], 1, 0, 0, (s : Int), x1, s4⟩ ∧ Go.RowKit.Below wr.heap.size wr wx)
              case first =>
                refine wp_region_held_drew (S := fun w' => Go.RowKit.Below wr.heap.size wr w') (by kernel_rfl) ((Below.refl _ _).drew) (fun hS => ?_)
                refine wpAnyH_take (i := 0) (v := (.int .i64 (s : Int))) rfl (by kernel_rfl) (by kernel_rfl) (by kernel_rfl) (fun _ _ _ h => h) (Or.inl ⟨by kernel_rfl, fun w' hS' => by go_simp⟩) hS ?_
                refine wpAnyH_take (i := 1) (v := (.int .u8 (s : Int))) rfl (by kernel_rfl) (by kernel_rfl) (by kernel_rfl) (fun _ _ _ h => h) (Or.inl ⟨by kernel_rfl, fun w' hS' => by go_simp⟩) hS ?_
                refine wpAnyH_take (i := 2) (v := (.slice (some ⟨n0, 0, none⟩) 13 13)) rfl (by kernel_rfl) (by kernel_rfl) (by kernel_rfl) (fun _ _ _ h => h) (Or.inl ⟨by kernel_rfl, fun w' hS' => by go_simp⟩) hS ?_
                refine wpAnyH_take (i := 3) (v := (.int .i64 (a : Int))) rfl (by kernel_rfl) (by kernel_rfl) (by kernel_rfl) (fun _ _ _ h => h) (Or.inl ⟨by kernel_rfl, fun w' hS' => by go_simp⟩) hS ?_
                refine wpAnyH_take (i := 4) (v := (.pointer (some ⟨n0, a, none⟩))) rfl (by kernel_rfl) (by kernel_rfl) (by kernel_rfl) (fun _ _ _ h => h) (Or.inl ⟨by kernel_rfl, fun w' hS' => by (go_simp; try (intro h; exfalso; omega))⟩) hS ?_
                refine wpAnyH_take (i := 5) (v := (.int .i64 x1)) rfl (by kernel_rfl) (by kernel_rfl) (by kernel_rfl) (fun _ _ _ h => h) (Or.inl ⟨by kernel_rfl, fun w' hS' => by have hc := (hS'.cell hp1).trans HC1.out; go_simp⟩) hS ?_
                refine wpAnyH_take (i := 6) (v := (.slice (some ⟨n0 + 2, 0, none⟩) 4 4)) rfl (by kernel_rfl) (by kernel_rfl) (by kernel_rfl) (fun _ _ _ h => h) (Or.inl ⟨by kernel_rfl, fun w' hS' => by go_simp⟩) hS ?_
                refine wpAnyH_take (i := 7) (v := (.int .i64 (k : Int))) rfl (by kernel_rfl) (by kernel_rfl) (by kernel_rfl) (fun _ _ _ h => h) (Or.inl ⟨by kernel_rfl, fun w' hS' => by go_simp⟩) hS ?_
                refine wpAnyH_take (i := 8) (v := (.pointer (some ⟨n0 + 2, k, none⟩))) rfl (by kernel_rfl) (by kernel_rfl) (by kernel_rfl) (fun _ _ _ h => h) (Or.inl ⟨by kernel_rfl, fun w' hS' => by (go_simp; try (intro h; exfalso; omega))⟩) hS ?_
                refine wpAnyH_take (i := 9) (v := (.string ⟨s4.toArray⟩)) rfl (by kernel_rfl) (by kernel_rfl) (by kernel_rfl) (fun _ _ _ h => h) (Or.inl ⟨by kernel_rfl, fun w' hS' => by have hc := (hS'.cell hp4).trans HC4.out; go_simp⟩) hS ?_
                refine wpAnyH_take (i := 10) (v := (aggL ⟨1, [65], 1, 0, 0, (s : Int), x1, s4⟩)) rfl (by kernel_rfl) (by kernel_rfl) (by kernel_rfl) (fun _ _ _ h => h) (Or.inl ⟨by kernel_rfl, fun w' hS' => by go_simp⟩) hS ?_
                refine wpAnyH_ready (rs := [11]) (by kernel_rfl) (by simp) ?_
                refine AllReadyH.cons rfl (fun K1 hK => ?_) AllReadyH.nil
                go_simp
                refine hK.out _ _ (((Below.refl _ _).alloc (Nat.le_refl _) _).drew) (fun hS => ?_)
                clear hK K1
                refine wpAnyH_ready (rs := [12]) (by kernel_rfl) (by simp) ?_
                refine AllReadyH.cons rfl (fun K1 hK => ?_) AllReadyH.nil
                refine wp_store_mid 37 _ _ rfl wr.heap.size 0 (encL ⟨1, [65], 1, 0, 0, (s : Int), x1, s4⟩).toArray (by simp [Act.eval, Act.put]) (by simp [Act.eval, Act.put, encL]) (there_newD wr) (by kernel_rfl) (enc_all ⟨1, [65], 1, 0, 0, (s : Int), x1, s4⟩) ?_
                refine hK.out _ _ (Below.setN (Nat.le_refl _) _ hS 0) (fun hS => ?_)
                clear hK K1
                refine wpAnyH_done (by kernel_rfl) ?_ _
                go_simp
                go_wp2_with fail
                go_meet
                exact ⟨rfl, Bx.stored ⟨1, [65], 1, 0, 0, (s : Int), x1, s4⟩ (by show wr.heap.size < (wr.alloc zeroO).heap.size; simp) (there_newD wr), hS⟩
              case rest =>
                obtain ⟨rfl, hbx, hbw⟩ := hcut
                obtain ⟨w1, hw1⟩ : ∃ W, W = wc := ⟨_, rfl⟩
                rw [← hw1] at hbw hbx ⊢
                clear hw1
                have HC1 := Lib.hid ((hbw.cell hp1).trans HC1.out)
                have HC2 := Lib.hid ((hbw.cell hp2).trans HC2.out)
                have HC3 := Lib.hid ((hbw.cell hp3).trans HC3.out)
                have HC4 := Lib.hid ((hbw.cell hp4).trans HC4.out)
                have hp1 := Nat.lt_of_lt_of_le hp1 hbw.size
                have hp2 := Nat.lt_of_lt_of_le hp2 hbw.size
                have hp3 := Nat.lt_of_lt_of_le hp3 hbw.size
                have hp4 := Nat.lt_of_lt_of_le hp4 hbw.size
                have HX1 := Lib.hid hbx
                have HO1 := Lib.hid (row_below HO.out hbw)
                have HB1 := Lib.hid (HB.out.trans (hbw.mono hwz))
                have hwz1 : n0 + 3 ≤ w1.heap.size := Nat.le_trans hwz hbw.size
                have hN1 : wr.heap.size ≤ w1.heap.size := hbw.size
                clear hbx hbw
                have HRL : Hid (∀ j, (Value.slice A l.length c).ownBlock = some j → j < wr.heap.size) := Lib.hid (fun j hj => (HO.out.lt j hj).2)
                obtain ⟨gx, hgx⟩ : ∃ g, wr.heap.size = g := ⟨_, rfl⟩
                rw [hgx] at HX1 HRL hN1 ⊢
                clear hgx
                go_upto_region 15 with (fail)
                go_cut [9] (fun v wx => ∃ g, v = .pointer (some ⟨g, 0, none⟩) ∧ w1.heap.size ≤ g ∧ Bx wx g ⟨x1, [65], 1, 0, x2, (s : Int), -1, []⟩ ∧ Go.RowKit.Below w1.heap.size w1 wx)
                case first =>
                  refine wp_region_held_drew (S := fun w' => Go.RowKit.Below w1.heap.size w1 w') (by kernel_rfl) ((Below.refl _ _).drew) (fun hS => ?_)
                  refine wpAnyH_take (i := 0) (v := (.slice (some ⟨n0, 0, none⟩) 13 13)) rfl (by kernel_rfl) (by kernel_rfl) (by kernel_rfl) (fun _ _ _ h => h) (Or.inl ⟨by kernel_rfl, fun w' hS' => by go_simp⟩) hS ?_
                  refine wpAnyH_take (i := 1) (v := (.int .i64 (a : Int))) rfl (by kernel_rfl) (by kernel_rfl) (by kernel_rfl) (fun _ _ _ h => h) (Or.inl ⟨by kernel_rfl, fun w' hS' => by go_simp⟩) hS ?_
                  refine wpAnyH_take (i := 2) (v := (.pointer (some ⟨n0, a, none⟩))) rfl (by kernel_rfl) (by kernel_rfl) (by kernel_rfl) (fun _ _ _ h => h) (Or.inl ⟨by kernel_rfl, fun w' hS' => by (go_simp; try (intro h; exfalso; omega))⟩) hS ?_
                  refine wpAnyH_take (i := 3) (v := (.int .i64 x1)) rfl (by kernel_rfl) (by kernel_rfl) (by kernel_rfl) (fun _ _ _ h => h) (Or.inl ⟨by kernel_rfl, fun w' hS' => by have hc := (hS'.cell hp1).trans HC1.out; go_simp⟩) hS ?_
                  refine wpAnyH_take (i := 4) (v := (.slice (some ⟨n0, 0, none⟩) 13 13)) rfl (by kernel_rfl) (by kernel_rfl) (by kernel_rfl) (fun _ _ _ h => h) (Or.inl ⟨by kernel_rfl, fun w' hS' => by go_simp⟩) hS ?_
                  refine wpAnyH_take (i := 5) (v := (.int .i64 (a : Int))) rfl (by kernel_rfl) (by kernel_rfl) (by kernel_rfl) (fun _ _ _ h => h) (Or.inl ⟨by kernel_rfl, fun w' hS' => by go_simp⟩) hS ?_
                  refine wpAnyH_take (i := 6) (v := (.int .i64 (k : Int))) rfl (by kernel_rfl) (by kernel_rfl) (by kernel_rfl) (fun _ _ _ h => h) (Or.inl ⟨by kernel_rfl, fun w' hS' => by go_simp⟩) hS ?_
                  refine wpAnyH_take (i := 7) (v := (.int .i64 ((a : Int) + (k : Int)))) rfl (by kernel_rfl) (by kernel_rfl) (by kernel_rfl) (fun _ _ _ h => h) (Or.inl ⟨by kernel_rfl, fun w' hS' => by (go_simp; try (rw [IntKind.wrap_i64]; omega))⟩) hS ?_
                  refine wpAnyH_take (i := 8) (v := (.int .i64 (j : Int))) rfl (by kernel_rfl) (by kernel_rfl) (by kernel_rfl) (fun _ _ _ h => h) (Or.inl ⟨by kernel_rfl, fun w' hS' => by go_simp⟩) hS ?_
                  refine wpAnyH_take (i := 9) (v := (.pointer (some ⟨n0, j, none⟩))) rfl (by kernel_rfl) (by kernel_rfl) (by kernel_rfl) (fun _ _ _ h => h) (Or.inl ⟨by kernel_rfl, fun w' hS' => by (go_simp; try (intro h; exfalso; omega))⟩) hS ?_
                  refine wpAnyH_take (i := 10) (v := (.int .i64 x2)) rfl (by kernel_rfl) (by kernel_rfl) (by kernel_rfl) (fun _ _ _ h => h) (Or.inl ⟨by kernel_rfl, fun w' hS' => by have hc := (hS'.cell hp2).trans HC2.out; go_simp⟩) hS ?_
                  refine wpAnyH_take (i := 11) (v := (.int .i64 (s : Int))) rfl (by kernel_rfl) (by kernel_rfl) (by kernel_rfl) (fun _ _ _ h => h) (Or.inl ⟨by kernel_rfl, fun w' hS' => by go_simp⟩) hS ?_
                  refine wpAnyH_take (i := 12) (v := (.int .u8 (s : Int))) rfl (by kernel_rfl) (by kernel_rfl) (by kernel_rfl) (fun _ _ _ h => h) (Or.inl ⟨by kernel_rfl, fun w' hS' => by go_simp⟩) hS ?_
                  refine wpAnyH_ready (rs := [13, 14]) (by kernel_rfl) (by simp) ?_
                  refine AllReadyH.cons rfl (fun K1 hK => ?_) (AllReadyH.cons rfl (fun K1 hK => ?_) AllReadyH.nil)
                  · go_simp
                    refine (line_q _ _ _ _).mono ?_
                    rintro e w2 ⟨rfl, hb2⟩
                    refine hK.out _ _ (hS.trans (hb2.mono hS.size)) (fun hS => ?_)
                    clear hK K1 hb2
                    have hsz2 := hS.size
                    refine wpAnyH_ready (rs := [14]) (by kernel_rfl) (by simp) ?_
                    refine AllReadyH.cons rfl (fun K1 hK => ?_) AllReadyH.nil
                    go_simp
                    refine hK.out _ _ (hS.alloc hS.size _) (fun hS => ?_)
                    clear hK K1
                    refine wpAnyH_ready (rs := [15]) (by kernel_rfl) (by simp) ?_
                    refine AllReadyH.cons rfl (fun K1 hK => ?_) AllReadyH.nil
                    refine wp_store_mid 37 _ _ rfl w2.heap.size 0 (encL ⟨x1, [65], 1, 0, x2, (s : Int), -1, []⟩).toArray (by simp [Act.eval, Act.put]) (by simp [Act.eval, Act.put, encL]) (there_new w2) (by kernel_rfl) (enc_all ⟨x1, [65], 1, 0, x2, (s : Int), -1, []⟩) ?_
                    refine hK.out _ _ (Below.setN hsz2 _ hS 0) (fun hS => ?_)
                    clear hK K1
                    refine wpAnyH_done (by kernel_rfl) ?_ _
                    go_simp
                    go_wp2_with fail
                    go_meet
                    exact ⟨_, rfl, hsz2, Bx.stored ⟨x1, [65], 1, 0, x2, (s : Int), -1, []⟩ (by show w2.heap.size < (w2.alloc zeroO).heap.size; simp) (there_new w2), hS⟩
                  · go_simp
                    refine hK.out _ _ (((Below.refl _ _).alloc (Nat.le_refl _) _).drew) (fun hS => ?_)
                    clear hK K1
                    refine wpAnyH_ready (rs := [13]) (by kernel_rfl) (by simp) ?_
                    refine AllReadyH.cons rfl (fun K1 hK => ?_) AllReadyH.nil
                    go_simp
                    refine (line_q _ _ _ _).mono ?_
                    rintro e w2 ⟨rfl, hb2⟩
                    have hgl : w1.heap.size < (w1.alloc zeroO).drew.heap.size := by show w1.heap.size < (w1.alloc zeroO).heap.size; simp
                    have hth2 := there_below (there_newD w1) hgl hb2
                    have hgl2 := Nat.lt_of_lt_of_le hgl hb2.size
                    refine hK.out _ _ (hS.trans (hb2.mono hS.size)) (fun hS => ?_)
                    clear hK K1 hb2
                    refine wpAnyH_ready (rs := [15]) (by kernel_rfl) (by simp) ?_
                    refine AllReadyH.cons rfl (fun K1 hK => ?_) AllReadyH.nil
                    refine wp_store_mid 37 _ _ rfl w1.heap.size 0 (encL ⟨x1, [65], 1, 0, x2, (s : Int), -1, []⟩).toArray (by simp [Act.eval, Act.put]) (by simp [Act.eval, Act.put, encL]) (hth2) (by kernel_rfl) (enc_all ⟨x1, [65], 1, 0, x2, (s : Int), -1, []⟩) ?_
                    refine hK.out _ _ (Below.setN (Nat.le_refl _) _ hS 0) (fun hS => ?_)
                    clear hK K1
                    refine wpAnyH_done (by kernel_rfl) ?_ _
                    go_simp
                    go_wp2_with fail
                    go_meet
                    exact ⟨_, rfl, Nat.le_refl _, Bx.stored ⟨x1, [65], 1, 0, x2, (s : Int), -1, []⟩ hgl2 hth2, hS⟩
                case rest =>
                  obtain ⟨gy, rfl, hgy, hbx, hbw⟩ := hcut
                  have hNy : gx ≤ gy := Nat.le_trans hN1 hgy
                  obtain ⟨w2, hw2⟩ : ∃ W, W = wc := ⟨_, rfl⟩
                  rw [← hw2] at hbw hbx ⊢
                  clear hw2
                  have HC1 := Lib.hid ((hbw.cell hp1).trans HC1.out)
                  have HC2 := Lib.hid ((hbw.cell hp2).trans HC2.out)
                  have HC3 := Lib.hid ((hbw.cell hp3).trans HC3.out)
                  have HC4 := Lib.hid ((hbw.cell hp4).trans HC4.out)
                  have hp1 := Nat.lt_of_lt_of_le hp1 hbw.size
                  have hp2 := Nat.lt_of_lt_of_le hp2 hbw.size
                  have hp3 := Nat.lt_of_lt_of_le hp3 hbw.size
                  have hp4 := Nat.lt_of_lt_of_le hp4 hbw.size
                  have HX2 := Lib.hid (HX1.out.next hbw)
                  have HY2 := Lib.hid hbx
                  have HO2 := Lib.hid (row_below HO1.out hbw)
                  have HB2 := Lib.hid (HB1.out.trans (hbw.mono hwz1))
                  have hwz2 : n0 + 3 ≤ w2.heap.size := Nat.le_trans hwz1 hbw.size
                  have hN2 : gx ≤ w2.heap.size := Nat.le_trans hN1 hbw.size
                  clear hgy
                  clear hbx hbw HX1 HO1 HB1 HO HB
                  go_upto_region 16 with (fail)
                  go_cut [10] (fun v wx => v = .pointer (some ⟨w2.heap.size, 0, none⟩) ∧ Bx wx w2.heap.size ⟨2, s4, x3, x1, 99, 1, -1, []⟩ ∧ Go.RowKit.Below w2.heap.size w2 wx)
                  case first =>
                    refine wp_region_held_drew (S := fun w' => Go.RowKit.Below w2.heap.size w2 w') (by kernel_rfl) ((Below.refl _ _).drew) (fun hS => ?_)
                    refine wpAnyH_take (i := 0) (v := (.slice (some ⟨n0 + 2, 0, none⟩) 4 4)) rfl (by kernel_rfl) (by kernel_rfl) (by kernel_rfl) (fun _ _ _ h => h) (Or.inl ⟨by kernel_rfl, fun w' hS' => by go_simp⟩) hS ?_
                    refine wpAnyH_take (i := 1) (v := (.int .i64 (k : Int))) rfl (by kernel_rfl) (by kernel_rfl) (by kernel_rfl) (fun _ _ _ h => h) (Or.inl ⟨by kernel_rfl, fun w' hS' => by go_simp⟩) hS ?_
                    refine wpAnyH_take (i := 2) (v := (.pointer (some ⟨n0 + 2, k, none⟩))) rfl (by kernel_rfl) (by kernel_rfl) (by kernel_rfl) (fun _ _ _ h => h) (Or.inl ⟨by kernel_rfl, fun w' hS' => by (go_simp; try (intro h; exfalso; omega))⟩) hS ?_
                    refine wpAnyH_take (i := 3) (v := (.string ⟨s4.toArray⟩)) rfl (by kernel_rfl) (by kernel_rfl) (by kernel_rfl) (fun _ _ _ h => h) (Or.inl ⟨by kernel_rfl, fun w' hS' => by have hc := (hS'.cell hp4).trans HC4.out; go_simp⟩) hS ?_
                    refine wpAnyH_take (i := 4) (v := (.slice (some ⟨n0 + 1, 0, none⟩) 5 5)) rfl (by kernel_rfl) (by kernel_rfl) (by kernel_rfl) (fun _ _ _ h => h) (Or.inl ⟨by kernel_rfl, fun w' hS' => by go_simp⟩) hS ?_
                    refine wpAnyH_take (i := 5) (v := (.int .i64 (a : Int))) rfl (by kernel_rfl) (by kernel_rfl) (by kernel_rfl) (fun _ _ _ h => h) (Or.inl ⟨by kernel_rfl, fun w' hS' => by go_simp⟩) hS ?_
                    refine wpAnyH_take (i := 6) (v := (.int .i64 (q : Int))) rfl (by kernel_rfl) (by kernel_rfl) (by kernel_rfl) (fun _ _ _ h => h) (Or.inl ⟨by kernel_rfl, fun w' hS' => by go_simp⟩) hS ?_
                    refine wpAnyH_take (i := 7) (v := (.pointer (some ⟨n0 + 1, q, none⟩))) rfl (by kernel_rfl) (by kernel_rfl) (by kernel_rfl) (fun _ _ _ h => h) (Or.inl ⟨by kernel_rfl, fun w' hS' => by (go_simp; try (intro h; exfalso; omega))⟩) hS ?_
                    refine wpAnyH_take (i := 8) (v := (.int .i64 x3)) rfl (by kernel_rfl) (by kernel_rfl) (by kernel_rfl) (fun _ _ _ h => h) (Or.inl ⟨by kernel_rfl, fun w' hS' => by have hc := (hS'.cell hp3).trans HC3.out; go_simp⟩) hS ?_
                    refine wpAnyH_take (i := 9) (v := (.slice (some ⟨n0, 0, none⟩) 13 13)) rfl (by kernel_rfl) (by kernel_rfl) (by kernel_rfl) (fun _ _ _ h => h) (Or.inl ⟨by kernel_rfl, fun w' hS' => by go_simp⟩) hS ?_
                    refine wpAnyH_take (i := 10) (v := (.int .i64 (a : Int))) rfl (by kernel_rfl) (by kernel_rfl) (by kernel_rfl) (fun _ _ _ h => h) (Or.inl ⟨by kernel_rfl, fun w' hS' => by go_simp⟩) hS ?_
                    refine wpAnyH_take (i := 11) (v := (.pointer (some ⟨n0, a, none⟩))) rfl (by kernel_rfl) (by kernel_rfl) (by kernel_rfl) (fun _ _ _ h => h) (Or.inl ⟨by kernel_rfl, fun w' hS' => by (go_simp; try (intro h; exfalso; omega))⟩) hS ?_
                    refine wpAnyH_take (i := 12) (v := (.int .i64 x1)) rfl (by kernel_rfl) (by kernel_rfl) (by kernel_rfl) (fun _ _ _ h => h) (Or.inl ⟨by kernel_rfl, fun w' hS' => by have hc := (hS'.cell hp1).trans HC1.out; go_simp⟩) hS ?_
                    refine wpAnyH_take (i := 13) (v := (aggL ⟨2, s4, x3, x1, 99, 1, -1, []⟩)) rfl (by kernel_rfl) (by kernel_rfl) (by kernel_rfl) (fun _ _ _ h => h) (Or.inl ⟨by kernel_rfl, fun w' hS' => by go_simp⟩) hS ?_
                    refine wpAnyH_ready (rs := [14]) (by kernel_rfl) (by simp) ?_
                    refine AllReadyH.cons rfl (fun K1 hK => ?_) AllReadyH.nil
                    go_simp
                    refine hK.out _ _ (((Below.refl _ _).alloc (Nat.le_refl _) _).drew) (fun hS => ?_)
                    clear hK K1
                    refine wpAnyH_ready (rs := [15]) (by kernel_rfl) (by simp) ?_
                    refine AllReadyH.cons rfl (fun K1 hK => ?_) AllReadyH.nil
                    refine wp_store_mid 37 _ _ rfl w2.heap.size 0 (encL ⟨2, s4, x3, x1, 99, 1, -1, []⟩).toArray (by simp [Act.eval, Act.put]) (by simp [Act.eval, Act.put, encL]) (there_newD w2) (by kernel_rfl) (enc_all ⟨2, s4, x3, x1, 99, 1, -1, []⟩) ?_
                    refine hK.out _ _ (Below.setN (Nat.le_refl _) _ hS 0) (fun hS => ?_)
                    clear hK K1
                    refine wpAnyH_done (by kernel_rfl) ?_ _
                    go_simp
                    go_wp2_with fail
                    go_meet
                    exact ⟨rfl, Bx.stored ⟨2, s4, x3, x1, 99, 1, -1, []⟩ (by show w2.heap.size < (w2.alloc zeroO).heap.size; simp) (there_newD w2), hS⟩
                  case rest =>
                    obtain ⟨rfl, hbx, hbw⟩ := hcut
                    obtain ⟨w3, hw3⟩ : ∃ W, W = wc := ⟨_, rfl⟩
                    rw [← hw3] at hbw hbx ⊢
                    clear hw3
                    have HC1 := Lib.hid ((hbw.cell hp1).trans HC1.out)
                    have HC2 := Lib.hid ((hbw.cell hp2).trans HC2.out)
                    have HC3 := Lib.hid ((hbw.cell hp3).trans HC3.out)
                    have HC4 := Lib.hid ((hbw.cell hp4).trans HC4.out)
                    have hp1 := Nat.lt_of_lt_of_le hp1 hbw.size
                    have hp2 := Nat.lt_of_lt_of_le hp2 hbw.size
                    have hp3 := Nat.lt_of_lt_of_le hp3 hbw.size
                    have hp4 := Nat.lt_of_lt_of_le hp4 hbw.size
                    have HX3 := Lib.hid (HX2.out.next hbw)
                    have HY3 := Lib.hid (HY2.out.next hbw)
                    have HZ3 := Lib.hid hbx
                    have HO3 := Lib.hid (row_below HO2.out hbw)
                    have HB3 := Lib.hid (HB2.out.trans (hbw.mono hwz2))
                    have hwz3 : n0 + 3 ≤ w3.heap.size := Nat.le_trans hwz2 hbw.size
                    clear hbx hbw HX2 HY2 HO2 HB2
                    obtain ⟨gz, hgz⟩ : ∃ g, w2.heap.size = g := ⟨_, rfl⟩
                    rw [hgz] at HZ3 hN2 ⊢
                    clear hgz
                    obtain ⟨y, hy⟩ : ∃ y : Lt, y = ⟨x1, [65], 1, 0, x2, (s : Int), -1, []⟩ := ⟨_, rfl⟩
                    have hyf : y.Fits := by rw [hy]; exact ⟨b1, b1', by show [(65 : UInt8)].length ≤ maxLen; unfold maxLen; decide, by show (-9223372036854775808 : Int) ≤ 1; omega, by show (1 : Int) ≤ 9223372036854775807; omega, by show (-9223372036854775808 : Int) ≤ 0; omega, by show (0 : Int) ≤ 9223372036854775807; omega, b2, b2', by show (0 : Int) ≤ (s : Int); omega, by show (s : Int) ≤ 255; omega, by show (-9223372036854775808 : Int) ≤ -1; omega, by show (-1 : Int) ≤ 9223372036854775807; omega, by show ([] : List UInt8).length ≤ maxLen; unfold maxLen; decide⟩
                    rw [← hy] at HY3
                    have hyid : y.id = x1 := by rw [hy]
                    have HYF := Lib.hid hyf
                    clear hyf hy hyid
                    obtain ⟨y0, y1, y2, y3, y4, y5, y6, y7⟩ := HY3.out.cells
                    have hl260 : l.length ≤ 260 := by have := HLA.out; omega
                    go_wp2_with (at_builtin; refine wpList_append_own _ rfl _ _ 22 rfl (n0 + 3) 37 i0 _ 8 80 Tryz.underlying22 H1.out H2.out H3.out H4.out rfl (by decide) _ _ _ rfl (HO3.out.alloc _) ⟨w3.heap.size, 0, none⟩ 1 1 (encL y) rfl rfl (six_new w3 y _) (encL_one y) (by unfold maxLen; omega) (by omega) (by simp only [World.size_alloc]; omega) ?_; intro v' w4 hown3 hg3 _; obtain ⟨A4, c4', rfl, qa3, qb3, qc3⟩ := own_form hown3; have ho3 := Lib.hid hown3; have hG3 := Lib.hid hg3; clear hown3 hg3)
                    have hrow3 : ∀ g, gx ≤ g → (Value.slice A l.length c).ownBlock ≠ some g := fun g hg e => absurd (HRL.out g e) (by omega)
                    have hg34 := hG3.out
                    have hb34 : Go.RowKit.Below (n0 + 3) w3 w4 := ((Below.refl _ _).alloc hwz3 _).grown hg34 (by simp only [World.size_alloc]; omega) (fun j hj => (HO3.out.lt j hj).1)
                    have hba := below_alloc1 w3 (.cells (encL y).toArray 37)
                    have HX4 : Hid (Bx w4 gx ⟨1, [65], 1, 0, 0, (s : Int), x1, s4⟩) := Lib.hid ((HX3.out.next hba).grown hg34 (hrow3 gx (Nat.le_refl _)))
                    have HY4 : Hid (Bx w4 gy y) := Lib.hid ((HY3.out.next hba).grown hg34 (hrow3 gy hNy))
                    have HZ4 : Hid (Bx w4 gz ⟨2, s4, x3, x1, 99, 1, -1, []⟩) := Lib.hid ((HZ3.out.next hba).grown hg34 (hrow3 gz hN2))
                    have HC1 := Lib.hid ((hb34.cell (p := ⟨n0, a, none⟩) (by show n0 < n0 + 3; omega)).trans HC1.out)
                    have HC3 := Lib.hid ((hb34.cell (p := ⟨n0 + 1, q, none⟩) (by show n0 + 1 < n0 + 3; omega)).trans HC3.out)
                    have hwz4 : n0 + 3 ≤ w4.heap.size := Nat.le_trans hwz3 hb34.size
                    have hp1 : (⟨n0, a, none⟩ : Addr).block < w4.heap.size := by show n0 < _; omega
                    have hp3 : (⟨n0 + 1, q, none⟩ : Addr).block < w4.heap.size := by show n0 + 1 < _; omega
                    have HB4 : Hid (Go.RowKit.Below (n0 + 3) W0 w4) := Lib.hid (HB3.out.trans hb34)
                    have hll : (l ++ [y]).length = l.length + 1 := by simp
                    have ho4 : Hid (w4.ownsRow (n0 + 3) 37 8 (.slice A4 (l.length + 1) c4') (l ++ [y]).length (lcells (l ++ [y]))) := Lib.hid (by rw [hll, lcells_append]; simpa [lcells] using ho3.out)
                    have hsz4 : Hid (Sized (l ++ [y])) := Lib.hid (by
                      intro u hu
                      rcases List.mem_append.1 hu with hu | hu
                      · exact HSZ.out u hu
                      · rw [List.mem_singleton.1 hu]; exact HYF.out)
                    clear hrow3 hg34 hb34 hba HX3 HY3 HZ3 HO3 HB3 ho3 hG3 y0 y1 y2 y3 y4 y5 y6 y7
                    go_upto_region 18 with (fail)
                    go_cut [102] (fun v wx => v = .bool false ∧ Go.RowKit.Below w4.heap.size w4 wx)
                    case first =>
                      refine wp_region_held_drew (S := fun w' => Go.RowKit.Below w4.heap.size w4 w') (by kernel_rfl) ((Below.refl _ _).drew) (fun hS => ?_)
                      refine wpAnyH_take (i := 0) (v := (aggL ⟨1, [65], 1, 0, 0, (s : Int), x1, s4⟩)) rfl (by kernel_rfl) (by kernel_rfl) (by kernel_rfl) (fun _ _ _ h => h) (Or.inl ⟨by kernel_rfl, fun w' hS' => by obtain ⟨d0, d1, d2, d3, d4, d5, d6, d7⟩ := (HX4.out.next hS').cells; go_simp⟩) hS ?_
                      refine wpAnyH_take (i := 1) (v := (aggL y)) rfl (by kernel_rfl) (by kernel_rfl) (by kernel_rfl) (fun _ _ _ h => h) (Or.inl ⟨by kernel_rfl, fun w' hS' => by obtain ⟨d0, d1, d2, d3, d4, d5, d6, d7⟩ := (HY4.out.next hS').cells; go_simp⟩) hS ?_
                      refine wpAnyH_ready (rs := [2]) (by kernel_rfl) (by simp) ?_
                      refine AllReadyH.cons rfl (fun K hK => ?_) AllReadyH.nil
                      go_simp
                      refine (rights_any ⟨1, [65], 1, 0, 0, (s : Int), x1, s4⟩ y _).mono ?_
                      rintro e w5 ⟨rfl, hby⟩
                      refine hK.out _ _ (hS.trans (hby.mono hS.size)) (fun hS => ?_)
                      clear hK K
                      clear hby
                      refine wpAnyH_take (i := 3) (v := (.bool false)) rfl (by kernel_rfl) (by kernel_rfl) (by kernel_rfl) (fun _ _ _ h => h) (Or.inl ⟨by kernel_rfl, fun w' hS' => by go_simp⟩) hS ?_
                      refine wpAnyH_take (i := 4) (v := (.bool false)) rfl (by kernel_rfl) (by kernel_rfl) (by kernel_rfl) (fun _ _ _ h => h) (Or.inl ⟨by kernel_rfl, fun w' hS' => by go_simp⟩) hS ?_
                      refine wpAnyH_take (i := 5) (v := (aggL y)) rfl (by kernel_rfl) (by kernel_rfl) (by kernel_rfl) (fun _ _ _ h => h) (Or.inl ⟨by kernel_rfl, fun w' hS' => by obtain ⟨d0, d1, d2, d3, d4, d5, d6, d7⟩ := (HY4.out.next hS').cells; go_simp⟩) hS ?_
                      refine wpAnyH_take (i := 6) (v := (aggL ⟨2, s4, x3, x1, 99, 1, -1, []⟩)) rfl (by kernel_rfl) (by kernel_rfl) (by kernel_rfl) (fun _ _ _ h => h) (Or.inl ⟨by kernel_rfl, fun w' hS' => by obtain ⟨d0, d1, d2, d3, d4, d5, d6, d7⟩ := (HZ4.out.next hS').cells; go_simp⟩) hS ?_
                      refine wpAnyH_ready (rs := [7]) (by kernel_rfl) (by simp) ?_
                      refine AllReadyH.cons rfl (fun K hK => ?_) AllReadyH.nil
                      go_simp
                      refine (rights_any y ⟨2, s4, x3, x1, 99, 1, -1, []⟩ _).mono ?_
                      rintro e w5 ⟨rfl, hby⟩
                      refine hK.out _ _ (hS.trans (hby.mono hS.size)) (fun hS => ?_)
                      clear hK K
                      clear hby
                      refine wpAnyH_take (i := 8) (v := (.bool false)) rfl (by kernel_rfl) (by kernel_rfl) (by kernel_rfl) (fun _ _ _ h => h) (Or.inl ⟨by kernel_rfl, fun w' hS' => by go_simp⟩) hS ?_
                      refine wpAnyH_take (i := 9) (v := (.bool false)) rfl (by kernel_rfl) (by kernel_rfl) (by kernel_rfl) (fun _ _ _ h => h) (Or.inl ⟨by kernel_rfl, fun w' hS' => by go_simp⟩) hS ?_
                      refine wpAnyH_take (i := 10) (v := (.bool false)) rfl (by kernel_rfl) (by kernel_rfl) (by kernel_rfl) (fun _ _ _ h => h) (Or.inl ⟨by kernel_rfl, fun w' hS' => by go_simp⟩) hS ?_
                      refine wpAnyH_take (i := 11) (v := (aggL ⟨2, s4, x3, x1, 99, 1, -1, []⟩)) rfl (by kernel_rfl) (by kernel_rfl) (by kernel_rfl) (fun _ _ _ h => h) (Or.inl ⟨by kernel_rfl, fun w' hS' => by obtain ⟨d0, d1, d2, d3, d4, d5, d6, d7⟩ := (HZ4.out.next hS').cells; go_simp⟩) hS ?_
                      refine wpAnyH_take (i := 12) (v := (aggL ⟨1, [65], 1, 0, 0, (s : Int), x1, s4⟩)) rfl (by kernel_rfl) (by kernel_rfl) (by kernel_rfl) (fun _ _ _ h => h) (Or.inl ⟨by kernel_rfl, fun w' hS' => by obtain ⟨d0, d1, d2, d3, d4, d5, d6, d7⟩ := (HX4.out.next hS').cells; go_simp⟩) hS ?_
                      refine wpAnyH_ready (rs := [13]) (by kernel_rfl) (by simp) ?_
                      refine AllReadyH.cons rfl (fun K hK => ?_) AllReadyH.nil
                      go_simp
                      refine (rights_any ⟨2, s4, x3, x1, 99, 1, -1, []⟩ ⟨1, [65], 1, 0, 0, (s : Int), x1, s4⟩ _).mono ?_
                      rintro e w5 ⟨rfl, hby⟩
                      refine hK.out _ _ (hS.trans (hby.mono hS.size)) (fun hS => ?_)
                      clear hK K
                      clear hby
                      refine wpAnyH_take (i := 14) (v := (.bool false)) rfl (by kernel_rfl) (by kernel_rfl) (by kernel_rfl) (fun _ _ _ h => h) (Or.inl ⟨by kernel_rfl, fun w' hS' => by go_simp⟩) hS ?_
                      refine wpAnyH_take (i := 15) (v := (.bool false)) rfl (by kernel_rfl) (by kernel_rfl) (by kernel_rfl) (fun _ _ _ h => h) (Or.inl ⟨by kernel_rfl, fun w' hS' => by go_simp⟩) hS ?_
                      refine wpAnyH_take (i := 16) (v := (.bool false)) rfl (by kernel_rfl) (by kernel_rfl) (by kernel_rfl) (fun _ _ _ h => h) (Or.inl ⟨by kernel_rfl, fun w' hS' => by go_simp⟩) hS ?_
                      refine wpAnyH_take (i := 17) (v := (.slice (some ⟨n0 + 1, 0, none⟩) 5 5)) rfl (by kernel_rfl) (by kernel_rfl) (by kernel_rfl) (fun _ _ _ h => h) (Or.inl ⟨by kernel_rfl, fun w' hS' => by go_simp⟩) hS ?_
                      refine wpAnyH_take (i := 18) (v := (.int .i64 (a : Int))) rfl (by kernel_rfl) (by kernel_rfl) (by kernel_rfl) (fun _ _ _ h => h) (Or.inl ⟨by kernel_rfl, fun w' hS' => by go_simp⟩) hS ?_
                      refine wpAnyH_take (i := 19) (v := (.int .i64 (q : Int))) rfl (by kernel_rfl) (by kernel_rfl) (by kernel_rfl) (fun _ _ _ h => h) (Or.inl ⟨by kernel_rfl, fun w' hS' => by go_simp⟩) hS ?_
                      refine wpAnyH_take (i := 20) (v := (.pointer (some ⟨n0 + 1, q, none⟩))) rfl (by kernel_rfl) (by kernel_rfl) (by kernel_rfl) (fun _ _ _ h => h) (Or.inl ⟨by kernel_rfl, fun w' hS' => by (go_simp; try (intro h; exfalso; omega))⟩) hS ?_
                      refine wpAnyH_take (i := 21) (v := (.int .i64 x3)) rfl (by kernel_rfl) (by kernel_rfl) (by kernel_rfl) (fun _ _ _ h => h) (Or.inl ⟨by kernel_rfl, fun w' hS' => by have hc := (hS'.cell hp3).trans HC3.out; go_simp⟩) hS ?_
                      refine wpAnyH_take (i := 22) (v := (.slice (some ⟨n0, 0, none⟩) 13 13)) rfl (by kernel_rfl) (by kernel_rfl) (by kernel_rfl) (fun _ _ _ h => h) (Or.inl ⟨by kernel_rfl, fun w' hS' => by go_simp⟩) hS ?_
                      refine wpAnyH_take (i := 23) (v := (.int .i64 (a : Int))) rfl (by kernel_rfl) (by kernel_rfl) (by kernel_rfl) (fun _ _ _ h => h) (Or.inl ⟨by kernel_rfl, fun w' hS' => by go_simp⟩) hS ?_
                      refine wpAnyH_take (i := 24) (v := (.pointer (some ⟨n0, a, none⟩))) rfl (by kernel_rfl) (by kernel_rfl) (by kernel_rfl) (fun _ _ _ h => h) (Or.inl ⟨by kernel_rfl, fun w' hS' => by (go_simp; try (intro h; exfalso; omega))⟩) hS ?_
                      refine wpAnyH_take (i := 25) (v := (.int .i64 x1)) rfl (by kernel_rfl) (by kernel_rfl) (by kernel_rfl) (fun _ _ _ h => h) (Or.inl ⟨by kernel_rfl, fun w' hS' => by have hc := (hS'.cell hp1).trans HC1.out; go_simp⟩) hS ?_
                      refine wpAnyH_take (i := 26) (v := (aggL ⟨2, [65], x3, 0, x1, 1, -1, []⟩)) rfl (by kernel_rfl) (by kernel_rfl) (by kernel_rfl) (fun _ _ _ h => h) (Or.inl ⟨by kernel_rfl, fun w' hS' => by go_simp⟩) hS ?_
                      refine wpAnyH_take (i := 27) (v := (aggL ⟨2, s4, x3, x1, 99, 1, -1, []⟩)) rfl (by kernel_rfl) (by kernel_rfl) (by kernel_rfl) (fun _ _ _ h => h) (Or.inl ⟨by kernel_rfl, fun w' hS' => by obtain ⟨d0, d1, d2, d3, d4, d5, d6, d7⟩ := (HZ4.out.next hS').cells; go_simp⟩) hS ?_
                      refine wpAnyH_ready (rs := [28]) (by kernel_rfl) (by simp) ?_
                      refine AllReadyH.cons rfl (fun K hK => ?_) AllReadyH.nil
                      go_simp
                      refine (rights_any ⟨2, [65], x3, 0, x1, 1, -1, []⟩ ⟨2, s4, x3, x1, 99, 1, -1, []⟩ _).mono ?_
                      rintro e w5 ⟨rfl, hby⟩
                      refine hK.out _ _ (hS.trans (hby.mono hS.size)) (fun hS => ?_)
                      clear hK K
                      clear hby
                      refine wpAnyH_take (i := 29) (v := (.bool false)) rfl (by kernel_rfl) (by kernel_rfl) (by kernel_rfl) (fun _ _ _ h => h) (Or.inl ⟨by kernel_rfl, fun w' hS' => by go_simp⟩) hS ?_
                      refine wpAnyH_take (i := 30) (v := (.bool false)) rfl (by kernel_rfl) (by kernel_rfl) (by kernel_rfl) (fun _ _ _ h => h) (Or.inl ⟨by kernel_rfl, fun w' hS' => by go_simp⟩) hS ?_
                      refine wpAnyH_done (by kernel_rfl) ?_ _
                      go_simp
                      go_wp2_with fail
                      go_meet
                      exact ⟨rfl, hS⟩
                    case rest =>
                      obtain ⟨rfl, hb5⟩ := hcut
                      have HO5 := Lib.hid (row_below ho4.out hb5)
                      have HB5 := Lib.hid (HB4.out.trans (hb5.mono hwz4))
                      clear hb5 HX4 HY4 HZ4 HC1 HC2 HC3 HC4 ho4 HB4 hp1 hp2 hp3 hp4
                      go_wp2
                      go_roundw
                      case rel => exact ⟨k + 1, by omega, by go_num, l ++ [y], HO5, Lib.hid (by rw [hll, HLA.out]; omega), hsz4, HB5⟩
                      case measure => simp [intOf]; omega
            · obtain rfl : k = 4 := by omega
              go_wp2
              go_roundw
              case rel => exact ⟨s + 1, by omega, by go_num, l, HO, Lib.hid (by have := HLA.out; omega), HSZ, HB⟩
              case measure => simp [intOf]; omega
        · obtain rfl : s = 5 := by omega
          go_wp2
          go_roundw
          case rel => exact ⟨a + 1, by omega, by go_num, l, HO, Lib.hid (by have := HLA.out; omega), HSZ, HB⟩
          case measure => simp [intOf]; omega
    · have hda : decide ((a : Int) < 13) = false := decide_eq_false (by omega)
      have hn1 : l.length ≤ 260 := by have := HLA.out; omega
      have HLL := Lib.hid (LSl.own HO.out)
      obtain ⟨w5, hw5⟩ : ∃ W, W = wr := ⟨_, rfl⟩
      rw [← hw5] at HB HLL ⊢
      have HR5 := Lib.hid (HR0.out.below HB.out)
      have hn5 : n0 + 3 ≤ w5.heap.size := by have := HB.out.size; omega
      clear HO hw5
      go_wp2
      go_loopw [11] (fun i wr => ∃ a : Nat, a ≤ 13 ∧ i = .int .i64 a ∧ Hid (Go.RowKit.Below w5.heap.size w5 wr)) (fun i _ => 13 - (intOf i).toNat)
      case atStart => exact ⟨0, by omega, rfl, Lib.hid (Below.refl _ _)⟩
      case round =>
        obtain ⟨b, hb, rfl, HB5⟩ := hrel
        by_cases hblt : b < 13
        · have hdb : decide ((b : Int) < 13) = true := decide_eq_true (by omega)
          obtain ⟨x1, c1, b1, b1'⟩ := HR5.out.int b hblt
          have hc := (HB5.out.cell (p := ⟨n0, b, none⟩) (by show n0 < w5.heap.size; omega)).trans c1
          clear c1
          go_wp2_with (go_at_call 3; ((with_reducible refine (lists_any _ l x1 _ ((HLL.out.below HB5.out).mono HB5.out.size) HSZ.out (by omega)).mono ?_); rintro e w6 ⟨rfl, hb6⟩; have HB6 := Lib.hid (below_two HB5.out hb6); clear hb6))
          go_roundw
          case rel => exact ⟨b + 1, by omega, by go_num, HB6⟩
          case measure => simp [intOf]; omega
        · have hdb : decide ((b : Int) < 13) = false := decide_eq_false (by omega)
          go_wp2_with fail
          refine (four_own _).mono ?_
          rintro e w6 ⟨g6, rfl, ho6, hb6⟩
          have HB6 := Lib.hid (below_two HB5.out hb6)
          have HO6 := Lib.hid ho6
          clear ho6 hb6
          go_wp2_with fail
          refine (four_own _).mono ?_
          rintro e w7 ⟨g7, rfl, ho7, hb7⟩
          have HB7 := Lib.hid (below_two HB6.out hb7)
          have HO7 := Lib.hid (OwnC.of (row_below HO6.out hb7))
          have hnews := ho7.cells (g := g7) rfl
          have HNW := Lib.hid hnews
          have hbs : wr.heap.size ≤ w7.heap.size := by have := (below_two HB5.out (Below.refl wr.heap.size wr)).size; have h1 := HB6.out.size; have h2 := hb7.size; have h3 := (HO6.out.lt g6 rfl); omega
          clear ho7 hb7 hnews HO6
          go_wp2_with (first
            | (at_builtin; refine wpList_append_two _ rfl (.tmp 116) (.tmp 117) 22 rfl wr.heap.size 37 i0 _ 8 80 Tryz.underlying22 H1.out H2.out H3.out H4.out rfl (by decide) _ 4 _ rfl HO7.out ⟨g7, 0, none⟩ 4 4 (lcells exL) rfl rfl HNW.out (lcells_one _) (by omega) (by unfold maxLen; omega) (by omega) hbs ?_; intro v8 w8 ho8 hgr8; have HO8 : Hid (OwnC w8 wr.heap.size 37 8 v8 (exL ++ exL).length (lcells (exL ++ exL))) := Lib.hid (by rw [lcells_append]; exact ho8); have HB8 := Lib.hid (below_grew HB7.out HO7.out HB5.out.size HB7.out.size hgr8.out); have h88 := ho8; obtain ⟨A8, c8, rfl, q1, q2, q3⟩ := own_formC h88; clear ho8 h88 hgr8)
            | (go_at_call 3; ((with_reducible refine (lists_any _ (exL ++ exL) 1 _ HO8.out.lsl ex_sized (by decide)).mono ?_); rintro e w9 ⟨rfl, hb9⟩; have HB9 := Lib.hid (below_two HB8.out hb9); clear hb9))
            | (go_at_call 6; ((with_reducible refine (awake_any _).mono ?_); rintro e w10 ⟨rfl, hb10⟩; have HB10 := Lib.hid (below_two HB9.out hb10); clear hb10)))
          go_ret
          exact ⟨rfl, HB0.out.trans ((HB.out.trans (HB10.out.mono hn5)).mono (by omega))⟩
end Go.Proofs.YtepkmgmooadbjaaGreat
end
section
/- Arguments: a lot by value, a list of lots, as cells. -/
namespace Go.Proofs.YtepkmgmooadbjaaGreat
open Go.ChangeShapes Go.WideShapes Go.ChangeAt Go.RowKit Go.Deep
set_option linter.unusedVariables false
set_option linter.constructorNameAsVariable false
set_option maxRecDepth 100000

theorem lot_of_cells {H : Type} {enc : TypeId × Value → H} {W : World} {base fuel : Nat} {sp : Nat → Bool} {held : Bool} {cs : List Value} {x : DataW H × List MemPlace} (hl : cs.length = 8)
    (h : DataW.trod enc Tryz.prog W base sp held fuel 37 cs = some x) : ∃ y : Lt, cs = encL y ∧ y.Fits := by
  obtain ⟨ys, n, _, _, _, hyl, hf⟩ := DataW.trod_struct Tryz.underlying37 h
  match cs, hl with
  | [c0, c1, c2, c3, c4, c5, c6, c7], _ =>
    have hCI : Tryz.prog.cellsOf 3 = 1 := by kernel_rfl
    have hCL : Tryz.prog.cellsOf 2 = 1 := by kernel_rfl
    have hCS : Tryz.prog.cellsOf 9 = 1 := by kernel_rfl
    have hCT : Tryz.prog.cellsOf 35 = 1 := by kernel_rfl
    obtain ⟨y0, hy0⟩ : ∃ y, ys[0]? = some y := ⟨_, List.getElem?_eq_getElem (by rw [hyl]; decide)⟩
    obtain ⟨y1, hy1⟩ : ∃ y, ys[1]? = some y := ⟨_, List.getElem?_eq_getElem (by rw [hyl]; decide)⟩
    obtain ⟨y2, hy2⟩ : ∃ y, ys[2]? = some y := ⟨_, List.getElem?_eq_getElem (by rw [hyl]; decide)⟩
    obtain ⟨y3, hy3⟩ : ∃ y, ys[3]? = some y := ⟨_, List.getElem?_eq_getElem (by rw [hyl]; decide)⟩
    obtain ⟨y4, hy4⟩ : ∃ y, ys[4]? = some y := ⟨_, List.getElem?_eq_getElem (by rw [hyl]; decide)⟩
    obtain ⟨y5, hy5⟩ : ∃ y, ys[5]? = some y := ⟨_, List.getElem?_eq_getElem (by rw [hyl]; decide)⟩
    obtain ⟨y6, hy6⟩ : ∃ y, ys[6]? = some y := ⟨_, List.getElem?_eq_getElem (by rw [hyl]; decide)⟩
    obtain ⟨y7, hy7⟩ : ∃ y, ys[7]? = some y := ⟨_, List.getElem?_eq_getElem (by rw [hyl]; decide)⟩
    have g0 : DataW.trod enc Tryz.prog W base sp held n 3 [c0] = some y0 := by have h := (hf 0 _ rfl).trans hy0; simpa [hCI, hCL, hCS, hCT] using h
    have g1 : DataW.trod enc Tryz.prog W base sp held n 9 [c1] = some y1 := by have h := (hf 1 _ rfl).trans hy1; simpa [hCI, hCL, hCS, hCT] using h
    have g2 : DataW.trod enc Tryz.prog W base sp held n 2 [c2] = some y2 := by have h := (hf 2 _ rfl).trans hy2; simpa [hCI, hCL, hCS, hCT] using h
    have g3 : DataW.trod enc Tryz.prog W base sp held n 3 [c3] = some y3 := by have h := (hf 3 _ rfl).trans hy3; simpa [hCI, hCL, hCS, hCT] using h
    have g4 : DataW.trod enc Tryz.prog W base sp held n 3 [c4] = some y4 := by have h := (hf 4 _ rfl).trans hy4; simpa [hCI, hCL, hCS, hCT] using h
    have g5 : DataW.trod enc Tryz.prog W base sp held n 35 [c5] = some y5 := by have h := (hf 5 _ rfl).trans hy5; simpa [hCI, hCL, hCS, hCT] using h
    have g6 : DataW.trod enc Tryz.prog W base sp held n 3 [c6] = some y6 := by have h := (hf 6 _ rfl).trans hy6; simpa [hCI, hCL, hCS, hCT] using h
    have g7 : DataW.trod enc Tryz.prog W base sp held n 9 [c7] = some y7 := by have h := (hf 7 _ rfl).trans hy7; simpa [hCI, hCL, hCS, hCT] using h
    obtain ⟨z0, e0, _, b0⟩ := DataW.trod_int Tryz.underlying3 g0
    obtain ⟨z1, e1, _, b1⟩ := DataW.trod_string Tryz.underlying9 g1
    obtain ⟨z2, e2, _, b2⟩ := DataW.trod_int Tryz.underlying2 g2
    obtain ⟨z3, e3, _, b3⟩ := DataW.trod_int Tryz.underlying3 g3
    obtain ⟨z4, e4, _, b4⟩ := DataW.trod_int Tryz.underlying3 g4
    obtain ⟨z5, e5, _, b5⟩ := DataW.trod_int Tryz.underlying35 g5
    obtain ⟨z6, e6, _, b6⟩ := DataW.trod_int Tryz.underlying3 g6
    obtain ⟨z7, e7, _, b7⟩ := DataW.trod_string Tryz.underlying9 g7
    simp only [List.cons.injEq, and_true] at e0 e1 e2 e3 e4 e5 e6 e7
    subst e0 e1 e2 e3 e4 e5 e6 e7
    exact ⟨⟨z0, z1.data.toList, z2, z3, z4, z5, z6, z7.data.toList⟩, rfl, (bounds_i64 b0).1, (bounds_i64 b0).2, by show z1.data.toList.length ≤ maxLen; rw [Array.length_toList]; exact b1, (bounds_i64 b2).1, (bounds_i64 b2).2, (bounds_i64 b3).1, (bounds_i64 b3).2, (bounds_i64 b4).1, (bounds_i64 b4).2, (bounds_u8 b5).1, (bounds_u8 b5).2, (bounds_i64 b6).1, (bounds_i64 b6).2, by show z7.data.toList.length ≤ maxLen; rw [Array.length_toList]; exact b7⟩
/-- A lot that is handed by value. -/
theorem open_lot {H : Type} {enc : TypeId × Value → H} {W : World} {r : Reach} {b0 base : Nat} {sp : Nat → Bool} {held : Bool} {v : Value} {d : DataW H} {p : List MemPlace} (hval : Value.okWide Tryz.prog W r b0 37 v)
    (h : DataW.Trod enc Tryz.prog W base sp held 37 v d p) : ∃ y : Lt, v = aggL y ∧ y.Fits := by
  obtain ⟨cs, rfl, hsz⟩ := okWide_struct Tryz.underlying37 hval
  obtain ⟨l⟩ := cs
  have hC : Tryz.prog.cellsOf 37 = 8 := by kernel_rfl
  have hl : l.length = 8 := by have := hsz.trans hC; simpa using this
  obtain ⟨fuel, hf⟩ := h
  have hf' : DataW.trod enc Tryz.prog W base sp held fuel 37 l = some (d, p) := by simpa [Value.cells] using hf
  obtain ⟨y, rfl, hy⟩ := lot_of_cells hl hf'
  exact ⟨y, rfl, hy⟩

theorem cell_lt {w : World} {p : Addr} {u : Value} (h : w.cell? p = some u) : p.block < w.heap.size := World.block_lt_of_cell? w p h
/-- A list of lots that is handed. -/
theorem open_lots {H : Type} {enc : TypeId × Value → H} {W : World} {r : Reach} {b0 base : Nat} {sp : Nat → Bool} {held : Bool} {v : Value} {d : DataW H} {p : List MemPlace} (hval : Value.okWide Tryz.prog W r b0 22 v)
    (h : DataW.Trod enc Tryz.prog W base sp held 22 v d p) : ∃ l, LSl W W.heap.size v l ∧ Sized l ∧ (l = [] ∨ ∃ elems spare, d = .slice elems spare ∧ l.length = elems.length) := by
  obtain ⟨a0, len0, cap0, rfl⟩ := okWide_slice Tryz.underlying22 hval
  obtain ⟨fuel, hf⟩ := h
  rcases open_slice Tryz.underlying22 hf with ⟨hcs, _⟩ | ⟨a, len, cap, m, n, D, Pl, hcs, _, hl, hm, hmm, hx, hi⟩
  · simp [Value.cells] at hcs
    obtain ⟨rfl, rfl, rfl⟩ := hcs
    exact ⟨[], ⟨none, 0, rfl, Nat.le_refl _, by simp [maxLen], fun _ => rfl, Lies.none⟩, fun x hx => by simp at hx, .inl rfl⟩
  · simp [Value.cells] at hcs
    obtain ⟨rfl, rfl, rfl⟩ := hcs
    have hlm : len0 ≤ m := by rw [hmm]; split <;> omega
    have hC : Tryz.prog.cellsOf 37 = 8 := by kernel_rfl
    have hpt : ∀ i, i < len0 → ∃ y : Lt, y.Fits ∧ ∀ c u, (encL y)[c]? = some u → W.cell? (a.add (i * 8 + c)) = some u := by
      intro i hil
      obtain ⟨cs', hc, ht⟩ := hi i (by omega)
      rw [hC] at hc
      obtain ⟨_, hlen, hat⟩ := World.cells?_some hc
      obtain ⟨y, rfl, hy⟩ := lot_of_cells hlen ht
      refine ⟨y, hy, fun c u hu => ?_⟩
      have hc6 : c < 8 := by have := (List.getElem?_eq_some_iff.1 hu).1; rw [encL_length] at this; exact this
      have := hat c hc6
      rw [addr_add] at this
      rw [this, hu]
    let f : Nat → Lt := fun i => if h : i < len0 then Classical.choose (hpt i h) else default
    have hff : ∀ i, i < len0 → (f i).Fits ∧ ∀ c u, (encL (f i))[c]? = some u → W.cell? (a.add (i * 8 + c)) = some u := by
      intro i hil
      have := Classical.choose_spec (hpt i hil)
      simp only [f, dif_pos hil]
      exact this
    have hlen : ((List.range len0).map f).length = len0 := by simp
    have hget : ∀ k, k < len0 → ((List.range len0).map f)[k]? = some (f k) := fun k hk => by simp [hk]
    refine ⟨(List.range len0).map f, ⟨some a, cap0, by rw [hlen], by omega, hm, fun h => (by cases h), fun hne => ?_⟩, fun q hq => ?_, .inr ?_⟩
    · have h0 : 0 < len0 := by
        rcases Nat.eq_zero_or_pos len0 with h | h
        · subst h; simp [lcells] at hne
        · exact h
      refine ⟨a, rfl, by have := cell_lt ((hff 0 h0).2 0 _ rfl); rw [addr_block] at this; exact this, fun j u hu => ?_⟩
      have hj : j < len0 * 8 := by have := (List.getElem?_eq_some_iff.1 hu).1; rw [lcells_length, hlen] at this; exact this
      have hk : j / 8 < len0 := by omega
      have := lcells_get _ _ _ (hget (j / 8) hk) (j % 8) (by omega)
      rw [show j / 8 * 8 + j % 8 = j by omega] at this
      rw [this] at hu
      have := (hff (j / 8) hk).2 (j % 8) u hu
      rwa [show j / 8 * 8 + j % 8 = j by omega] at this
    · obtain ⟨k, hk, rfl⟩ := List.mem_map.1 hq
      exact (hff k (by simpa using hk)).1
    · simp only [Prod.mk.injEq] at hx
      exact ⟨_, _, hx.1, by simp⟩

theorem own_knob : ownKnob Tryz.prog.godebug = none := by kernel_rfl
/-- What a law leaves behind: nothing that was there has turned. -/
theorem post_below {H : Type} {enc : TypeId × Value → H} {P : Program} {f : Func} {s : ChangeSpec} {apart fresh handsOn : Bool} {W W' : World} {args : Array Value} {v : Value} {ds gs : List (DataW H)} {before pa pv : List MemPlace}
    (hW : DataW.Whole enc P f.params.toList s.vars apart W args.toList ds gs before)
    (hres : ∀ (b : Nat) (sp : Nat → Bool) (hd : Bool), DataW.TrodAll enc P W' b sp hd f.resultTypes.toList (v.resultList f.resultTypes.size) (s.fn H (ds ++ gs)).results [])
    (hargs : DataW.TrodAll enc P W' 0 (fun b => decide (b < W.heap.size)) true f.params.toList args.toList (s.fn H (ds ++ gs)).args pa)
    (hvars : DataW.TrodVars enc P W' (fun b => decide (b < W.heap.size)) s.vars (s.fn H (ds ++ gs)).vars pv)
    (hb : Below W.heap.size W W') : s.post enc P f apart fresh handsOn false W args v W' :=
  ⟨ds, gs, before, [], pa, pv, hW, hres _ _ _, hargs, hvars, hb.frame _, fun h => by cases h⟩
theorem laid_out : laidOutB Tryz.prog = true := by kernel_rfl
end Go.Proofs.YtepkmgmooadbjaaGreat
end
