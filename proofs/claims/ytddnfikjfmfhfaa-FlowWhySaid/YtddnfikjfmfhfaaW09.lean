/- Texts of this proof, one behind the other. -/
import Derived.Deep.QuietTactic
import Derived.BigQuiet
import Derived.Test.YtddnfikjfmfhfaaW08
section
/- flow.Check. -/
namespace Go.Proofs.Ytddnfikjfmfhfaa
open Go.ChangeShapes Go.WideShapes Go.ChangeAt Go.RowKit Go.Maps
set_option linter.unusedVariables false
set_option maxHeartbeats 4000000 in
set_option maxRecDepth 100000 in
theorem check_may (v1 v2 v3 : Value) (l : List Lt) (ws : List Wt) (us : List Us) (w : World) (hl : l.length ≤ 1099511627776) (hw : ws.length ≤ 1099511627776) (hu : us.length ≤ 1099511627776) (hs : Sized l) (hsu : SizedU us) (h1 : LSl w w.heap.size v1 l) (h2 : WSl w w.heap.size v2 ws) (h3 : USl w w.heap.size v3 us) (hb : mayB l ws = true) :
    Calls Try.prog 23 #[v1, v2, v3] w fun e w' => e = .returned (.bool (checkB l ws us)) ∧ Below w.heap.size w w' := by
  obtain ⟨hl3, hw3, hlr, hwr, hnd⟩ := mayB_true hb
  have HV1 := Lib.hid h1
  have HV2 := Lib.hid h2
  have HV3 := Lib.hid h3
  have HS := Lib.hid hs
  have HSU := Lib.hid hsu
  obtain ⟨A, c, rfl, hc1, hc2, hcz, _⟩ := id h1
  obtain ⟨A2, c2, rfl, hc3, hc4, hcz2, _⟩ := id h2
  obtain ⟨A3, c3, rfl, hc5, hc6, hcz3, _⟩ := id h3
  have HB := Lib.hid hb
  obtain ⟨bb, hbb⟩ : ∃ bb, checkGo l ws us (qtyOf l) (ws.map Wt.qty) = bb := ⟨_, rfl⟩
  have HBB : Hid (checkB l ws us = bb) := Lib.hid (by unfold checkB; rw [hb, hbb]; rfl)
  have HGO : Hid (checkGo l ws (us.drop 0) (qtyOf l) (ws.map Wt.qty) = bb) := Lib.hid (by simpa using hbb)
  have HQ0 : Hid (∀ i, 0 ≤ qtyOf l i ∧ qtyOf l i ≤ 1073741824) := Lib.hid (fun i => qtyOf_range hlr i)
  have HN0 : Hid (∀ n ∈ ws.map Wt.qty, 0 ≤ n ∧ n ≤ 1125899906842624) := Lib.hid (fun n hn => by
    obtain ⟨x, hx, rfl⟩ := List.mem_map.1 hn
    have := wantB_parts (hwr x hx); omega)
  have HWR := Lib.hid hwr
  have HND := Lib.hid hnd
  clear h1 h2 h3 hs hsu hb hbb hlr hwr hnd
  go_enter Try.func23, Try.ntmps23
  go_wp2_with (first
    | (go_at_call 37; ((with_reducible refine (together_any _ _ l ws _ hl hw HS.out HV1.out HV2.out).mono ?_); rintro e w1 ⟨rfl, hb1'⟩; rw [HB.out]; have hb1 := Lib.hid hb1'; clear hb1'))
    | (go_at_call 38; ((with_reducible refine (quantities_any _ l _ hl HS.out (HV1.out.at_ hb1.out)).mono ?_); rintro e w2 ⟨bl, rfl, hq', hbl', hb2'⟩; have hq := Lib.hid hq'; have hbl := Lib.hid hbl'; have hb2 := Lib.hid (below_two hb1.out hb2'); clear hq' hb2' hbl'))
    | (go_at_call 39; ((with_reducible refine (byId_any _ l _ hl HS.out (HV1.out.at_ hb2.out)).mono ?_); rintro e w3 ⟨bf, D, rfl, hD', hM', hbf', hb3'⟩; have hf := Lib.hid (ById.mapOf hD' hM'); have hbf := Lib.hid hbf'; have hq3 := Lib.hid (hq.out.below hb3'); have hb3 := Lib.hid (below_two hb2.out hb3'); clear hD' hM' hb3' hbf'))
    | (go_at_call 40; ((with_reducible refine (needs_any _ ws _ hw (HV2.out.at_ hb3.out)).mono ?_); rintro e w4 ⟨rfl, ho', hb4'⟩; have ho := Lib.hid ho'; have hq4 := Lib.hid (hq3.out.below hb4'); have hf4 := Lib.hid (hf.out.below hb4'); have hb4 := Lib.hid (below_two hb3.out hb4'); clear ho' hb4')))
  obtain ⟨gn, hgn, hgnle⟩ : ∃ gn, w3.heap.size = gn ∧ w3.heap.size ≤ gn := ⟨_, rfl, Nat.le_refl _⟩
  rw [hgn] at ho
  have hblf : bl < bf := by have := hq.out.lt; have := hbf.out; omega
  have hbfg : bf < gn := by have := hf.out.lt; omega
  have hbl0 : w.heap.size ≤ bl := Nat.le_trans hb1.out.size hbl.out
  have HO0 : Hid (w4.ownsRow gn 2 1 (.slice (some ⟨gn, 0, none⟩) ws.length ws.length) ws.length (ncells (ws.map Wt.qty))) := Lib.hid ho.out
  try rw [hgn]
  clear hgn hgnle hb1 hb2 hb3 hbl hbf hq hq3 hf ho HB
  go_loopw [24] (fun i wr => ∃ (k : Nat) (q : Int → Int) (nd : List Int), k ≤ us.length ∧ i = .int .i64 k ∧ Hid (checkGo l ws (us.drop k) q nd = bb) ∧ Hid (nd.length = ws.length) ∧
      Hid (IMap (.int .i64 0) wr bl l.length (fun i => .int .i64 (q i)) (fun i => i ∈ l.map Lt.id)) ∧ Hid (IMap (aggL zeroL) wr bf l.length (fun i => aggL (foundL l i)) (fun i => i ∈ l.map Lt.id)) ∧
      Hid (wr.ownsRow gn 2 1 (.slice (some ⟨gn, 0, none⟩) ws.length ws.length) ws.length (ncells nd)) ∧ Hid (Below w.heap.size w wr) ∧ Hid (∀ i, 0 ≤ q i ∧ q i ≤ 1073741824) ∧ Hid (∀ n ∈ nd, 0 ≤ n ∧ n ≤ 1125899906842624))
    (fun i _ => us.length - (intOf i).toNat)
  case atStart => exact ⟨0, qtyOf l, ws.map Wt.qty, Nat.zero_le _, rfl, HGO, Lib.hid (by simp), hq4, hf4, HO0, hb4, HQ0, HN0⟩
  case round =>
    clear HGO hq4 hf4 HO0 hb4 HQ0 HN0
    obtain ⟨k, q, nd, hk, rfl, HG, HNL, HQM, HFM, HO, HBr, HQ, HN⟩ := hrel
    by_cases hlt : k < us.length
    · obtain ⟨u, hu⟩ : ∃ u, us[k]? = some u := ⟨_, List.getElem?_eq_getElem hlt⟩
      obtain ⟨_, _, he, _, _, _, hLU⟩ := (HV3.out.below HBr.out)
      cases he
      obtain ⟨ad3, rfl, hab3, hr0, hr1, hr2⟩ := hLU.rowU hu
      have HU := Lib.hid hu
      obtain ⟨hf0, hf1, hf2, hf3, hf4, hf5⟩ := HSU.out u (List.mem_of_getElem? hu)
      obtain ⟨bu, hbu, hbule⟩ : ∃ bu, wr.heap.size = bu ∧ wr.heap.size ≤ bu := ⟨_, rfl, Nat.le_refl _⟩
      obtain ⟨W5, hW5⟩ : ∃ W5, W5 = wr.alloc (.cells #[.int .i64 u.want, .int .i64 u.lot, .int .i64 u.qty] 44) := ⟨_, rfl⟩
      have HUA : Hid (UseAt W5 bu u) := Lib.hid (by rw [hW5, ← hbu]; exact useAt_new wr u)
      have HB5 : Hid (Below w.heap.size w W5) := Lib.hid (by rw [hW5]; exact HBr.out.alloc HBr.out.size _)
      have HQ5 : Hid (IMap (.int .i64 0) W5 bl l.length (fun i => .int .i64 (q i)) (fun i => i ∈ l.map Lt.id)) := Lib.hid (by rw [hW5]; exact HQM.out.alloc _)
      have HF5 : Hid (IMap (aggL zeroL) W5 bf l.length (fun i => aggL (foundL l i)) (fun i => i ∈ l.map Lt.id)) := Lib.hid (by rw [hW5]; exact HFM.out.alloc _)
      have HO5 : Hid (W5.ownsRow gn 2 1 (.slice (some ⟨gn, 0, none⟩) ws.length ws.length) ws.length (ncells nd)) := Lib.hid (by rw [hW5]; exact HO.out.alloc _)
      have hgb : gn < bu := by have := (HO.out.lt gn rfl).2; omega
      have hbuW : bu < W5.heap.size := by rw [hW5, ← hbu]; simp
      have HBUE := Lib.hid hbu
      have HW5E := Lib.hid hW5
      clear hu HQM HFM HO hbu hW5
      by_cases ha : u.want < 0
      · have hd : decide (u.want < 0) = true := decide_eq_true ha
        go_wp2
        go_ret
        exact ⟨ret_bool (by rw [HBB.out]; exact (check_out HG.out HU.out (.inl ha)).symm), by have := HB5.out; rw [HW5E.out] at this; exact this⟩
      · have hd : decide (u.want < 0) = false := decide_eq_false ha
        by_cases hbq : (ws.length : Int) ≤ u.want
        · have hd2 : decide ((ws.length : Int) ≤ u.want) = true := decide_eq_true hbq
          go_wp2
          go_ret
          exact ⟨ret_bool (by rw [HBB.out]; exact (check_out HG.out HU.out (.inr hbq)).symm), by have := HB5.out; rw [HW5E.out] at this; exact this⟩
        · have hd2 : decide ((ws.length : Int) ≤ u.want) = false := decide_eq_false hbq
          obtain ⟨p, hp⟩ : ∃ p : Nat, u.want = p := ⟨u.want.toNat, by omega⟩
          have hpl : p < ws.length := by omega
          obtain ⟨x, hx⟩ : ∃ x, ws[p]? = some x := ⟨_, List.getElem?_eq_getElem hpl⟩
          obtain ⟨n, hn⟩ : ∃ n, nd[p]? = some n := ⟨_, List.getElem?_eq_getElem (by rw [HNL.out]; exact hpl)⟩
          obtain ⟨_, _, he, _, _, _, hLW⟩ := (HV2.out.below HB5.out)
          cases he
          obtain ⟨ad, rfl, hab, hw0, hw1, hw2⟩ := hLW.rowW hx
          have HX := Lib.hid hx
          have HNN := Lib.hid hn
          have HP := Lib.hid hp
          have HW9 : Hid (RowW W5 (ad.add (p * 3)) x) := Lib.hid ⟨hw0, hw1, hw2⟩
          clear hx hn hw0 hw1 hw2
          rw [hp] at hd hd2
          have hW5 := HW5E.out
          rw [hp] at hW5
          have HW5F := Lib.hid hW5
          clear hW5
          go_wp2_with fail
          rw [← HW5F.out]
          try rw [HBUE.out]
          clear hr0 hr1 hr2 hd hd2
          have H9 : Hid (∀ w', Below W5.heap.size W5 w' → UseAt w' bu u ∧ RowW w' (ad.add (p * 3)) x ∧ (Instr.lookup 65 (.map (some bf)) (.int .i64 u.lot) false).run Try.prog w' = .ok (aggL (foundL l u.lot)) w') := Lib.hid (fun w' h => by
            have had : (ad.add (p * 3)).block < W5.heap.size := by have h0 := Nat.lt_of_lt_of_le hab HB5.out.size; unfold Addr.add; split <;> exact h0
            refine ⟨HUA.out.kept (fun o => h.cell (p := ⟨bu, o, none⟩) hbuW), ⟨(h.cell (p := ad.add (p * 3)) had).trans HW9.out.1, (h.cell (p := ⟨(ad.add (p * 3)).block, (ad.add (p * 3)).off + 1, none⟩) had).trans HW9.out.2.1, (h.cell (p := ⟨(ad.add (p * 3)).block, (ad.add (p * 3)).off + 2, none⟩) had).trans HW9.out.2.2⟩, ?_⟩
            exact (HF5.out.below h).look ikeyed Try.underlying65 (zeroLot_run _) (ikey_of u.lot hf2 hf3))
          obtain ⟨b0, hb0⟩ : ∃ b0, servesB (foundL l u.lot) x = b0 := ⟨_, rfl⟩
          have HB0 := Lib.hid hb0
          clear hb0
          cases b0
          · refine wp_region_held_drew (S := fun w' => Below W5.heap.size W5 w') (by kernel_rfl) (below_draws (Below.refl _ _) 1) (fun hS => ?_)
            refine wpAnyH_take (i := 0) (v := (.map (some bf))) rfl (by kernel_rfl) (by kernel_rfl) (by kernel_rfl) (fun _ _ _ h => h) (Or.inl ⟨by kernel_rfl, fun w' hS' => by go_simp⟩) hS ?_
            refine wpAnyH_take (i := 1) (v := (.pointer (some ⟨bu, 1, none⟩))) rfl (by kernel_rfl) (by kernel_rfl) (by kernel_rfl) (fun _ _ _ h => h) (Or.inl ⟨by kernel_rfl, fun w' hS' => by go_simp⟩) hS ?_
            refine wpAnyH_take (i := 2) (v := (.int .i64 u.lot)) rfl (by kernel_rfl) (by kernel_rfl) (by kernel_rfl) (fun _ _ _ h => h) (Or.inl ⟨by kernel_rfl, fun w' hS' => by obtain ⟨⟨d0, d1, d2⟩, ⟨x0, x1, x2⟩, hlk⟩ := H9.out w' hS'; go_simp⟩) hS ?_
            refine wpAnyH_take (i := 3) (v := (aggL (foundL l u.lot))) rfl (by kernel_rfl) (by kernel_rfl) (by kernel_rfl) (fun _ _ _ h => h) (Or.inl ⟨by kernel_rfl, fun w' hS' => by obtain ⟨⟨d0, d1, d2⟩, ⟨x0, x1, x2⟩, hlk⟩ := H9.out w' hS'; go_simp⟩) hS ?_
            refine wpAnyH_take (i := 4) (v := (.slice (some ad) ws.length c2)) rfl (by kernel_rfl) (by kernel_rfl) (by kernel_rfl) (fun _ _ _ h => h) (Or.inl ⟨by kernel_rfl, fun w' hS' => by go_simp⟩) hS ?_
            refine wpAnyH_take (i := 5) (v := (.pointer (some ⟨bu, 0, none⟩))) rfl (by kernel_rfl) (by kernel_rfl) (by kernel_rfl) (fun _ _ _ h => h) (Or.inl ⟨by kernel_rfl, fun w' hS' => by go_simp⟩) hS ?_
            refine wpAnyH_take (i := 6) (v := (.int .i64 (p : Int))) rfl (by kernel_rfl) (by kernel_rfl) (by kernel_rfl) (fun _ _ _ h => h) (Or.inl ⟨by kernel_rfl, fun w' hS' => by obtain ⟨⟨d0, d1, d2⟩, ⟨x0, x1, x2⟩, hlk⟩ := H9.out w' hS'; go_simp⟩) hS ?_
            refine wpAnyH_take (i := 7) (v := (.pointer (some (ad.add (p * 3))))) rfl (by kernel_rfl) (by kernel_rfl) (by kernel_rfl) (fun _ _ _ h => h) (Or.inl ⟨by kernel_rfl, fun w' hS' => by go_simp⟩) hS ?_
            refine wpAnyH_take (i := 8) (v := (aggW x)) rfl (by kernel_rfl) (by kernel_rfl) (by kernel_rfl) (fun _ _ _ h => h) (Or.inl ⟨by kernel_rfl, fun w' hS' => by obtain ⟨⟨d0, d1, d2⟩, ⟨x0, x1, x2⟩, hlk⟩ := H9.out w' hS'; go_simp⟩) hS ?_
            refine wpAnyH_ready (rs := [9]) (by kernel_rfl) (by simp) ?_
            refine AllReadyH.cons rfl (fun K hK => ?_) AllReadyH.nil
            go_simp
            refine (canServe_b false _ x _ HB0.out).mono ?_
            rintro e w9 ⟨rfl, hb9'⟩
            have hb9 : Hid (Below W5.heap.size W5 w9) := Lib.hid ((below_draws (Below.refl W5.heap.size W5) 1).trans hb9')
            clear hb9' hS
            refine hK.out _ _ hb9.out (fun hS => ?_)
            clear hK K
            refine wpAnyH_take (i := 10) (v := (.bool true)) rfl (by kernel_rfl) (by kernel_rfl) (by kernel_rfl) (fun _ _ _ h => h) (Or.inl ⟨by kernel_rfl, fun w' hS' => by go_simp⟩) hS ?_
            refine wpAnyH_done (by kernel_rfl) ?_ _
            go_simp
            rename_i hnext
            refine hnext _ _ ?_
            clear hnext hS
            go_wp2
            go_ret
            exact ⟨ret_bool (by rw [HBB.out]; exact (check_bad HG.out HU.out HP.out HX.out HNN.out (by unfold useOk; rw [HB0.out]; rfl)).symm), HB5.out.trans (hb9.out.mono HB5.out.size)⟩
          · refine wp_region_held_drew (S := fun w' => Below W5.heap.size W5 w') (by kernel_rfl) (below_draws (Below.refl _ _) 1) (fun hS => ?_)
            refine wpAnyH_take (i := 0) (v := (.map (some bf))) rfl (by kernel_rfl) (by kernel_rfl) (by kernel_rfl) (fun _ _ _ h => h) (Or.inl ⟨by kernel_rfl, fun w' hS' => by go_simp⟩) hS ?_
            refine wpAnyH_take (i := 1) (v := (.pointer (some ⟨bu, 1, none⟩))) rfl (by kernel_rfl) (by kernel_rfl) (by kernel_rfl) (fun _ _ _ h => h) (Or.inl ⟨by kernel_rfl, fun w' hS' => by go_simp⟩) hS ?_
            refine wpAnyH_take (i := 2) (v := (.int .i64 u.lot)) rfl (by kernel_rfl) (by kernel_rfl) (by kernel_rfl) (fun _ _ _ h => h) (Or.inl ⟨by kernel_rfl, fun w' hS' => by obtain ⟨⟨d0, d1, d2⟩, ⟨x0, x1, x2⟩, hlk⟩ := H9.out w' hS'; go_simp⟩) hS ?_
            refine wpAnyH_take (i := 3) (v := (aggL (foundL l u.lot))) rfl (by kernel_rfl) (by kernel_rfl) (by kernel_rfl) (fun _ _ _ h => h) (Or.inl ⟨by kernel_rfl, fun w' hS' => by obtain ⟨⟨d0, d1, d2⟩, ⟨x0, x1, x2⟩, hlk⟩ := H9.out w' hS'; go_simp⟩) hS ?_
            refine wpAnyH_take (i := 4) (v := (.slice (some ad) ws.length c2)) rfl (by kernel_rfl) (by kernel_rfl) (by kernel_rfl) (fun _ _ _ h => h) (Or.inl ⟨by kernel_rfl, fun w' hS' => by go_simp⟩) hS ?_
            refine wpAnyH_take (i := 5) (v := (.pointer (some ⟨bu, 0, none⟩))) rfl (by kernel_rfl) (by kernel_rfl) (by kernel_rfl) (fun _ _ _ h => h) (Or.inl ⟨by kernel_rfl, fun w' hS' => by go_simp⟩) hS ?_
            refine wpAnyH_take (i := 6) (v := (.int .i64 (p : Int))) rfl (by kernel_rfl) (by kernel_rfl) (by kernel_rfl) (fun _ _ _ h => h) (Or.inl ⟨by kernel_rfl, fun w' hS' => by obtain ⟨⟨d0, d1, d2⟩, ⟨x0, x1, x2⟩, hlk⟩ := H9.out w' hS'; go_simp⟩) hS ?_
            refine wpAnyH_take (i := 7) (v := (.pointer (some (ad.add (p * 3))))) rfl (by kernel_rfl) (by kernel_rfl) (by kernel_rfl) (fun _ _ _ h => h) (Or.inl ⟨by kernel_rfl, fun w' hS' => by go_simp⟩) hS ?_
            refine wpAnyH_take (i := 8) (v := (aggW x)) rfl (by kernel_rfl) (by kernel_rfl) (by kernel_rfl) (fun _ _ _ h => h) (Or.inl ⟨by kernel_rfl, fun w' hS' => by obtain ⟨⟨d0, d1, d2⟩, ⟨x0, x1, x2⟩, hlk⟩ := H9.out w' hS'; go_simp⟩) hS ?_
            refine wpAnyH_ready (rs := [9]) (by kernel_rfl) (by simp) ?_
            refine AllReadyH.cons rfl (fun K hK => ?_) AllReadyH.nil
            go_simp
            refine (canServe_b true _ x _ HB0.out).mono ?_
            rintro e w9 ⟨rfl, hb9'⟩
            have hb9 : Hid (Below W5.heap.size W5 w9) := Lib.hid ((below_draws (Below.refl W5.heap.size W5) 1).trans hb9')
            clear hb9' hS
            refine hK.out _ _ hb9.out (fun hS => ?_)
            clear hK K
            refine wpAnyH_take (i := 10) (v := (.bool false)) rfl (by kernel_rfl) (by kernel_rfl) (by kernel_rfl) (fun _ _ _ h => h) (Or.inl ⟨by kernel_rfl, fun w' hS' => by go_simp⟩) hS ?_
            refine wpAnyH_done (by kernel_rfl) ?_ _
            go_simp
            rename_i hnext
            refine hnext _ _ ?_
            clear hnext hS
            go_wp2_with fail
            have hbu9 : bu < w9.heap.size := Nat.lt_of_lt_of_le hbuW hb9.out.size
            have HU9 : Hid (UseAt w9 bu u) := Lib.hid (H9.out w9 hb9.out).1
            have HQ9 := Lib.hid (HQ5.out.below hb9.out)
            have HF9 := Lib.hid (HF5.out.below hb9.out)
            have HO9 := Lib.hid (HO5.out.kept (below_none0 hb9.out) (by simp [Value.ownBlock]))
            have HB9 : Hid (Below w.heap.size w w9) := Lib.hid (HB5.out.trans (hb9.out.mono HB5.out.size))
            have hgn9 : gn < w9.heap.size := Nat.lt_trans hgb hbu9
            have H11 : Hid (∀ w', Below w9.heap.size w9 w' → UseAt w' bu u ∧ (Instr.lookup 54 (.map (some bl)) (.int .i64 u.lot) false).run Try.prog w' = .ok (.int .i64 (q u.lot)) w' ∧ w'.cell? ⟨gn, p, none⟩ = some (.int .i64 n)) := Lib.hid (fun w' h => by
              refine ⟨HU9.out.kept (fun o => h.cell (p := ⟨bu, o, none⟩) hbu9), (HQ9.out.below h).look ikeyed Try.underlying54 (zero64_run _) (ikey_of u.lot hf2 hf3), ?_⟩
              rw [h.cell (p := ⟨gn, p, none⟩) hgn9, HO9.out.cellAt p (by omega)]
              simp [ncells, HNN.out])
            clear HQ5 HF5 HO5 H9 HUA
            by_cases q1 : u.qty < 1
            · have e1 : decide (u.qty < 1) = true := decide_eq_true q1
              have Q1 := Lib.hid e1
              clear q1
              refine wp_region_held_drew (S := fun w' => Below w9.heap.size w9 w') (by kernel_rfl) (below_draws (Below.refl _ _) 1) (fun hS => ?_)
              refine wpAnyH_take (i := 0) (v := (.pointer (some ⟨bu, 2, none⟩))) rfl (by kernel_rfl) (by kernel_rfl) (by kernel_rfl) (fun _ _ _ h => h) (Or.inl ⟨by kernel_rfl, fun w' hS' => by go_simp⟩) hS ?_
              refine wpAnyH_take (i := 1) (v := (.int .i64 u.qty)) rfl (by kernel_rfl) (by kernel_rfl) (by kernel_rfl) (fun _ _ _ h => h) (Or.inl ⟨by kernel_rfl, fun w' hS' => by obtain ⟨⟨d0, d1, d2⟩, hlk, dn⟩ := H11.out w' hS'; go_simp⟩) hS ?_
              refine wpAnyH_take (i := 2) (v := (.bool true)) rfl (by kernel_rfl) (by kernel_rfl) (by kernel_rfl) (fun _ _ _ h => h) (Or.inl ⟨by kernel_rfl, fun w' hS' => by go_simp⟩) hS ?_
              refine wpAnyH_take (i := 3) (v := (.bool true)) rfl (by kernel_rfl) (by kernel_rfl) (by kernel_rfl) (fun _ _ _ h => h) (Or.inl ⟨by kernel_rfl, fun w' hS' => by go_simp⟩) hS ?_
              refine wpAnyH_take (i := 4) (v := (undef)) rfl (by kernel_rfl) (by kernel_rfl) (by kernel_rfl) (fun _ _ _ h => h) (Or.inr ⟨by kernel_rfl, rfl⟩) hS ?_
              refine wpAnyH_take (i := 5) (v := (undef)) rfl (by kernel_rfl) (by kernel_rfl) (by kernel_rfl) (fun _ _ _ h => h) (Or.inr ⟨by kernel_rfl, rfl⟩) hS ?_
              refine wpAnyH_take (i := 6) (v := (undef)) rfl (by kernel_rfl) (by kernel_rfl) (by kernel_rfl) (fun _ _ _ h => h) (Or.inr ⟨by kernel_rfl, rfl⟩) hS ?_
              refine wpAnyH_take (i := 7) (v := (undef)) rfl (by kernel_rfl) (by kernel_rfl) (by kernel_rfl) (fun _ _ _ h => h) (Or.inr ⟨by kernel_rfl, rfl⟩) hS ?_
              refine wpAnyH_take (i := 8) (v := (undef)) rfl (by kernel_rfl) (by kernel_rfl) (by kernel_rfl) (fun _ _ _ h => h) (Or.inr ⟨by kernel_rfl, rfl⟩) hS ?_
              refine wpAnyH_take (i := 9) (v := (undef)) rfl (by kernel_rfl) (by kernel_rfl) (by kernel_rfl) (fun _ _ _ h => h) (Or.inr ⟨by kernel_rfl, rfl⟩) hS ?_
              refine wpAnyH_take (i := 10) (v := (undef)) rfl (by kernel_rfl) (by kernel_rfl) (by kernel_rfl) (fun _ _ _ h => h) (Or.inr ⟨by kernel_rfl, rfl⟩) hS ?_
              refine wpAnyH_take (i := 11) (v := (.bool true)) rfl (by kernel_rfl) (by kernel_rfl) (by kernel_rfl) (fun _ _ _ h => h) (Or.inl ⟨by kernel_rfl, fun w' hS' => by go_simp⟩) hS ?_
              refine wpAnyH_take (i := 12) (v := (.bool true)) rfl (by kernel_rfl) (by kernel_rfl) (by kernel_rfl) (fun _ _ _ h => h) (Or.inl ⟨by kernel_rfl, fun w' hS' => by go_simp⟩) hS ?_
              refine wpAnyH_take (i := 13) (v := (undef)) rfl (by kernel_rfl) (by kernel_rfl) (by kernel_rfl) (fun _ _ _ h => h) (Or.inr ⟨by kernel_rfl, rfl⟩) hS ?_
              refine wpAnyH_take (i := 14) (v := (undef)) rfl (by kernel_rfl) (by kernel_rfl) (by kernel_rfl) (fun _ _ _ h => h) (Or.inr ⟨by kernel_rfl, rfl⟩) hS ?_
              refine wpAnyH_take (i := 15) (v := (undef)) rfl (by kernel_rfl) (by kernel_rfl) (by kernel_rfl) (fun _ _ _ h => h) (Or.inr ⟨by kernel_rfl, rfl⟩) hS ?_
              refine wpAnyH_take (i := 16) (v := (undef)) rfl (by kernel_rfl) (by kernel_rfl) (by kernel_rfl) (fun _ _ _ h => h) (Or.inr ⟨by kernel_rfl, rfl⟩) hS ?_
              refine wpAnyH_take (i := 17) (v := (undef)) rfl (by kernel_rfl) (by kernel_rfl) (by kernel_rfl) (fun _ _ _ h => h) (Or.inr ⟨by kernel_rfl, rfl⟩) hS ?_
              refine wpAnyH_take (i := 18) (v := (undef)) rfl (by kernel_rfl) (by kernel_rfl) (by kernel_rfl) (fun _ _ _ h => h) (Or.inr ⟨by kernel_rfl, rfl⟩) hS ?_
              refine wpAnyH_take (i := 19) (v := (undef)) rfl (by kernel_rfl) (by kernel_rfl) (by kernel_rfl) (fun _ _ _ h => h) (Or.inr ⟨by kernel_rfl, rfl⟩) hS ?_
              refine wpAnyH_take (i := 20) (v := (undef)) rfl (by kernel_rfl) (by kernel_rfl) (by kernel_rfl) (fun _ _ _ h => h) (Or.inr ⟨by kernel_rfl, rfl⟩) hS ?_
              refine wpAnyH_take (i := 21) (v := (.bool true)) rfl (by kernel_rfl) (by kernel_rfl) (by kernel_rfl) (fun _ _ _ h => h) (Or.inl ⟨by kernel_rfl, fun w' hS' => by go_simp⟩) hS ?_
              refine wpAnyH_done (by kernel_rfl) ?_ _
              go_simp
              rename_i hnext
              refine hnext _ _ ?_
              clear hnext
              go_wp2
              go_ret
              exact ⟨ret_bool (by rw [HBB.out]; exact (check_bad HG.out HU.out HP.out HX.out HNN.out (by unfold useOk; rw [HB0.out, Q1.out]; simp)).symm), below_draws HB9.out 1⟩
            · have e1 : decide (u.qty < 1) = false := decide_eq_false q1
              by_cases q2 : q u.lot < u.qty
              · have e2 : decide (q u.lot < u.qty) = true := decide_eq_true q2
                have Q1 := Lib.hid e2
                clear q2
                refine wp_region_held_drew (S := fun w' => Below w9.heap.size w9 w') (by kernel_rfl) (below_draws (Below.refl _ _) 1) (fun hS => ?_)
                refine wpAnyH_take (i := 0) (v := (.pointer (some ⟨bu, 2, none⟩))) rfl (by kernel_rfl) (by kernel_rfl) (by kernel_rfl) (fun _ _ _ h => h) (Or.inl ⟨by kernel_rfl, fun w' hS' => by go_simp⟩) hS ?_
                refine wpAnyH_take (i := 1) (v := (.int .i64 u.qty)) rfl (by kernel_rfl) (by kernel_rfl) (by kernel_rfl) (fun _ _ _ h => h) (Or.inl ⟨by kernel_rfl, fun w' hS' => by obtain ⟨⟨d0, d1, d2⟩, hlk, dn⟩ := H11.out w' hS'; go_simp⟩) hS ?_
                refine wpAnyH_take (i := 2) (v := (.bool false)) rfl (by kernel_rfl) (by kernel_rfl) (by kernel_rfl) (fun _ _ _ h => h) (Or.inl ⟨by kernel_rfl, fun w' hS' => by go_simp⟩) hS ?_
                refine wpAnyH_take (i := 3) (v := (.bool false)) rfl (by kernel_rfl) (by kernel_rfl) (by kernel_rfl) (fun _ _ _ h => h) (Or.inl ⟨by kernel_rfl, fun w' hS' => by go_simp⟩) hS ?_
                refine wpAnyH_take (i := 4) (v := (.pointer (some ⟨bu, 2, none⟩))) rfl (by kernel_rfl) (by kernel_rfl) (by kernel_rfl) (fun _ _ _ h => h) (Or.inl ⟨by kernel_rfl, fun w' hS' => by go_simp⟩) hS ?_
                refine wpAnyH_take (i := 5) (v := (.int .i64 u.qty)) rfl (by kernel_rfl) (by kernel_rfl) (by kernel_rfl) (fun _ _ _ h => h) (Or.inl ⟨by kernel_rfl, fun w' hS' => by obtain ⟨⟨d0, d1, d2⟩, hlk, dn⟩ := H11.out w' hS'; go_simp⟩) hS ?_
                refine wpAnyH_take (i := 6) (v := (.map (some bl))) rfl (by kernel_rfl) (by kernel_rfl) (by kernel_rfl) (fun _ _ _ h => h) (Or.inl ⟨by kernel_rfl, fun w' hS' => by go_simp⟩) hS ?_
                refine wpAnyH_take (i := 7) (v := (.pointer (some ⟨bu, 1, none⟩))) rfl (by kernel_rfl) (by kernel_rfl) (by kernel_rfl) (fun _ _ _ h => h) (Or.inl ⟨by kernel_rfl, fun w' hS' => by go_simp⟩) hS ?_
                refine wpAnyH_take (i := 8) (v := (.int .i64 u.lot)) rfl (by kernel_rfl) (by kernel_rfl) (by kernel_rfl) (fun _ _ _ h => h) (Or.inl ⟨by kernel_rfl, fun w' hS' => by obtain ⟨⟨d0, d1, d2⟩, hlk, dn⟩ := H11.out w' hS'; go_simp⟩) hS ?_
                refine wpAnyH_take (i := 9) (v := (.int .i64 (q u.lot))) rfl (by kernel_rfl) (by kernel_rfl) (by kernel_rfl) (fun _ _ _ h => h) (Or.inl ⟨by kernel_rfl, fun w' hS' => by obtain ⟨⟨d0, d1, d2⟩, hlk, dn⟩ := H11.out w' hS'; go_simp⟩) hS ?_
                refine wpAnyH_take (i := 10) (v := (.bool true)) rfl (by kernel_rfl) (by kernel_rfl) (by kernel_rfl) (fun _ _ _ h => h) (Or.inl ⟨by kernel_rfl, fun w' hS' => by go_simp⟩) hS ?_
                refine wpAnyH_take (i := 11) (v := (.bool true)) rfl (by kernel_rfl) (by kernel_rfl) (by kernel_rfl) (fun _ _ _ h => h) (Or.inl ⟨by kernel_rfl, fun w' hS' => by go_simp⟩) hS ?_
                refine wpAnyH_take (i := 12) (v := (.bool true)) rfl (by kernel_rfl) (by kernel_rfl) (by kernel_rfl) (fun _ _ _ h => h) (Or.inl ⟨by kernel_rfl, fun w' hS' => by go_simp⟩) hS ?_
                refine wpAnyH_take (i := 13) (v := (undef)) rfl (by kernel_rfl) (by kernel_rfl) (by kernel_rfl) (fun _ _ _ h => h) (Or.inr ⟨by kernel_rfl, rfl⟩) hS ?_
                refine wpAnyH_take (i := 14) (v := (undef)) rfl (by kernel_rfl) (by kernel_rfl) (by kernel_rfl) (fun _ _ _ h => h) (Or.inr ⟨by kernel_rfl, rfl⟩) hS ?_
                refine wpAnyH_take (i := 15) (v := (undef)) rfl (by kernel_rfl) (by kernel_rfl) (by kernel_rfl) (fun _ _ _ h => h) (Or.inr ⟨by kernel_rfl, rfl⟩) hS ?_
                refine wpAnyH_take (i := 16) (v := (undef)) rfl (by kernel_rfl) (by kernel_rfl) (by kernel_rfl) (fun _ _ _ h => h) (Or.inr ⟨by kernel_rfl, rfl⟩) hS ?_
                refine wpAnyH_take (i := 17) (v := (undef)) rfl (by kernel_rfl) (by kernel_rfl) (by kernel_rfl) (fun _ _ _ h => h) (Or.inr ⟨by kernel_rfl, rfl⟩) hS ?_
                refine wpAnyH_take (i := 18) (v := (undef)) rfl (by kernel_rfl) (by kernel_rfl) (by kernel_rfl) (fun _ _ _ h => h) (Or.inr ⟨by kernel_rfl, rfl⟩) hS ?_
                refine wpAnyH_take (i := 19) (v := (undef)) rfl (by kernel_rfl) (by kernel_rfl) (by kernel_rfl) (fun _ _ _ h => h) (Or.inr ⟨by kernel_rfl, rfl⟩) hS ?_
                refine wpAnyH_take (i := 20) (v := (undef)) rfl (by kernel_rfl) (by kernel_rfl) (by kernel_rfl) (fun _ _ _ h => h) (Or.inr ⟨by kernel_rfl, rfl⟩) hS ?_
                refine wpAnyH_take (i := 21) (v := (.bool true)) rfl (by kernel_rfl) (by kernel_rfl) (by kernel_rfl) (fun _ _ _ h => h) (Or.inl ⟨by kernel_rfl, fun w' hS' => by go_simp⟩) hS ?_
                refine wpAnyH_done (by kernel_rfl) ?_ _
                go_simp
                rename_i hnext
                refine hnext _ _ ?_
                clear hnext
                go_wp2
                go_ret
                exact ⟨ret_bool (by rw [HBB.out]; exact (check_bad HG.out HU.out HP.out HX.out HNN.out (by unfold useOk; rw [HB0.out, Q1.out]; simp)).symm), below_draws HB9.out 1⟩
              · have e2 : decide (q u.lot < u.qty) = false := decide_eq_false q2
                by_cases q3 : n < u.qty
                · have e3 : decide (n < u.qty) = true := decide_eq_true q3
                  have Q1 := Lib.hid e3
                  clear q3
                  refine wp_region_held_drew (S := fun w' => Below w9.heap.size w9 w') (by kernel_rfl) (below_draws (Below.refl _ _) 1) (fun hS => ?_)
                  refine wpAnyH_take (i := 0) (v := (.pointer (some ⟨bu, 2, none⟩))) rfl (by kernel_rfl) (by kernel_rfl) (by kernel_rfl) (fun _ _ _ h => h) (Or.inl ⟨by kernel_rfl, fun w' hS' => by go_simp⟩) hS ?_
                  refine wpAnyH_take (i := 1) (v := (.int .i64 u.qty)) rfl (by kernel_rfl) (by kernel_rfl) (by kernel_rfl) (fun _ _ _ h => h) (Or.inl ⟨by kernel_rfl, fun w' hS' => by obtain ⟨⟨d0, d1, d2⟩, hlk, dn⟩ := H11.out w' hS'; go_simp⟩) hS ?_
                  refine wpAnyH_take (i := 2) (v := (.bool false)) rfl (by kernel_rfl) (by kernel_rfl) (by kernel_rfl) (fun _ _ _ h => h) (Or.inl ⟨by kernel_rfl, fun w' hS' => by go_simp⟩) hS ?_
                  refine wpAnyH_take (i := 3) (v := (.bool false)) rfl (by kernel_rfl) (by kernel_rfl) (by kernel_rfl) (fun _ _ _ h => h) (Or.inl ⟨by kernel_rfl, fun w' hS' => by go_simp⟩) hS ?_
                  refine wpAnyH_take (i := 4) (v := (.pointer (some ⟨bu, 2, none⟩))) rfl (by kernel_rfl) (by kernel_rfl) (by kernel_rfl) (fun _ _ _ h => h) (Or.inl ⟨by kernel_rfl, fun w' hS' => by go_simp⟩) hS ?_
                  refine wpAnyH_take (i := 5) (v := (.int .i64 u.qty)) rfl (by kernel_rfl) (by kernel_rfl) (by kernel_rfl) (fun _ _ _ h => h) (Or.inl ⟨by kernel_rfl, fun w' hS' => by obtain ⟨⟨d0, d1, d2⟩, hlk, dn⟩ := H11.out w' hS'; go_simp⟩) hS ?_
                  refine wpAnyH_take (i := 6) (v := (.map (some bl))) rfl (by kernel_rfl) (by kernel_rfl) (by kernel_rfl) (fun _ _ _ h => h) (Or.inl ⟨by kernel_rfl, fun w' hS' => by go_simp⟩) hS ?_
                  refine wpAnyH_take (i := 7) (v := (.pointer (some ⟨bu, 1, none⟩))) rfl (by kernel_rfl) (by kernel_rfl) (by kernel_rfl) (fun _ _ _ h => h) (Or.inl ⟨by kernel_rfl, fun w' hS' => by go_simp⟩) hS ?_
                  refine wpAnyH_take (i := 8) (v := (.int .i64 u.lot)) rfl (by kernel_rfl) (by kernel_rfl) (by kernel_rfl) (fun _ _ _ h => h) (Or.inl ⟨by kernel_rfl, fun w' hS' => by obtain ⟨⟨d0, d1, d2⟩, hlk, dn⟩ := H11.out w' hS'; go_simp⟩) hS ?_
                  refine wpAnyH_take (i := 9) (v := (.int .i64 (q u.lot))) rfl (by kernel_rfl) (by kernel_rfl) (by kernel_rfl) (fun _ _ _ h => h) (Or.inl ⟨by kernel_rfl, fun w' hS' => by obtain ⟨⟨d0, d1, d2⟩, hlk, dn⟩ := H11.out w' hS'; go_simp⟩) hS ?_
                  refine wpAnyH_take (i := 10) (v := (.bool false)) rfl (by kernel_rfl) (by kernel_rfl) (by kernel_rfl) (fun _ _ _ h => h) (Or.inl ⟨by kernel_rfl, fun w' hS' => by go_simp⟩) hS ?_
                  refine wpAnyH_take (i := 11) (v := (.bool false)) rfl (by kernel_rfl) (by kernel_rfl) (by kernel_rfl) (fun _ _ _ h => h) (Or.inl ⟨by kernel_rfl, fun w' hS' => by go_simp⟩) hS ?_
                  refine wpAnyH_take (i := 12) (v := (.bool false)) rfl (by kernel_rfl) (by kernel_rfl) (by kernel_rfl) (fun _ _ _ h => h) (Or.inl ⟨by kernel_rfl, fun w' hS' => by go_simp⟩) hS ?_
                  refine wpAnyH_take (i := 13) (v := (.pointer (some ⟨bu, 2, none⟩))) rfl (by kernel_rfl) (by kernel_rfl) (by kernel_rfl) (fun _ _ _ h => h) (Or.inl ⟨by kernel_rfl, fun w' hS' => by go_simp⟩) hS ?_
                  refine wpAnyH_take (i := 14) (v := (.int .i64 u.qty)) rfl (by kernel_rfl) (by kernel_rfl) (by kernel_rfl) (fun _ _ _ h => h) (Or.inl ⟨by kernel_rfl, fun w' hS' => by obtain ⟨⟨d0, d1, d2⟩, hlk, dn⟩ := H11.out w' hS'; go_simp⟩) hS ?_
                  refine wpAnyH_take (i := 15) (v := (.slice (some ⟨gn, 0, none⟩) ws.length ws.length)) rfl (by kernel_rfl) (by kernel_rfl) (by kernel_rfl) (fun _ _ _ h => h) (Or.inl ⟨by kernel_rfl, fun w' hS' => by go_simp⟩) hS ?_
                  refine wpAnyH_take (i := 16) (v := (.pointer (some ⟨bu, 0, none⟩))) rfl (by kernel_rfl) (by kernel_rfl) (by kernel_rfl) (fun _ _ _ h => h) (Or.inl ⟨by kernel_rfl, fun w' hS' => by go_simp⟩) hS ?_
                  refine wpAnyH_take (i := 17) (v := (.int .i64 (p : Int))) rfl (by kernel_rfl) (by kernel_rfl) (by kernel_rfl) (fun _ _ _ h => h) (Or.inl ⟨by kernel_rfl, fun w' hS' => by obtain ⟨⟨d0, d1, d2⟩, hlk, dn⟩ := H11.out w' hS'; go_simp⟩) hS ?_
                  refine wpAnyH_take (i := 18) (v := (.pointer (some ⟨gn, p, none⟩))) rfl (by kernel_rfl) (by kernel_rfl) (by kernel_rfl) (fun _ _ _ h => h) (Or.inl ⟨by kernel_rfl, fun w' hS' => by go_simp⟩) hS ?_
                  refine wpAnyH_take (i := 19) (v := (.int .i64 n)) rfl (by kernel_rfl) (by kernel_rfl) (by kernel_rfl) (fun _ _ _ h => h) (Or.inl ⟨by kernel_rfl, fun w' hS' => by obtain ⟨⟨d0, d1, d2⟩, hlk, dn⟩ := H11.out w' hS'; go_simp⟩) hS ?_
                  refine wpAnyH_take (i := 20) (v := (.bool true)) rfl (by kernel_rfl) (by kernel_rfl) (by kernel_rfl) (fun _ _ _ h => h) (Or.inl ⟨by kernel_rfl, fun w' hS' => by go_simp⟩) hS ?_
                  refine wpAnyH_take (i := 21) (v := (.bool true)) rfl (by kernel_rfl) (by kernel_rfl) (by kernel_rfl) (fun _ _ _ h => h) (Or.inl ⟨by kernel_rfl, fun w' hS' => by go_simp⟩) hS ?_
                  refine wpAnyH_done (by kernel_rfl) ?_ _
                  go_simp
                  rename_i hnext
                  refine hnext _ _ ?_
                  clear hnext
                  go_wp2
                  go_ret
                  exact ⟨ret_bool (by rw [HBB.out]; exact (check_bad HG.out HU.out HP.out HX.out HNN.out (by unfold useOk; rw [HB0.out, Q1.out]; simp)).symm), below_draws HB9.out 1⟩
                · have e3 : decide (n < u.qty) = false := decide_eq_false q3
                  refine wp_region_held_drew (S := fun w' => Below w9.heap.size w9 w') (by kernel_rfl) (below_draws (Below.refl _ _) 1) (fun hS => ?_)
                  refine wpAnyH_take (i := 0) (v := (.pointer (some ⟨bu, 2, none⟩))) rfl (by kernel_rfl) (by kernel_rfl) (by kernel_rfl) (fun _ _ _ h => h) (Or.inl ⟨by kernel_rfl, fun w' hS' => by go_simp⟩) hS ?_
                  refine wpAnyH_take (i := 1) (v := (.int .i64 u.qty)) rfl (by kernel_rfl) (by kernel_rfl) (by kernel_rfl) (fun _ _ _ h => h) (Or.inl ⟨by kernel_rfl, fun w' hS' => by obtain ⟨⟨d0, d1, d2⟩, hlk, dn⟩ := H11.out w' hS'; go_simp⟩) hS ?_
                  refine wpAnyH_take (i := 2) (v := (.bool false)) rfl (by kernel_rfl) (by kernel_rfl) (by kernel_rfl) (fun _ _ _ h => h) (Or.inl ⟨by kernel_rfl, fun w' hS' => by go_simp⟩) hS ?_
                  refine wpAnyH_take (i := 3) (v := (.bool false)) rfl (by kernel_rfl) (by kernel_rfl) (by kernel_rfl) (fun _ _ _ h => h) (Or.inl ⟨by kernel_rfl, fun w' hS' => by go_simp⟩) hS ?_
                  refine wpAnyH_take (i := 4) (v := (.pointer (some ⟨bu, 2, none⟩))) rfl (by kernel_rfl) (by kernel_rfl) (by kernel_rfl) (fun _ _ _ h => h) (Or.inl ⟨by kernel_rfl, fun w' hS' => by go_simp⟩) hS ?_
                  refine wpAnyH_take (i := 5) (v := (.int .i64 u.qty)) rfl (by kernel_rfl) (by kernel_rfl) (by kernel_rfl) (fun _ _ _ h => h) (Or.inl ⟨by kernel_rfl, fun w' hS' => by obtain ⟨⟨d0, d1, d2⟩, hlk, dn⟩ := H11.out w' hS'; go_simp⟩) hS ?_
                  refine wpAnyH_take (i := 6) (v := (.map (some bl))) rfl (by kernel_rfl) (by kernel_rfl) (by kernel_rfl) (fun _ _ _ h => h) (Or.inl ⟨by kernel_rfl, fun w' hS' => by go_simp⟩) hS ?_
                  refine wpAnyH_take (i := 7) (v := (.pointer (some ⟨bu, 1, none⟩))) rfl (by kernel_rfl) (by kernel_rfl) (by kernel_rfl) (fun _ _ _ h => h) (Or.inl ⟨by kernel_rfl, fun w' hS' => by go_simp⟩) hS ?_
                  refine wpAnyH_take (i := 8) (v := (.int .i64 u.lot)) rfl (by kernel_rfl) (by kernel_rfl) (by kernel_rfl) (fun _ _ _ h => h) (Or.inl ⟨by kernel_rfl, fun w' hS' => by obtain ⟨⟨d0, d1, d2⟩, hlk, dn⟩ := H11.out w' hS'; go_simp⟩) hS ?_
                  refine wpAnyH_take (i := 9) (v := (.int .i64 (q u.lot))) rfl (by kernel_rfl) (by kernel_rfl) (by kernel_rfl) (fun _ _ _ h => h) (Or.inl ⟨by kernel_rfl, fun w' hS' => by obtain ⟨⟨d0, d1, d2⟩, hlk, dn⟩ := H11.out w' hS'; go_simp⟩) hS ?_
                  refine wpAnyH_take (i := 10) (v := (.bool false)) rfl (by kernel_rfl) (by kernel_rfl) (by kernel_rfl) (fun _ _ _ h => h) (Or.inl ⟨by kernel_rfl, fun w' hS' => by go_simp⟩) hS ?_
                  refine wpAnyH_take (i := 11) (v := (.bool false)) rfl (by kernel_rfl) (by kernel_rfl) (by kernel_rfl) (fun _ _ _ h => h) (Or.inl ⟨by kernel_rfl, fun w' hS' => by go_simp⟩) hS ?_
                  refine wpAnyH_take (i := 12) (v := (.bool false)) rfl (by kernel_rfl) (by kernel_rfl) (by kernel_rfl) (fun _ _ _ h => h) (Or.inl ⟨by kernel_rfl, fun w' hS' => by go_simp⟩) hS ?_
                  refine wpAnyH_take (i := 13) (v := (.pointer (some ⟨bu, 2, none⟩))) rfl (by kernel_rfl) (by kernel_rfl) (by kernel_rfl) (fun _ _ _ h => h) (Or.inl ⟨by kernel_rfl, fun w' hS' => by go_simp⟩) hS ?_
                  refine wpAnyH_take (i := 14) (v := (.int .i64 u.qty)) rfl (by kernel_rfl) (by kernel_rfl) (by kernel_rfl) (fun _ _ _ h => h) (Or.inl ⟨by kernel_rfl, fun w' hS' => by obtain ⟨⟨d0, d1, d2⟩, hlk, dn⟩ := H11.out w' hS'; go_simp⟩) hS ?_
                  refine wpAnyH_take (i := 15) (v := (.slice (some ⟨gn, 0, none⟩) ws.length ws.length)) rfl (by kernel_rfl) (by kernel_rfl) (by kernel_rfl) (fun _ _ _ h => h) (Or.inl ⟨by kernel_rfl, fun w' hS' => by go_simp⟩) hS ?_
                  refine wpAnyH_take (i := 16) (v := (.pointer (some ⟨bu, 0, none⟩))) rfl (by kernel_rfl) (by kernel_rfl) (by kernel_rfl) (fun _ _ _ h => h) (Or.inl ⟨by kernel_rfl, fun w' hS' => by go_simp⟩) hS ?_
                  refine wpAnyH_take (i := 17) (v := (.int .i64 (p : Int))) rfl (by kernel_rfl) (by kernel_rfl) (by kernel_rfl) (fun _ _ _ h => h) (Or.inl ⟨by kernel_rfl, fun w' hS' => by obtain ⟨⟨d0, d1, d2⟩, hlk, dn⟩ := H11.out w' hS'; go_simp⟩) hS ?_
                  refine wpAnyH_take (i := 18) (v := (.pointer (some ⟨gn, p, none⟩))) rfl (by kernel_rfl) (by kernel_rfl) (by kernel_rfl) (fun _ _ _ h => h) (Or.inl ⟨by kernel_rfl, fun w' hS' => by go_simp⟩) hS ?_
                  refine wpAnyH_take (i := 19) (v := (.int .i64 n)) rfl (by kernel_rfl) (by kernel_rfl) (by kernel_rfl) (fun _ _ _ h => h) (Or.inl ⟨by kernel_rfl, fun w' hS' => by obtain ⟨⟨d0, d1, d2⟩, hlk, dn⟩ := H11.out w' hS'; go_simp⟩) hS ?_
                  refine wpAnyH_take (i := 20) (v := (.bool false)) rfl (by kernel_rfl) (by kernel_rfl) (by kernel_rfl) (fun _ _ _ h => h) (Or.inl ⟨by kernel_rfl, fun w' hS' => by go_simp⟩) hS ?_
                  refine wpAnyH_take (i := 21) (v := (.bool false)) rfl (by kernel_rfl) (by kernel_rfl) (by kernel_rfl) (fun _ _ _ h => h) (Or.inl ⟨by kernel_rfl, fun w' hS' => by go_simp⟩) hS ?_
                  refine wpAnyH_done (by kernel_rfl) ?_ _
                  go_simp
                  rename_i hnext
                  refine hnext _ _ ?_
                  clear hnext
                  have hq1 : 1 ≤ u.qty := by omega
                  have hq2 := HQ.out u.lot
                  have hSt : Hid (u.lot ∈ l.map Lt.id) := Lib.hid (Classical.byContradiction fun hno => by
                    have h0 : foundL l u.lot = zeroL := by unfold foundL; rw [(lastId_none l u.lot).2 hno]; rfl
                    have h1 : (foundL l u.lot).item = x.item := by have := HB0.out; unfold servesB at this; simp at this; exact this.1
                    rw [h0] at h1
                    have h2 := HWR.out x (List.mem_of_getElem? HX.out)
                    unfold wantB at h2
                    rw [← h1] at h2
                    simp [zeroL, rightL] at h2)
                  have HM13 : Hid (IMap (.int .i64 0) w9.drew bl l.length (fun i => .int .i64 (q i)) (fun i => i ∈ l.map Lt.id)) := Lib.hid (HQ9.out.kept (draws_none w9 1) (by simp))
                  have HSUB : Hid (IntKind.i64.wrap (q u.lot - u.qty) = q u.lot - u.qty) := Lib.hid (by rw [IntKind.wrap_i64]; omega)
                  have HSUBN : Hid (IntKind.i64.wrap (n - u.qty) = n - u.qty) := Lib.hid (by have := HN.out n (List.mem_of_getElem? HNN.out); rw [IntKind.wrap_i64]; omega)
                  have HBN : Hid (some bu ≠ some bl) := Lib.hid (by simp; omega)
                  have HGNE : Hid (some gn ≠ some bl) := Lib.hid (by simp; omega)
                  obtain ⟨d0, d1, d2⟩ := HU9.out
                  have hlk := (H11.out w9.drew (below_draws (Below.refl w9.heap.size w9) 1)).2.1
                  have hsub := HSUB.out
                  have HQ2 := Lib.hid q2
                  have HQ3 := Lib.hid q3
                  have HGN : Hid (w.heap.size ≤ gn) := Lib.hid (by omega)
                  clear e1 e2 e3 q1 q2 q3
                  go_wp2_with (at_mapUpdate; refine wpList_put_old _ rfl _ _ _ 54 rfl 3 2 intKeyLits ikeyed Try.underlying54 (.int .i64 0) bl l.length _ _ rfl HM13.out (by unfold maxLen; omega) _ (.int .i64 (q u.lot - u.qty)) u.lot hSt.out rfl rfl (ikey_of u.lot hf2 hf3) ?_; intro w10 hm10' hg10'; have hm10 := Lib.hid hm10'; have hg10 := Lib.hid hg10'; clear hm10' hg10' d0 d1 d2 hlk)
                  try simp only [Act.put]
                  have hsz10 := hg10.out.size
                  simp only [World.size_drew] at hsz10
                  have hbu10 : bu < w10.heap.size := Nat.lt_of_lt_of_le hbu9 hsz10
                  have HU10 : Hid (UseAt w10 bu u) := Lib.hid ((HU9.out.kept (fun o => (below_draws (Below.refl w9.heap.size w9) 1).cell (p := ⟨bu, o, none⟩) hbu9) : UseAt (w9.drewN 1) bu u).grown (by simpa using hbu9) hg10.out HBN.out)
                  have HO10 : Hid (w10.ownsRow gn 2 1 (.slice (some ⟨gn, 0, none⟩) ws.length ws.length) ws.length (ncells nd)) := Lib.hid ((HO9.out.kept (draws_none w9 1) (.inr (by simp [Value.ownBlock]))).kept hg10.out (.inr HGNE.out))
                  have HF10 : Hid (IMap (aggL zeroL) w10 bf l.length (fun i => aggL (foundL l i)) (fun i => i ∈ l.map Lt.id)) := Lib.hid ((HF9.out.kept (draws_none w9 1) (by simp)).kept hg10.out (by simp; omega))
                  have HB10 : Hid (Below w.heap.size w w10) := Lib.hid ((below_draws HB9.out 1).grown hg10.out (below_draws HB9.out 1).size (fun j hj => by cases hj; exact hbl0))
                  have dn : w10.cell? ⟨gn, p, none⟩ = some (.int .i64 n) := by
                    rw [HO10.out.cellAt p (by omega)]; simp [ncells, HNN.out]
                  have fn := HO10.out.frozenAt p
                  have hsub2 := HSUBN.out
                  clear hsz10 hbu9 hsub
                  refine wp_region_held_drew (S := fun w' => UseAt w' bu u) (by kernel_rfl) ((HU10.out.kept (fun o => (below_draws (Below.refl w10.heap.size w10) 1).cell (p := ⟨bu, o, none⟩) hbu10) : UseAt (w10.drewN 1) bu u)) (fun hS => ?_)
                  refine wpAnyH_take (i := 0) (v := (.slice (some ⟨gn, 0, none⟩) ws.length ws.length)) rfl (by kernel_rfl) (by kernel_rfl) (by kernel_rfl) (fun _ _ _ h => h) (Or.inl ⟨by kernel_rfl, fun w' hS' => by go_simp⟩) hS ?_
                  refine wpAnyH_take (i := 1) (v := (.pointer (some ⟨bu, 0, none⟩))) rfl (by kernel_rfl) (by kernel_rfl) (by kernel_rfl) (fun _ _ _ h => h) (Or.inl ⟨by kernel_rfl, fun w' hS' => by go_simp⟩) hS ?_
                  refine wpAnyH_take (i := 2) (v := (.int .i64 (p : Int))) rfl (by kernel_rfl) (by kernel_rfl) (by kernel_rfl) (fun _ _ _ h => h) (Or.inl ⟨by kernel_rfl, fun w' hS' => by obtain ⟨d0, d1, d2⟩ := hS'; go_simp⟩) hS ?_
                  refine wpAnyH_take (i := 3) (v := (.pointer (some ⟨gn, p, none⟩))) rfl (by kernel_rfl) (by kernel_rfl) (by kernel_rfl) (fun _ _ _ h => h) (Or.inl ⟨by kernel_rfl, fun w' hS' => by go_simp⟩) hS ?_
                  refine wpAnyH_take (i := 5) (v := (.pointer (some ⟨bu, 2, none⟩))) rfl (by kernel_rfl) (by kernel_rfl) (by kernel_rfl) (fun _ _ _ h => h) (Or.inl ⟨by kernel_rfl, fun w' hS' => by go_simp⟩) hS ?_
                  refine wpAnyH_take (i := 6) (v := (.int .i64 u.qty)) rfl (by kernel_rfl) (by kernel_rfl) (by kernel_rfl) (fun _ _ _ h => h) (Or.inl ⟨by kernel_rfl, fun w' hS' => by obtain ⟨d0, d1, d2⟩ := hS'; go_simp⟩) hS ?_
                  refine wpAnyH_ready (rs := [4]) (by kernel_rfl) (by simp) ?_
                  refine AllReadyH.cons rfl (fun K hK => ?_) AllReadyH.nil
                  go_simp
                  skip
                  refine hK.out _ _ (hS) (fun hS => ?_)
                  clear hK K
                  refine wpAnyH_take (i := 7) (v := (.int .i64 (n - u.qty))) rfl (by kernel_rfl) (by kernel_rfl) (by kernel_rfl) (fun _ _ _ h => h) (Or.inl ⟨by kernel_rfl, fun w' hS' => by have hsub := HSUBN.out; go_simp⟩) hS ?_
                  refine wpAnyH_take (i := 8) (v := (.pointer (some ⟨gn, p, none⟩))) rfl (by kernel_rfl) (by kernel_rfl) (by kernel_rfl) (fun _ _ _ h => h) (Or.inl ⟨by kernel_rfl, fun w' hS' => by go_simp⟩) hS ?_
                  refine wpAnyH_ready (rs := [9]) (by kernel_rfl) (by simp) ?_
                  refine AllReadyH.cons rfl (fun K hK => ?_) AllReadyH.nil
                  go_simp
                  skip
                  refine hK.out _ _ (hS.kept (fun o => World.cell?_setCell_other _ _ _ _ (by intro e; simp only [Addr.mk.injEq] at e; omega))) (fun hS => ?_)
                  clear hK K
                  refine wpAnyH_done (by kernel_rfl) ?_ _
                  go_simp
                  first | (rename_i hnext; refine hnext _ _ ?_; clear hnext) | (rename_i hnext _; refine hnext _ _ ?_; clear hnext) | (rename_i hnext _ _; refine hnext _ _ ?_; clear hnext) | (rename_i hnext _ _ _; refine hnext _ _ ?_; clear hnext) | (rename_i hnext _ _ _ _; refine hnext _ _ ?_; clear hnext) | (rename_i hnext _ _ _ _ _; refine hnext _ _ ?_; clear hnext) | (rename_i hnext _ _ _ _ _ _; refine hnext _ _ ?_; clear hnext) | (rename_i hnext _ _ _ _ _ _ _; refine hnext _ _ ?_; clear hnext) | (rename_i hnext _ _ _ _ _ _ _ _; refine hnext _ _ ?_; clear hnext) | (rename_i hnext _ _ _ _ _ _ _ _ _; refine hnext _ _ ?_; clear hnext) | (rename_i hnext _ _ _ _ _ _ _ _ _ _; refine hnext _ _ ?_; clear hnext) | (rename_i hnext _ _ _ _ _ _ _ _ _ _ _; refine hnext _ _ ?_; clear hnext) | (rename_i hnext _ _ _ _ _ _ _ _ _ _ _ _; refine hnext _ _ ?_; clear hnext) | (rename_i hnext _ _ _ _ _ _ _ _ _ _ _ _ _; refine hnext _ _ ?_; clear hnext)
                  go_wp2
                  go_roundw
                  case rel => exact ⟨k + 1, Fl.bmp q u.lot (-u.qty), nd.set p (n - u.qty), by omega, by go_num, Lib.hid (check_step HG.out HU.out HP.out HX.out HNN.out (by have := HQ2.out; have := HQ3.out; unfold useOk; rw [HB0.out]; simp; omega)), Lib.hid (by rw [List.length_set]; exact HNL.out), Lib.hid (((imap_bmp hm10.out).kept (draws_none w10 1) (by simp)).cell (a := ⟨gn, p, none⟩) (by simp; omega) _), Lib.hid ((HF10.out.kept (draws_none w10 1) (by simp)).cell (a := ⟨gn, p, none⟩) (by simp; omega) _), Lib.hid (by have h := ((HO10.out.kept (draws_none w10 1) (.inr (by simp [Value.ownBlock]))).stored p (.int .i64 (n - u.qty))).1; rw [show (ncells nd).set p (.int .i64 (n - u.qty)) = ncells (nd.set p (n - u.qty)) from by simp [ncells, List.map_set]] at h; exact h), Lib.hid ((below_draws HB10.out 1).setCell (p := ⟨gn, p, none⟩) HGN.out _), Lib.hid (fun i => by have := HQ2.out; have := HQ.out i; have := HQ.out u.lot; unfold Fl.bmp; split; (rename_i e; subst e; omega); omega), Lib.hid (fun m hm => by rcases List.mem_or_eq_of_mem_set hm with hm | rfl; exact HN.out m hm; have := HQ3.out; have := HN.out n (List.mem_of_getElem? HNN.out); omega)⟩
                  case measure => simp [intOf]; omega
    · obtain rfl : k = us.length := by omega
      have hcn := containsI_any (some ⟨gn, 0, none⟩) ws.length nd wr.heap.size wr (Nat.le_refl _) (by rw [HNL.out]; exact hw) (Lies.own HO.out)
      rw [HNL.out] at hcn
      have HALL : Hid ((!nd.any (fun n => decide (0 < n))) = bb) := Lib.hid (by
        have h := HG.out
        rw [List.drop_eq_nil_of_le (Nat.le_refl _)] at h
        unfold checkGo at h
        rw [← h, List.not_any_eq_all_not])
      generalize nd.any (fun n => decide (0 < n)) = r at hcn HALL
      have HCN := Lib.hid hcn
      clear hcn
      go_wp2_with (go_at_call 42; ((with_reducible refine HCN.out.mono ?_); rintro e w2 ⟨rfl, hb2'⟩; have hb2 := Lib.hid hb2'; clear hb2'))
      go_ret
      exact ⟨ret_bool (by rw [HBB.out]; exact HALL.out), HBr.out.trans (hb2.out.mono HBr.out.size)⟩
end Go.Proofs.Ytddnfikjfmfhfaa
end
section
/- flow.Check, whatever it is given. -/
namespace Go.Proofs.Ytddnfikjfmfhfaa
open Go.ChangeShapes Go.WideShapes Go.ChangeAt Go.RowKit
set_option linter.unusedVariables false
set_option maxRecDepth 100000 in
theorem check_any (v1 v2 v3 : Value) (l : List Lt) (ws : List Wt) (us : List Us) (w : World) (hl : l.length ≤ 1099511627776) (hw : ws.length ≤ 1099511627776) (hu : us.length ≤ 1099511627776) (hs : Sized l) (hsu : SizedU us) (h1 : LSl w w.heap.size v1 l) (h2 : WSl w w.heap.size v2 ws) (h3 : USl w w.heap.size v3 us) :
    Calls Try.prog 23 #[v1, v2, v3] w fun e w' => e = .returned (.bool (checkB l ws us)) ∧ Below w.heap.size w w' := by
  by_cases hb : mayB l ws = true
  · exact check_may v1 v2 v3 l ws us w hl hw hu hs hsu h1 h2 h3 hb
  · have hb : mayB l ws = false := by simpa using hb
    have HB := Lib.hid hb
    have HV1 := Lib.hid h1
    have HV2 := Lib.hid h2
    have HS := Lib.hid hs
    have HC : Hid (checkB l ws us = false) := Lib.hid (by unfold checkB; rw [hb]; rfl)
    rw [HC.out]
    clear hb h1 h2 h3 hs hsu
    go_enter Try.func23, Try.ntmps23
    go_wp2_with (go_at_call 37; ((with_reducible refine (together_any _ _ l ws _ hl hw HS.out HV1.out HV2.out).mono ?_); rintro e w1 ⟨rfl, hb1'⟩; rw [HB.out]; have hb1 := Lib.hid hb1'; clear hb1'))
    go_ret
    exact ⟨rfl, hb1.out⟩
end Go.Proofs.Ytddnfikjfmfhfaa
end
section
/- flow.Left. Written by gen_fleft.py. -/
namespace Go.Proofs.Ytddnfikjfmfhfaa
open Go.ChangeShapes Go.WideShapes Go.ChangeAt Go.RowKit Go.Maps
set_option linter.unusedVariables false
/-- A lot with what is left of it. -/
def withQ (q : Int → Int) (x : Lt) : Lt := ⟨x.id, x.item, x.fr, x.un, q x.id, x.arr⟩
/-- The lots that have something left, each with that. -/
def leftL (l : List Lt) (q : Int → Int) : List Lt := (l.filter (fun x => decide (0 < q x.id))).map (withQ q)
theorem leftL_yes {l : List Lt} {q : Int → Int} {k : Nat} {x : Lt} (h : l[k]? = some x) (hq : 0 < q x.id) : leftL (l.take (k + 1)) q = leftL (l.take k) q ++ [withQ q x] := by
  unfold leftL; rw [List.take_add_one, h]; simp [hq]
theorem leftL_no {l : List Lt} {q : Int → Int} {k : Nat} {x : Lt} (h : l[k]? = some x) (hq : ¬ 0 < q x.id) : leftL (l.take (k + 1)) q = leftL (l.take k) q := by
  unfold leftL; rw [List.take_add_one, h]; simp [hq]
theorem leftL_le (l : List Lt) (q : Int → Int) (k : Nat) : (leftL (l.take k) q).length ≤ k := by
  unfold leftL; rw [List.length_map]; exact Nat.le_trans (List.length_filter_le _ _) (List.length_take_le _ _)
/-- What Left answers where lots and wants may be together. -/
def LeftTo (l : List Lt) (ws : List Wt) (w : World) (e : Ending) (w' : World) : Prop := ∃ S P, Stab l S ∧ Days ws P ∧ Below w.heap.size w w' ∧
  (((serveRun S ws P (qtyOf l)).2.1 = false ∧ e = .returned (.tuple #[.slice none 0 0, .bool false])) ∨
   ((serveRun S ws P (qtyOf l)).2.1 = true ∧ ∃ v, e = .returned (.tuple #[v, .bool true]) ∧ w'.ownsRow w.heap.size 42 6 v (leftL l (serveRun S ws P (qtyOf l)).2.2).length (lcells (leftL l (serveRun S ws P (qtyOf l)).2.2))))
section
variable (v1 v2 : Value) (l : List Lt) (ws : List Wt) (w : World) (hl : l.length ≤ 1099511627776) (hw : ws.length ≤ 1099511627776) (hs : Sized l) (h1 : LSl w w.heap.size v1 l) (h2 : WSl w w.heap.size v2 ws)
include hl hw hs h1 h2
theorem left_no (hb : mayB l ws = false) : Calls Try.prog 15 #[v1, v2] w fun e w' => e = .returned (.tuple #[.slice none 0 0, .bool false]) ∧ Below w.heap.size w w' := by
  have HC := Lib.hid (serve_no v1 v2 l ws w hl hw hs h1 h2 hb)
  clear hs h1 h2 hb
  go_enter Try.func15, Try.ntmps15
  go_wp2_with fail
  refine HC.out.mono ?_
  rintro e w1 ⟨rfl, hb1'⟩
  have hb1 := Lib.hid hb1'
  clear hb1'
  unfold noServing
  go_wp2
  go_ret2
  exact ⟨rfl, below_two hb1.out (below_alloc1 _ _)⟩
set_option maxHeartbeats 4000000 in
set_option maxRecDepth 100000 in
theorem left_may (hb : mayB l ws = true) : Calls Try.prog 15 #[v1, v2] w (LeftTo l ws w) := by
  have HC := Lib.hid (serve_may v1 v2 l ws w hl hw hs h1 h2 hb)
  obtain ⟨i0, hi, hz0, hz1, hz2⟩ := info_parts infoLot
  have H1 := Lib.hid hi
  have H2 := Lib.hid hz0
  have H3 := Lib.hid hz1
  have H4 := Lib.hid hz2
  have HV1 := Lib.hid h1
  have HS := Lib.hid hs
  obtain ⟨hl3, _, _, _, _⟩ := mayB_true hb
  obtain ⟨A, c, rfl, hc1, hc2, hcz, _⟩ := id h1
  clear hs h1 h2 hb hi hz0 hz1 hz2
  go_enter Try.func15, Try.ntmps15
  go_wp2_with fail
  refine HC.out.mono ?_
  rintro e w1 ⟨S, P, hS', hP', hb1', h⟩
  have hb1 := Lib.hid hb1'
  have hS := Lib.hid hS'
  have hP := Lib.hid hP'
  clear hb1' hS' hP'
  rcases h with ⟨hr', rfl⟩ | ⟨hr', bm, bl, nl, uv, U, rfl, hu', ho', hq'⟩
  · have hr := Lib.hid hr'
    clear hr'
    unfold noServing
    go_wp2
    go_ret2
    exact ⟨S, P, hS.out, hP.out, below_two hb1.out (below_alloc1 _ _), .inl ⟨hr.out, rfl⟩⟩
  · obtain ⟨Av, cv, rfl, _, _, _⟩ := own_form ho'
    obtain ⟨q, hqd⟩ : ∃ q, (serveRun S ws P (qtyOf l)).2.2 = q := ⟨_, rfl⟩
    have hr := Lib.hid hr'
    have HQD := Lib.hid hqd
    have hblw : bl < w1.heap.size := hq'.lt
    rw [hqd] at hq'
    obtain ⟨bs, hbs, hbsle⟩ : ∃ bs, w1.heap.size = bs ∧ w1.heap.size ≤ bs := ⟨_, rfl, Nat.le_refl _⟩
    obtain ⟨W2, hW2⟩ : ∃ W2, W2 = w1.alloc (.cells #[.map (some bm), .map (some bl), .slice Av U.length cv] 56) := ⟨_, rfl⟩
    have HQ2 : Hid (IMap (.int .i64 0) W2 bl nl (fun i => .int .i64 (q i)) (fun i => i ∈ l.map Lt.id)) := Lib.hid (by rw [hW2]; exact hq'.alloc _)
    have hz2 : W2.heap.size = bs + 1 := by rw [hW2, ← hbs]; simp
    have HZ2 := Lib.hid hz2
    have HB2 : Hid (Below w.heap.size w W2) := Lib.hid (by rw [hW2]; exact hb1.out.alloc hb1.out.size _)
    have HCS : Hid (W2.cell? ⟨bs, 1, none⟩ = some (.map (some bl))) := Lib.hid (by
      rw [hW2, ← hbs]
      have := fresh_cell w1 #[.map (some bm), .map (some bl), .slice Av U.length cv] 56 1
      rwa [addr0] at this)
    have HLW : Hid (LSl W2 W2.heap.size (.slice A l.length c) l) := Lib.hid (HV1.out.at_ HB2.out)
    have hb2s : w.heap.size ≤ bs + 1 := by have := HB2.out.size; omega
    have HBSE := Lib.hid hbs
    have HW2E := Lib.hid hW2
    clear hr' hu' ho' hq' hqd hbs hW2 hz2
    go_wp2_with fail
    rw [← HW2E.out, HBSE.out]
    clear HW2E HBSE hbsle
    go_loopw [8, 21] (fun s i wr => ∃ k : Nat, k ≤ l.length ∧ i = .int .i64 k ∧ Hid (wr.ownsRow (bs + 1) 42 6 s (leftL (l.take k) q).length (lcells (leftL (l.take k) q))) ∧ Hid (Below (bs + 1) W2 wr)) (fun _ i _ => l.length - (intOf i).toNat)
    case atStart => exact ⟨0, Nat.zero_le _, rfl, Lib.hid (World.ownsRow_nil _ _ _ _), Lib.hid (Below.refl _ _)⟩
    case round =>
      obtain ⟨k, hk, rfl, HR, HB⟩ := hrel
      have hcs : wr.cell? ⟨bs, 1, none⟩ = some (.map (some bl)) := (HB.out.cell (p := ⟨bs, 1, none⟩) (Nat.lt_succ_self _)).trans HCS.out
      have hbsw : bs < wr.heap.size := by have := HB.out.size; have := HZ2.out; omega
      by_cases hlt : k < l.length
      · obtain ⟨x, hx⟩ : ∃ x, l[k]? = some x := ⟨_, List.getElem?_eq_getElem hlt⟩
        obtain ⟨_, _, he, _, _, _, hLL⟩ := (HLW.out.below (by rw [HZ2.out]; exact HB.out))
        cases he
        obtain ⟨ad, rfl, hab, hc0, hc1', hc2', hc3, hc4, hc5⟩ := hLL.six hx
        have hf := Lib.hid (HS.out x (List.mem_of_getElem? hx))
        have HX := Lib.hid hx
        have hle := leftL_le l q k
        have HB5 : Hid (Below (bs + 1) W2 (wr.alloc (.cells #[.int .i64 x.id, .string ⟨x.item.toArray⟩, .int .i64 x.fr, .int .i64 x.un, .int .i64 x.qty, .bool x.arr] 42))) := Lib.hid (HB.out.alloc (by omega) _)
        have HQ5 : Hid (IMap (.int .i64 0) (wr.alloc (.cells #[.int .i64 x.id, .string ⟨x.item.toArray⟩, .int .i64 x.fr, .int .i64 x.un, .int .i64 x.qty, .bool x.arr] 42)) bl nl (fun i => .int .i64 (q i)) (fun i => i ∈ l.map Lt.id)) := Lib.hid (HQ2.out.below (by rw [HZ2.out]; exact HB5.out))
        have hlk0 : (Instr.lookup 54 (.map (some bl)) (.int .i64 x.id) false).run Try.prog (wr.alloc (.cells #[.int .i64 x.id, .string ⟨x.item.toArray⟩, .int .i64 x.fr, .int .i64 x.un, .int .i64 x.qty, .bool x.arr] 42)) = .ok (.int .i64 (q x.id)) (wr.alloc (.cells #[.int .i64 x.id, .string ⟨x.item.toArray⟩, .int .i64 x.fr, .int .i64 x.un, .int .i64 x.qty, .bool x.arr] 42)) := HQ5.out.look ikeyed Try.underlying54 (zero64_run _) (ikey_of x.id hf.out.1 hf.out.2.1)
        have hlk1 : (Instr.lookup 54 (.map (some bl)) (.int .i64 x.id) false).run Try.prog (wr.alloc (.cells #[.int .i64 x.id, .string ⟨x.item.toArray⟩, .int .i64 x.fr, .int .i64 x.un, .int .i64 x.qty, .bool x.arr] 42)).drew = .ok (.int .i64 (q x.id)) (wr.alloc (.cells #[.int .i64 x.id, .string ⟨x.item.toArray⟩, .int .i64 x.fr, .int .i64 x.un, .int .i64 x.qty, .bool x.arr] 42)).drew := (HQ5.out.kept (draws_none _ 1) (by simp)).look ikeyed Try.underlying54 (zero64_run _) (ikey_of x.id hf.out.1 hf.out.2.1)
        clear hx
        by_cases hqx : 0 < q x.id
        · have hd : decide (0 < q x.id) = true := decide_eq_true hqx
          have hst := Lib.hid (leftL_yes HX.out hqx)
          have hn6 : ∀ (j : Nat) (u : Value), (encL (withQ q x))[j]? = some u → ((wr.alloc (.cells #[.int .i64 x.id, .string ⟨x.item.toArray⟩, .int .i64 x.fr, .int .i64 x.un, .int .i64 (q x.id), .bool x.arr] 42)).alloc (.cells #[.int .i64 x.id, .string ⟨x.item.toArray⟩, .int .i64 x.fr, .int .i64 x.un, .int .i64 (q x.id), .bool x.arr] 42)).cell? ((⟨wr.heap.size + 1, 0, none⟩ : Addr).add j) = some u := by
            have h := six_new (wr.alloc (.cells #[.int .i64 x.id, .string ⟨x.item.toArray⟩, .int .i64 x.fr, .int .i64 x.un, .int .i64 (q x.id), .bool x.arr] 42)) (withQ q x) 42
            simp only [World.size_alloc] at h
            exact h
          have HN6 := Lib.hid hn6
          clear hn6
          go_wp2_with (at_builtin; refine wpList_append_own _ rfl _ _ 22 rfl (bs + 1) 42 i0 _ 6 56 Try.underlying22 H1.out H2.out H3.out H4.out rfl (by decide) _ _ _ rfl ((HR.out.alloc _).alloc _) ⟨wr.heap.size + 1, 0, none⟩ 1 1 (encL (withQ q x)) rfl rfl HN6.out (encL_one _) (by unfold maxLen; omega) (by omega) (by simp only [World.size_alloc]; omega) ?_; intro v' w3 hown3 hg3 _; have ho3 := Lib.hid hown3; have hG3 := Lib.hid hg3; clear hown3 hg3)
          go_roundw
          case rel => exact ⟨k + 1, by omega, by go_num, Lib.hid (by rw [hst.out, lcells_append, List.length_append]; simpa [lcells] using ho3.out), Lib.hid (((HB.out.alloc (by omega) _).alloc (by simp; omega) _).grown hG3.out (by simp; omega) (fun j hj => (HR.out.lt j hj).1))⟩
          case measure => simp [intOf]; omega
        · have hd : decide (0 < q x.id) = false := decide_eq_false hqx
          have hst := Lib.hid (leftL_no HX.out hqx)
          go_wp2
          go_roundw
          case rel => exact ⟨k + 1, by omega, by go_num, Lib.hid (by rw [hst.out]; exact HR.out.alloc _), Lib.hid (HB.out.alloc (by omega) _)⟩
          case measure => simp [intOf]; omega
      · obtain rfl : k = l.length := by omega
        go_wp2
        go_ret2
        have hall : l.take l.length = l := List.take_of_length_le (Nat.le_refl _)
        exact ⟨S, P, hS.out, hP.out, HB2.out.trans (HB.out.mono hb2s), .inr ⟨hr.out, _, rfl, by rw [HQD.out]; have h := HR.out; rw [hall] at h; exact base_less h hb2s⟩⟩
end
end Go.Proofs.Ytddnfikjfmfhfaa
end
section
/- An append whose source may be nil (cut out of LSortMath). -/
namespace Go.Proofs.Ytddnfikjfmfhfaa
open Go.ChangeShapes Go.WideShapes Go.ChangeAt Go.RowKit Go.Maps Go.Sort
set_option linter.unusedVariables false
theorem run_append_any {P : Program} (w : World) (base : Nat) (t ty e : TypeId) (i : TypeInfo) (z : Value) (size bytes : Nat) (ht : P.underlying t = some (.slice e)) (hi : P.info? e = some i) (hz : i.zero = some z)
    (hsize : i.size = size) (hby : i.bytes = bytes) (hzs : z.cells.size = size) (hsz : 0 < size) (v : Value) (n : Nat) (xs : List Value) (hown : w.ownsRow base e size v n xs)
    (ao : Option Addr) (m c : Nat) (news : List Value) (hl : news.length = m * size) (h0 : ao = none → m = 0 ∧ c = 0) (hnews : ∀ a, ao = some a → ∀ j u, news[j]? = some u → w.cell? (a.add j) = some u) (h1 : ∀ u ∈ news, u.oneCell' = true)
    (h63 : n + m ≤ maxLen) (hbytes : (n + m) * bytes ≤ 140737488355328) (hbase : base ≤ w.heap.size) :
    ∃ v' w', (Builtin.append_ #[t, t] ty #[v, .slice ao m c]).run P w = .ok v' w' ∧ w'.ownsRow base e size v' (n + m) (xs ++ news) ∧ w.grownBy w' v.ownBlock ∧ (v'.ownBlock = v.ownBlock ∨ v'.ownBlock = some w.heap.size) := by
  cases ao with
  | some a =>
    obtain ⟨v', w', hr, h2, h3, h4, h5⟩ := run_append_own_at (P := P) w base t ty e i z size bytes ht hi hz hsize hby hzs hsz v n xs hown a m c news hl (hnews a rfl) h1 h63 hbytes hbase
    exact ⟨v', w', hr, h2, h3, h5⟩
  | none =>
    obtain ⟨rfl, rfl⟩ := h0 rfl
    have hn : news = [] := List.eq_nil_of_length_eq_zero (by simpa using hl)
    subst hn
    refine ⟨v, w, ?_, by simpa using hown, World.grownBy.refl _ _, .inl rfl⟩
    rcases hown.2 with ⟨rfl, rfl⟩ | ⟨g, cap, cur, rfl, _, _, hnc, _⟩
    · simp [Builtin.append_, run_underlying ht, sizeOf, typeInfo, hi, Builtin.lenOf, Builtin.firstCells]
    · simp [Builtin.append_, run_underlying ht, sizeOf, typeInfo, hi, hnc, storeCells, Builtin.lenOf, Builtin.firstCells]

theorem wpList_append_any {P : Program} (w : World) {ops : Array Oper} {rest : List Oper} {o : Oper} {a : Act} {Q : Exit → Act → World → Prop} (hgd : o.guard = none) (s x : Operand) (t : TypeId)
    (ho : o.op = .call { callee := .builtin .append, args := #[s, x], argTypes := #[t, t] })
    (base : Nat) (e : TypeId) (i : TypeInfo) (z : Value) (size bytes : Nat) (ht : P.underlying t = some (.slice e)) (hi : P.info? e = some i) (hz : i.zero = some z)
    (hsize : i.size = size) (hby : i.bytes = bytes) (hzs : z.cells.size = size) (hsz : 0 < size)
    (v : Value) (n : Nat) (xs : List Value) (hs : a.eval s = v) (hown : w.ownsRow base e size v n xs)
    (ao : Option Addr) (m c : Nat) (news : List Value) (hx : a.eval x = .slice ao m c) (hl : news.length = m * size) (h0 : ao = none → m = 0 ∧ c = 0) (hnews : ∀ a, ao = some a → ∀ j u, news[j]? = some u → w.cell? (a.add j) = some u) (h1 : ∀ u ∈ news, u.oneCell' = true)
    (h63 : n + m ≤ maxLen) (hbytes : (n + m) * bytes ≤ 140737488355328) (hbase : base ≤ w.heap.size)
    (h : ∀ v' w', w'.ownsRow base e size v' (n + m) (xs ++ news) → Hid (w.grownBy w' v.ownBlock) → Hid (v'.ownBlock = v.ownBlock ∨ v'.ownBlock = some w.heap.size) → wpList P ops Q rest (a.put o.dst v') w') : wpList P ops Q (o :: rest) a w := by
  refine wpList_plain hgd fun K hK => ?_
  obtain ⟨v', w', hr, h2, h3, h4⟩ := run_append_any (P := P) w base t o.type e i z size bytes ht hi hz hsize hby hzs hsz v n xs hown ao m c news hl h0 hnews h1 h63 hbytes hbase
  unfold Oper.wp execOp
  simp only [ho, resolve, invoke, builtin, Sem.run_bind, Sem.run_pure, Result.andThen_ok, List.map_toArray, List.map_cons, List.map_nil, hs, hx, hr]
  exact hK _ _ (h v' w' h2 h3 h4)
end Go.Proofs.Ytddnfikjfmfhfaa
end
section
/- storemankit.CopyLots: the lots of a list, in memory of their own. -/
namespace Go.Proofs.Ytddnfikjfmfhfaa
open Go.ChangeShapes Go.WideShapes Go.ChangeAt Go.RowKit
set_option linter.unusedVariables false
theorem lcells_one_ (l : List Lt) : ∀ u ∈ lcells l, u.oneCell' = true := by
  induction l with
  | nil => intro u hu; simp [lcells] at hu
  | cons x r ih =>
    intro u hu
    rcases List.mem_append.1 (show u ∈ encL x ++ lcells r from hu) with h | h
    · exact encL_one x u h
    · exact ih u h
set_option maxRecDepth 100000 in
set_option maxHeartbeats 1000000 in
/-- Copied: the same lots, in a row of its own. -/
theorem copy_any (v : Value) (l : List Lt) (w : World) (hlen : l.length ≤ 1099511627776) (hv : LSl w w.heap.size v l) :
    Calls Try.prog 29 #[v] w fun e w' => ∃ v', e = .returned v' ∧ w'.ownsRow w.heap.size 42 6 v' l.length (lcells l) ∧ Below w.heap.size w w' := by
  obtain ⟨i0, hi, hz0, hz1, hz2⟩ := info_parts infoLot
  have H1 := Lib.hid hi
  have H2 := Lib.hid hz0
  have H3 := Lib.hid hz1
  have H4 := Lib.hid hz2
  obtain ⟨A, c, rfl, hc1, hc2, hcz, hl⟩ := id hv
  have HL : Hid (∀ a, A = some a → ∀ j u, (lcells l)[j]? = some u → w.cell? (a.add j) = some u) := Lib.hid (fun a ha j u hu => by
    obtain ⟨ad, h1, _, h2⟩ := hl.get hu
    rw [h1] at ha; cases ha; exact h2)
  have HCZ : Hid (A = none → l.length = 0 ∧ c = 0) := Lib.hid (fun h => by have := hcz h; omega)
  have HNIL : Hid (w.ownsRow w.heap.size 42 6 (.slice none 0 0) 0 []) := Lib.hid (World.ownsRow_nil _ _ _ _)
  clear hi hz0 hz1 hz2 hl hv
  go_enter Try.func29, Try.ntmps29
  go_wp2_with (at_builtin; refine wpList_append_any _ rfl _ _ 22 rfl w.heap.size 42 i0 _ 6 56 Try.underlying22 H1.out H2.out H3.out H4.out rfl (by decide) _ 0 [] rfl HNIL.out A l.length c (lcells l) rfl (lcells_length l) HCZ.out HL.out (lcells_one_ l) (by unfold maxLen; omega) (by omega) (Nat.le_refl _) ?_; intro v1 w1 hown1 hg1 ha1; have ho1 := Lib.hid hown1; have hG1 := Lib.hid hg1.out; clear hown1 hg1 ha1)
  go_ret
  refine ⟨v1, rfl, ?_, (Below.refl _ _).grown hG1.out (Nat.le_refl _) (fun j hj => by exact absurd hj (by simp [Act.eval, Value.ownBlock]))⟩
  have h := ho1.out
  rw [Nat.zero_add, List.nil_append] at h
  exact h
end Go.Proofs.Ytddnfikjfmfhfaa
end
section
/- FlowMore's three steps: no walk. -/
namespace Go.Proofs.Ytddnfikjfmfhfaa
set_option linter.unusedVariables false
theorem mayB_of {l : List Lt} {ws : List Wt} (h1 : l.length ≤ 300) (h2 : ws.length ≤ 20000) (h3 : ∀ x ∈ l, lrightB x = true) (h4 : ∀ x ∈ ws, wantB x = true) (h5 : (l.map Lt.id).Nodup) : mayB l ws = true := by
  simp only [mayB, Bool.and_eq_true, decide_eq_true_eq, List.all_eq_true]
  exact ⟨⟨h1, h2⟩, h3, h4, h5⟩
theorem fits_less {l : List Lt} {ws : List Wt} {k : Nat} (h : fitsP l ws) (hk : k < ws.length) : fitsP l (ws.take k ++ ws.drop (k + 1)) := by
  obtain ⟨hb, hc⟩ := h
  obtain ⟨h1, h2, h3, h4, h5⟩ := mayB_true hb
  have hp : ws.Perm (ws[k] :: (ws.take k ++ ws.drop (k + 1))) := by
    have e : ws = ws.take k ++ ws[k] :: ws.drop (k + 1) := by rw [← List.drop_eq_getElem_cons hk, List.take_append_drop]
    have := (List.perm_middle (a := ws[k]) (l₁ := ws.take k) (l₂ := ws.drop (k + 1)))
    rw [← e] at this
    exact this
  refine ⟨mayB_of h1 ?_ h3 (fun x hx => h4 x (hp.mem_iff.2 (List.mem_cons_of_mem _ hx))) h5, (Fl.Feas.perm hp hc).less⟩
  have := hp.length_eq
  simp only [List.length_cons] at this
  omega
/-- Longer days for the lot of that number. -/
def longer (i a b : Int) (x : Lt) : Lt := if x.id = i then ⟨x.id, x.item, max (x.fr - b) 0, min (x.un + a) 4001, x.qty, x.arr⟩ else x
theorem longer_id (i a b : Int) (x : Lt) : (longer i a b x).id = x.id := by unfold longer; split <;> rfl
theorem longer_ids (i a b : Int) (l : List Lt) : (l.map (longer i a b)).map Lt.id = l.map Lt.id := by
  rw [List.map_map]; exact List.map_congr_left (fun x _ => longer_id i a b x)
theorem longer_right {i a b : Int} {x : Lt} (ha : 0 ≤ a) (hb : 0 ≤ b) (h : lrightB x = true) : lrightB (longer i a b x) = true := by
  unfold longer
  split
  · unfold lrightB daysB at h ⊢
    simp only [Bool.and_eq_true, decide_eq_true_eq] at h ⊢
    refine ⟨h.1, h.2.1, ?_, h.2.2.2⟩
    omega
  · exact h
theorem longer_serves {i a b : Int} {x : Lt} (ha : 0 ≤ a) (hb : 0 ≤ b) (w : Wt) (h : servesB x w = true) : servesB (longer i a b x) w = true := by
  unfold longer
  split
  · unfold servesB hasB at h ⊢
    simp only [Bool.and_eq_true, decide_eq_true_eq] at h ⊢
    refine ⟨h.1, ?_⟩
    omega
  · exact h
theorem qtyOf_longer {i a b : Int} {l : List Lt} (hn : (l.map Lt.id).Nodup) (j : Int) : qtyOf (l.map (longer i a b)) j = qtyOf l j := by
  have hn' : ((l.map (longer i a b)).map Lt.id).Nodup := by rw [longer_ids]; exact hn
  by_cases hj : j ∈ l.map Lt.id
  · obtain ⟨x, hx, rfl⟩ := List.mem_map.1 hj
    rw [qtyOf_mem hn hx, ← longer_id i a b x, qtyOf_mem hn' (List.mem_map_of_mem hx)]
    unfold longer; split <;> rfl
  · have h1 : qtyOf l j = 0 := by unfold qtyOf; rw [(lastId_none l j).2 hj]
    have h2 : qtyOf (l.map (longer i a b)) j = 0 := by unfold qtyOf; rw [(lastId_none _ j).2 (by rw [longer_ids]; exact hj)]
    rw [h1, h2]
theorem fits_longer {l : List Lt} {ws : List Wt} {i a b : Int} (h : fitsP l ws) (ha : 0 ≤ a) (hb : 0 ≤ b) : fitsP (l.map (longer i a b)) ws := by
  obtain ⟨hm, hc⟩ := h
  obtain ⟨h1, h2, h3, h4, h5⟩ := mayB_true hm
  refine ⟨mayB_of (by rw [List.length_map]; exact h1) h2 (fun x hx => ?_) h4 (by rw [longer_ids]; exact h5), ?_⟩
  · obtain ⟨z, hz, rfl⟩ := List.mem_map.1 hx
    exact longer_right ha hb (h3 z hz)
  · have e : qtyOf (l.map (longer i a b)) = qtyOf l := funext (fun j => qtyOf_longer h5 j)
    rw [e]
    exact CanAll.longer (fun x _ => longer_id i a b x) (fun x _ w hs => longer_serves ha hb w hs) hc
theorem fits_more {l : List Lt} {m : Lt} {ws : List Wt} (h : fitsP l ws) (hm : mayB (l ++ [m]) [] = true) : fitsP (l ++ [m]) ws := by
  obtain ⟨hm0, hc⟩ := h
  obtain ⟨_, h2, _, h4, h5⟩ := mayB_true hm0
  obtain ⟨g1, _, g3, _, g5⟩ := mayB_true hm
  refine ⟨mayB_of g1 h2 g3 h4 g5, CanAll.more (q := qtyOf l) (fun x hx e => ?_) hc (fun x hx => ?_) (qtyOf_range g3 _).1⟩
  · rw [List.map_append, List.nodup_append] at g5
    exact g5.2.2 x.id (List.mem_map_of_mem hx) m.id (by simp) e
  · rw [qtyOf_mem g5 (List.mem_append_left _ hx), qtyOf_mem h5 hx]
theorem check_none (l : List Lt) : checkB l [] [] = mayB l [] := by unfold checkB; simp [checkGo]
end Go.Proofs.Ytddnfikjfmfhfaa
end
