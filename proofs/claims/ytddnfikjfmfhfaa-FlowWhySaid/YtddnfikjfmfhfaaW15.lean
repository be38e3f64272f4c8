/- Texts of this proof, one behind the other. -/
import Derived.Test.YtddnfikjfmfhfaaRows
import Derived.Deep.Slices
import Derived.Deep.Fields
import Derived.ChangeSame
import Derived.SizedLaws
import Derived.OpenShut
import Derived.Test.YtddnfikjfmfhfaaW13
import Derived.Test.YtddnfikjfmfhfaaW14
import Derived.Test.YtddnfikjfmfhfaaW09
section
/- The law FlowWhy, where all wants come through the probe: the walk. Written by gen_fwhy.py. -/
namespace Go.Proofs.Ytddnfikjfmfhfaa
open Go.ChangeShapes Go.WideShapes Go.ChangeAt Go.RowKit Go.Maps Go.Sort
set_option linter.unusedVariables false
set_option maxRecDepth 100000 in
set_option maxHeartbeats 8000000 in
theorem why_good (v1 v2 : Value) (l : List Lt) (ws : List Wt) (w : World) (hv1 : LSl w w.heap.size v1 l) (hv2 : WSl w w.heap.size v2 ws) (hs : Sized l) (hsw : SizedW ws) (hgd : ∀ x ∈ ws, Good x) :
    Calls Try.prog 7 #[v1, v2] w fun e w' => e = .returned (.bool true) ∧ Below w.heap.size w w' := by
  obtain ⟨A1, c1, rfl, hc11, hc12, hcz1, hl1⟩ := id hv1
  obtain ⟨A2, c2, rfl, hc21, hc22, hcz2, hl2⟩ := id hv2
  have HV1 := Lib.hid hv1
  have HV2 := Lib.hid hv2
  have HL1 := Lib.hid hl1
  have HL2 := Lib.hid hl2
  have HS : Hid (Sized l) := Lib.hid hs
  have HSW : Hid (SizedW ws) := Lib.hid hsw
  have HGOOD := Lib.hid hgd
  clear hv1 hv2 hs hl1 hl2 hsw hgd
  go_enter Try.func7, Try.ntmps7
  go_wp2_with fail
  refine (awake_any w).mono ?_
  rintro e w1 ⟨rfl, hb1'⟩
  have HW1 := Lib.hid (HV1.out.at_ hb1')
  have HW2 := Lib.hid (HV2.out.at_ hb1')
  have HB1 := Lib.hid hb1'
  clear hb1'
  by_cases hS4 : l.length ≤ 40 ∧ ws.length ≤ 60
  · have hsd : decide (l.length ≤ 40 ∧ ws.length ≤ 60) = true := decide_eq_true hS4
    obtain ⟨h40, h60⟩ := hS4
    by_cases h9 : ws.length ≤ 9
    · have hd9 : decide (9 < (ws.length : Int)) = false := decide_eq_false (by omega)
      cases hcb : mayB l [] with
      | false =>
        have KC : Hid (∀ v1 W, LSl W W.heap.size v1 l → Calls Try.prog 23 #[v1, .slice none 0 0, .slice none 0 0] W fun e w' => e = .returned (.bool false) ∧ Below W.heap.size W w') := Lib.hid (fun v1 W a => by rw [← hcb, ← check_none]; exact check_any _ _ _ l [] [] W (by omega) (by simp) (by simp) HS.out (fun x hx => by simp at hx) a WSl.nil USl.nil)
        clear hcb
        go_wp2_with (first
          | (go_at_call 10; ((with_reducible refine (small_any _ _ _ _ _ _ _).mono ?_); rintro e w2 ⟨rfl, rfl⟩; rw [hsd]))
          | (go_at_call 23; ((with_reducible refine (KC.out _ _ HW1.out).mono ?_); rintro e w3 ⟨rfl, hb3'⟩; have HB3 := Lib.hid (below_two HB1.out hb3'); clear hb3')))
        go_ret
        exact ⟨rfl, HB3.out⟩
      | true =>
        have KC : Hid (∀ v1 W, LSl W W.heap.size v1 l → Calls Try.prog 23 #[v1, .slice none 0 0, .slice none 0 0] W fun e w' => e = .returned (.bool true) ∧ Below W.heap.size W w') := Lib.hid (fun v1 W a => by rw [← hcb, ← check_none]; exact check_any _ _ _ l [] [] W (by omega) (by simp) (by simp) HS.out (fun x hx => by simp at hx) a WSl.nil USl.nil)
        have HMB := Lib.hid hcb
        clear hcb
        by_cases hF : fitsP l ws
        · have KF := Lib.hid (fits_yes hF HS.out (by omega) (by omega))
          go_wp2_with (first
            | (go_at_call 10; ((with_reducible refine (small_any _ _ _ _ _ _ _).mono ?_); rintro e w2 ⟨rfl, rfl⟩; rw [hsd]))
            | (go_at_call 23; ((with_reducible refine (KC.out _ _ HW1.out).mono ?_); rintro e w3 ⟨rfl, hb3'⟩; have HX1 := Lib.hid (HW1.out.at_ hb3'); have HX2 := Lib.hid (HW2.out.at_ hb3'); have HB3 := Lib.hid (below_two HB1.out hb3'); clear hb3'))
            | (go_at_call 18; ((with_reducible refine (KF.out _ _ _ HX1.out HX2.out).mono ?_); rintro e w4 ⟨rfl, hb4'⟩; have HB4 := Lib.hid (below_two HB3.out hb4'); clear hb4')))
          go_ret
          exact ⟨rfl, HB4.out⟩
        · have KF := Lib.hid (fits_not hF HS.out (by omega) (by omega))
          go_wp2_with (first
            | (go_at_call 10; ((with_reducible refine (small_any _ _ _ _ _ _ _).mono ?_); rintro e w2 ⟨rfl, rfl⟩; rw [hsd]))
            | (go_at_call 23; ((with_reducible refine (KC.out _ _ HW1.out).mono ?_); rintro e w3 ⟨rfl, hb3'⟩; have HX1 := Lib.hid (HW1.out.at_ hb3'); have HX2 := Lib.hid (HW2.out.at_ hb3'); have HB3 := Lib.hid (below_two HB1.out hb3'); clear hb3'))
            | (go_at_call 18; ((with_reducible refine (KF.out _ _ _ HX1.out HX2.out).mono ?_); rintro e w4 ⟨rfl, hb4'⟩; have HB4 := Lib.hid (below_two HB3.out hb4'); clear hb4')))
          clear HW1 HW2 HX1 HX2 KC KF HB1 HB3 hd9 hsd
          go_loopw [5] (fun i wr => ∃ k : Nat, k ≤ ws.length ∧ i = .int .i64 k ∧ Hid (∀ j x, j < k → ws[j]? = some x → Good x) ∧ Hid (Below w.heap.size w wr)) (fun i _ => ws.length - (intOf i).toNat)
          case atStart => exact ⟨0, Nat.zero_le _, rfl, Lib.hid (fun j x h => absurd h (by omega)), HB4⟩
          case round =>
            clear HB4
            obtain ⟨k, hk, rfl, HJ, HBr⟩ := hrel
            by_cases hlt : k < ws.length
            · obtain ⟨x, hx⟩ : ∃ x, ws[k]? = some x := ⟨_, List.getElem?_eq_getElem hlt⟩
              obtain ⟨ad, ea, _, _, _, _⟩ := (HL2.out.below HBr.out).rowW hx
              subst ea
              have HALL : Hid (∀ w', Below wr.heap.size wr w' → RowW w' (ad.add (k * 3)) x) := Lib.hid (fun w' h => by
                have hb := HBr.out.trans (h.mono HBr.out.size)
                obtain ⟨a2, e2, _, hr⟩ := (HL2.out.below hb).rowW hx
                cases e2
                exact hr)
              have HX := Lib.hid hx
              have HFX := Lib.hid (HSW.out x (List.mem_of_getElem? hx))
              obtain ⟨dn, hdn⟩ : ∃ dn, IntKind.i64.wrap (x.day + 1) = dn := ⟨_, rfl⟩
              have HPL : Hid (probeL x = ⟨1, x.item, x.day, dn, 1, false⟩) := Lib.hid (by unfold probeL; rw [hdn])
              have HDN := Lib.hid hdn
              clear hx hdn
              obtain ⟨bb, hbb⟩ : ∃ bb : Bool, (bb = false → Good x) ∧ ((bb = true ∧ ¬ fitsP [probeL x] [probeW x]) ∨ (bb = true ∧ x.qty < 1 ∧ fitsP [probeL x] [probeW x]) ∨ (bb = true ∧ ¬ x.qty < 1 ∧ 1125899906842624 < x.qty ∧ fitsP [probeL x] [probeW x]) ∨ (bb = false ∧ ¬ x.qty < 1 ∧ ¬ 1125899906842624 < x.qty ∧ fitsP [probeL x] [probeW x])) := by
                by_cases h1 : fitsP [probeL x] [probeW x]
                · by_cases h2 : x.qty < 1
                  · exact ⟨true, (fun h => by cases h), .inr (.inl ⟨rfl, h2, h1⟩)⟩
                  · by_cases h3 : 1125899906842624 < x.qty
                    · exact ⟨true, (fun h => by cases h), .inr (.inr (.inl ⟨rfl, h2, h3, h1⟩))⟩
                    · exact ⟨false, fun _ => ⟨h1, h2, h3⟩, .inr (.inr (.inr ⟨rfl, h2, h3, h1⟩))⟩
                · exact ⟨true, (fun h => by cases h), .inl ⟨rfl, h1⟩⟩
              obtain ⟨hbr, hbb⟩ := hbb
              have HBRT := Lib.hid hbr
              have HBB := Lib.hid hbb
              clear hbr hbb
              go_upto_region 8 with (fail)
              go_cut [90] (fun v wx => v = .bool bb ∧ Hid (Below w.heap.size w wx))
              case first =>
                have HG := HGOOD.out x (List.mem_of_getElem? HX.out)
                rcases HBB.out with ⟨rfl, hf⟩ | ⟨rfl, h1, hf⟩ | ⟨rfl, h1, h2, hf⟩ | ⟨rfl, h1, h2, hf⟩
                · exact absurd HG.1 hf
                · exact absurd h1 HG.2.1
                · exact absurd h2 HG.2.2
                · have KF := Lib.hid (fits_yes hf (probe_sized HFX.out) (by simp) (by simp))
                  rw [HPL.out, show probeW x = ⟨x.item, x.day, 1⟩ from rfl] at KF
                  have e1 : decide (x.qty < 1) = false := decide_eq_false h1
                  have e2 : decide (1125899906842624 < x.qty) = false := decide_eq_false h2
                  clear hf h1 h2 HG
                  refine wp_region_held_drew (S := fun w' => Below wr.heap.size wr w') (by kernel_rfl) ((Below.refl _ _).drew) (fun hS => ?_)
                  refine wpAnyH_take (i := 0) (v := (.slice (some ad) ws.length c2)) rfl (by kernel_rfl) (by kernel_rfl) (by kernel_rfl) (fun _ _ _ h => h) (Or.inl ⟨by kernel_rfl, fun w' hS' => by go_simp⟩) hS ?_
                  refine wpAnyH_take (i := 1) (v := (.int .i64 (k : Int))) rfl (by kernel_rfl) (by kernel_rfl) (by kernel_rfl) (fun _ _ _ h => h) (Or.inl ⟨by kernel_rfl, fun w' hS' => by go_simp⟩) hS ?_
                  refine wpAnyH_take (i := 2) (v := (.pointer (some (ad.add (k * 3))))) rfl (by kernel_rfl) (by kernel_rfl) (by kernel_rfl) (fun _ _ _ h => h) (Or.inl ⟨by kernel_rfl, fun w' hS' => by go_simp⟩) hS ?_
                  refine wpAnyH_take (i := 3) (v := (.pointer (some (ad.add (k * 3))))) rfl (by kernel_rfl) (by kernel_rfl) (by kernel_rfl) (fun _ _ _ h => h) (Or.inl ⟨by kernel_rfl, fun w' hS' => by go_simp⟩) hS ?_
                  refine wpAnyH_take (i := 4) (v := (.string ⟨x.item.toArray⟩)) rfl (by kernel_rfl) (by kernel_rfl) (by kernel_rfl) (fun _ _ _ h => h) (Or.inl ⟨by kernel_rfl, fun w' hS' => by obtain ⟨d0, d1, d2⟩ := HALL.out w' hS'; go_simp⟩) hS ?_
                  refine wpAnyH_take (i := 5) (v := (.slice (some ad) ws.length c2)) rfl (by kernel_rfl) (by kernel_rfl) (by kernel_rfl) (fun _ _ _ h => h) (Or.inl ⟨by kernel_rfl, fun w' hS' => by go_simp⟩) hS ?_
                  refine wpAnyH_take (i := 6) (v := (.int .i64 (k : Int))) rfl (by kernel_rfl) (by kernel_rfl) (by kernel_rfl) (fun _ _ _ h => h) (Or.inl ⟨by kernel_rfl, fun w' hS' => by go_simp⟩) hS ?_
                  refine wpAnyH_take (i := 7) (v := (.pointer (some (ad.add (k * 3))))) rfl (by kernel_rfl) (by kernel_rfl) (by kernel_rfl) (fun _ _ _ h => h) (Or.inl ⟨by kernel_rfl, fun w' hS' => by go_simp⟩) hS ?_
                  refine wpAnyH_take (i := 8) (v := (.pointer (some ⟨(ad.add (k * 3)).block, (ad.add (k * 3)).off + 1, none⟩))) rfl (by kernel_rfl) (by kernel_rfl) (by kernel_rfl) (fun _ _ _ h => h) (Or.inl ⟨by kernel_rfl, fun w' hS' => by go_simp⟩) hS ?_
                  refine wpAnyH_take (i := 9) (v := (.int .i64 x.day)) rfl (by kernel_rfl) (by kernel_rfl) (by kernel_rfl) (fun _ _ _ h => h) (Or.inl ⟨by kernel_rfl, fun w' hS' => by obtain ⟨d0, d1, d2⟩ := HALL.out w' hS'; go_simp⟩) hS ?_
                  refine wpAnyH_take (i := 10) (v := (.slice (some ad) ws.length c2)) rfl (by kernel_rfl) (by kernel_rfl) (by kernel_rfl) (fun _ _ _ h => h) (Or.inl ⟨by kernel_rfl, fun w' hS' => by go_simp⟩) hS ?_
                  refine wpAnyH_take (i := 11) (v := (.int .i64 (k : Int))) rfl (by kernel_rfl) (by kernel_rfl) (by kernel_rfl) (fun _ _ _ h => h) (Or.inl ⟨by kernel_rfl, fun w' hS' => by go_simp⟩) hS ?_
                  refine wpAnyH_take (i := 12) (v := (.pointer (some (ad.add (k * 3))))) rfl (by kernel_rfl) (by kernel_rfl) (by kernel_rfl) (fun _ _ _ h => h) (Or.inl ⟨by kernel_rfl, fun w' hS' => by go_simp⟩) hS ?_
                  refine wpAnyH_take (i := 13) (v := (.pointer (some ⟨(ad.add (k * 3)).block, (ad.add (k * 3)).off + 1, none⟩))) rfl (by kernel_rfl) (by kernel_rfl) (by kernel_rfl) (fun _ _ _ h => h) (Or.inl ⟨by kernel_rfl, fun w' hS' => by go_simp⟩) hS ?_
                  refine wpAnyH_take (i := 14) (v := (.int .i64 x.day)) rfl (by kernel_rfl) (by kernel_rfl) (by kernel_rfl) (fun _ _ _ h => h) (Or.inl ⟨by kernel_rfl, fun w' hS' => by obtain ⟨d0, d1, d2⟩ := HALL.out w' hS'; go_simp⟩) hS ?_
                  refine wpAnyH_take (i := 15) (v := (.int .i64 dn)) rfl (by kernel_rfl) (by kernel_rfl) (by kernel_rfl) (fun _ _ _ h => h) (Or.inl ⟨by kernel_rfl, fun w' hS' => by have hdn := HDN.out; go_simp⟩) hS ?_
                  refine wpAnyH_take (i := 16) (v := (.agg #[.int .i64 x.day, .int .i64 dn])) rfl (by kernel_rfl) (by kernel_rfl) (by kernel_rfl) (fun _ _ _ h => h) (Or.inl ⟨by kernel_rfl, fun w' hS' => by go_simp⟩) hS ?_
                  refine wpAnyH_take (i := 17) (v := (.agg #[.int .i64 1, .string ⟨x.item.toArray⟩, .int .i64 x.day, .int .i64 dn, .int .i64 1, .bool false])) rfl (by kernel_rfl) (by kernel_rfl) (by kernel_rfl) (fun _ _ _ h => h) (Or.inl ⟨by kernel_rfl, fun w' hS' => by go_simp⟩) hS ?_
                  refine wpAnyH_take (i := 19) (v := (.slice (some ad) ws.length c2)) rfl (by kernel_rfl) (by kernel_rfl) (by kernel_rfl) (fun _ _ _ h => h) (Or.inl ⟨by kernel_rfl, fun w' hS' => by go_simp⟩) hS ?_
                  refine wpAnyH_take (i := 20) (v := (.int .i64 (k : Int))) rfl (by kernel_rfl) (by kernel_rfl) (by kernel_rfl) (fun _ _ _ h => h) (Or.inl ⟨by kernel_rfl, fun w' hS' => by go_simp⟩) hS ?_
                  refine wpAnyH_take (i := 21) (v := (.pointer (some (ad.add (k * 3))))) rfl (by kernel_rfl) (by kernel_rfl) (by kernel_rfl) (fun _ _ _ h => h) (Or.inl ⟨by kernel_rfl, fun w' hS' => by go_simp⟩) hS ?_
                  refine wpAnyH_take (i := 22) (v := (.pointer (some (ad.add (k * 3))))) rfl (by kernel_rfl) (by kernel_rfl) (by kernel_rfl) (fun _ _ _ h => h) (Or.inl ⟨by kernel_rfl, fun w' hS' => by go_simp⟩) hS ?_
                  refine wpAnyH_take (i := 23) (v := (.string ⟨x.item.toArray⟩)) rfl (by kernel_rfl) (by kernel_rfl) (by kernel_rfl) (fun _ _ _ h => h) (Or.inl ⟨by kernel_rfl, fun w' hS' => by obtain ⟨d0, d1, d2⟩ := HALL.out w' hS'; go_simp⟩) hS ?_
                  refine wpAnyH_take (i := 24) (v := (.slice (some ad) ws.length c2)) rfl (by kernel_rfl) (by kernel_rfl) (by kernel_rfl) (fun _ _ _ h => h) (Or.inl ⟨by kernel_rfl, fun w' hS' => by go_simp⟩) hS ?_
                  refine wpAnyH_take (i := 25) (v := (.int .i64 (k : Int))) rfl (by kernel_rfl) (by kernel_rfl) (by kernel_rfl) (fun _ _ _ h => h) (Or.inl ⟨by kernel_rfl, fun w' hS' => by go_simp⟩) hS ?_
                  refine wpAnyH_take (i := 26) (v := (.pointer (some (ad.add (k * 3))))) rfl (by kernel_rfl) (by kernel_rfl) (by kernel_rfl) (fun _ _ _ h => h) (Or.inl ⟨by kernel_rfl, fun w' hS' => by go_simp⟩) hS ?_
                  refine wpAnyH_take (i := 27) (v := (.pointer (some ⟨(ad.add (k * 3)).block, (ad.add (k * 3)).off + 1, none⟩))) rfl (by kernel_rfl) (by kernel_rfl) (by kernel_rfl) (fun _ _ _ h => h) (Or.inl ⟨by kernel_rfl, fun w' hS' => by go_simp⟩) hS ?_
                  refine wpAnyH_take (i := 28) (v := (.int .i64 x.day)) rfl (by kernel_rfl) (by kernel_rfl) (by kernel_rfl) (fun _ _ _ h => h) (Or.inl ⟨by kernel_rfl, fun w' hS' => by obtain ⟨d0, d1, d2⟩ := HALL.out w' hS'; go_simp⟩) hS ?_
                  refine wpAnyH_take (i := 29) (v := (.agg #[.string ⟨x.item.toArray⟩, .int .i64 x.day, .int .i64 1])) rfl (by kernel_rfl) (by kernel_rfl) (by kernel_rfl) (fun _ _ _ h => h) (Or.inl ⟨by kernel_rfl, fun w' hS' => by go_simp⟩) hS ?_
                  refine wpAnyH_ready (rs := [18, 30]) (by kernel_rfl) (by simp) ?_
                  refine AllReadyH.cons rfl (fun K hK => ?_) (AllReadyH.cons rfl (fun K hK => ?_) AllReadyH.nil)
                  · go_simp
                    refine hK.out _ _ (hS.alloc (by simp) _) (fun hS => ?_)
                    clear hK K
                    refine wpAnyH_ready (rs := [30]) (by kernel_rfl) (by simp) ?_
                    refine AllReadyH.cons rfl (fun K hK => ?_) AllReadyH.nil
                    go_simp
                    skip
                    refine hK.out _ _ (hS.alloc (by simp) _) (fun hS => ?_)
                    clear hK K
                    refine wpAnyH_ready (rs := [31]) (by kernel_rfl) (by simp) ?_
                    refine AllReadyH.cons rfl (fun K hK => ?_) AllReadyH.nil
                    go_simp
                    refine (KF.out _ _ _ (two_l1 wr ⟨1, x.item, x.day, dn, 1, false⟩ ⟨x.item, x.day, 1⟩) (two_w1 wr ⟨1, x.item, x.day, dn, 1, false⟩ ⟨x.item, x.day, 1⟩)).mono ?_
                    rintro e w9 ⟨rfl, hb9'⟩
                    have hb9 := Lib.hid hb9'
                    clear hb9'
                    refine hK.out _ _ (hS.trans (hb9.out.mono hS.size)) (fun hS => ?_)
                    clear hK K
                    refine wpAnyH_take (i := 32) (v := (.bool false)) rfl (by kernel_rfl) (by kernel_rfl) (by kernel_rfl) (fun _ _ _ h => h) (Or.inl ⟨by kernel_rfl, fun w' hS' => by go_simp⟩) hS ?_
                    refine wpAnyH_take (i := 33) (v := (.bool false)) rfl (by kernel_rfl) (by kernel_rfl) (by kernel_rfl) (fun _ _ _ h => h) (Or.inl ⟨by kernel_rfl, fun w' hS' => by go_simp⟩) hS ?_
                    refine wpAnyH_take (i := 34) (v := (.slice (some ad) ws.length c2)) rfl (by kernel_rfl) (by kernel_rfl) (by kernel_rfl) (fun _ _ _ h => h) (Or.inl ⟨by kernel_rfl, fun w' hS' => by go_simp⟩) hS ?_
                    refine wpAnyH_take (i := 35) (v := (.int .i64 (k : Int))) rfl (by kernel_rfl) (by kernel_rfl) (by kernel_rfl) (fun _ _ _ h => h) (Or.inl ⟨by kernel_rfl, fun w' hS' => by go_simp⟩) hS ?_
                    refine wpAnyH_take (i := 36) (v := (.pointer (some (ad.add (k * 3))))) rfl (by kernel_rfl) (by kernel_rfl) (by kernel_rfl) (fun _ _ _ h => h) (Or.inl ⟨by kernel_rfl, fun w' hS' => by go_simp⟩) hS ?_
                    refine wpAnyH_take (i := 37) (v := (.pointer (some ⟨(ad.add (k * 3)).block, (ad.add (k * 3)).off + 2, none⟩))) rfl (by kernel_rfl) (by kernel_rfl) (by kernel_rfl) (fun _ _ _ h => h) (Or.inl ⟨by kernel_rfl, fun w' hS' => by go_simp⟩) hS ?_
                    refine wpAnyH_take (i := 38) (v := (.int .i64 x.qty)) rfl (by kernel_rfl) (by kernel_rfl) (by kernel_rfl) (fun _ _ _ h => h) (Or.inl ⟨by kernel_rfl, fun w' hS' => by obtain ⟨d0, d1, d2⟩ := HALL.out w' hS'; go_simp⟩) hS ?_
                    refine wpAnyH_take (i := 39) (v := (.bool false)) rfl (by kernel_rfl) (by kernel_rfl) (by kernel_rfl) (fun _ _ _ h => h) (Or.inl ⟨by kernel_rfl, fun w' hS' => by go_simp⟩) hS ?_
                    refine wpAnyH_take (i := 40) (v := (.bool false)) rfl (by kernel_rfl) (by kernel_rfl) (by kernel_rfl) (fun _ _ _ h => h) (Or.inl ⟨by kernel_rfl, fun w' hS' => by go_simp⟩) hS ?_
                    refine wpAnyH_take (i := 41) (v := (.bool false)) rfl (by kernel_rfl) (by kernel_rfl) (by kernel_rfl) (fun _ _ _ h => h) (Or.inl ⟨by kernel_rfl, fun w' hS' => by go_simp⟩) hS ?_
                    refine wpAnyH_take (i := 42) (v := (.slice (some ad) ws.length c2)) rfl (by kernel_rfl) (by kernel_rfl) (by kernel_rfl) (fun _ _ _ h => h) (Or.inl ⟨by kernel_rfl, fun w' hS' => by go_simp⟩) hS ?_
                    refine wpAnyH_take (i := 43) (v := (.int .i64 (k : Int))) rfl (by kernel_rfl) (by kernel_rfl) (by kernel_rfl) (fun _ _ _ h => h) (Or.inl ⟨by kernel_rfl, fun w' hS' => by go_simp⟩) hS ?_
                    refine wpAnyH_take (i := 44) (v := (.pointer (some (ad.add (k * 3))))) rfl (by kernel_rfl) (by kernel_rfl) (by kernel_rfl) (fun _ _ _ h => h) (Or.inl ⟨by kernel_rfl, fun w' hS' => by go_simp⟩) hS ?_
                    refine wpAnyH_take (i := 45) (v := (.pointer (some ⟨(ad.add (k * 3)).block, (ad.add (k * 3)).off + 2, none⟩))) rfl (by kernel_rfl) (by kernel_rfl) (by kernel_rfl) (fun _ _ _ h => h) (Or.inl ⟨by kernel_rfl, fun w' hS' => by go_simp⟩) hS ?_
                    refine wpAnyH_take (i := 46) (v := (.int .i64 x.qty)) rfl (by kernel_rfl) (by kernel_rfl) (by kernel_rfl) (fun _ _ _ h => h) (Or.inl ⟨by kernel_rfl, fun w' hS' => by obtain ⟨d0, d1, d2⟩ := HALL.out w' hS'; go_simp⟩) hS ?_
                    refine wpAnyH_take (i := 47) (v := (.bool false)) rfl (by kernel_rfl) (by kernel_rfl) (by kernel_rfl) (fun _ _ _ h => h) (Or.inl ⟨by kernel_rfl, fun w' hS' => by go_simp⟩) hS ?_
                    refine wpAnyH_take (i := 48) (v := (.bool false)) rfl (by kernel_rfl) (by kernel_rfl) (by kernel_rfl) (fun _ _ _ h => h) (Or.inl ⟨by kernel_rfl, fun w' hS' => by go_simp⟩) hS ?_
                    refine wpAnyH_done (by kernel_rfl) ?_ _
                    go_simp
                    go_wp2_with fail
                    go_meet
                    exact ⟨rfl, Lib.hid (HBr.out.trans (hS.mono HBr.out.size))⟩
                  · go_simp
                    refine hK.out _ _ (hS.alloc (by simp) _) (fun hS => ?_)
                    clear hK K
                    refine wpAnyH_ready (rs := [18]) (by kernel_rfl) (by simp) ?_
                    refine AllReadyH.cons rfl (fun K hK => ?_) AllReadyH.nil
                    go_simp
                    skip
                    refine hK.out _ _ (hS.alloc (by simp) _) (fun hS => ?_)
                    clear hK K
                    refine wpAnyH_ready (rs := [31]) (by kernel_rfl) (by simp) ?_
                    refine AllReadyH.cons rfl (fun K hK => ?_) AllReadyH.nil
                    go_simp
                    refine (KF.out _ _ _ (two_l2 wr ⟨1, x.item, x.day, dn, 1, false⟩ ⟨x.item, x.day, 1⟩) (two_w2 wr ⟨1, x.item, x.day, dn, 1, false⟩ ⟨x.item, x.day, 1⟩)).mono ?_
                    rintro e w9 ⟨rfl, hb9'⟩
                    have hb9 := Lib.hid hb9'
                    clear hb9'
                    refine hK.out _ _ (hS.trans (hb9.out.mono hS.size)) (fun hS => ?_)
                    clear hK K
                    refine wpAnyH_take (i := 32) (v := (.bool false)) rfl (by kernel_rfl) (by kernel_rfl) (by kernel_rfl) (fun _ _ _ h => h) (Or.inl ⟨by kernel_rfl, fun w' hS' => by go_simp⟩) hS ?_
                    refine wpAnyH_take (i := 33) (v := (.bool false)) rfl (by kernel_rfl) (by kernel_rfl) (by kernel_rfl) (fun _ _ _ h => h) (Or.inl ⟨by kernel_rfl, fun w' hS' => by go_simp⟩) hS ?_
                    refine wpAnyH_take (i := 34) (v := (.slice (some ad) ws.length c2)) rfl (by kernel_rfl) (by kernel_rfl) (by kernel_rfl) (fun _ _ _ h => h) (Or.inl ⟨by kernel_rfl, fun w' hS' => by go_simp⟩) hS ?_
                    refine wpAnyH_take (i := 35) (v := (.int .i64 (k : Int))) rfl (by kernel_rfl) (by kernel_rfl) (by kernel_rfl) (fun _ _ _ h => h) (Or.inl ⟨by kernel_rfl, fun w' hS' => by go_simp⟩) hS ?_
                    refine wpAnyH_take (i := 36) (v := (.pointer (some (ad.add (k * 3))))) rfl (by kernel_rfl) (by kernel_rfl) (by kernel_rfl) (fun _ _ _ h => h) (Or.inl ⟨by kernel_rfl, fun w' hS' => by go_simp⟩) hS ?_
                    refine wpAnyH_take (i := 37) (v := (.pointer (some ⟨(ad.add (k * 3)).block, (ad.add (k * 3)).off + 2, none⟩))) rfl (by kernel_rfl) (by kernel_rfl) (by kernel_rfl) (fun _ _ _ h => h) (Or.inl ⟨by kernel_rfl, fun w' hS' => by go_simp⟩) hS ?_
                    refine wpAnyH_take (i := 38) (v := (.int .i64 x.qty)) rfl (by kernel_rfl) (by kernel_rfl) (by kernel_rfl) (fun _ _ _ h => h) (Or.inl ⟨by kernel_rfl, fun w' hS' => by obtain ⟨d0, d1, d2⟩ := HALL.out w' hS'; go_simp⟩) hS ?_
                    refine wpAnyH_take (i := 39) (v := (.bool false)) rfl (by kernel_rfl) (by kernel_rfl) (by kernel_rfl) (fun _ _ _ h => h) (Or.inl ⟨by kernel_rfl, fun w' hS' => by go_simp⟩) hS ?_
                    refine wpAnyH_take (i := 40) (v := (.bool false)) rfl (by kernel_rfl) (by kernel_rfl) (by kernel_rfl) (fun _ _ _ h => h) (Or.inl ⟨by kernel_rfl, fun w' hS' => by go_simp⟩) hS ?_
                    refine wpAnyH_take (i := 41) (v := (.bool false)) rfl (by kernel_rfl) (by kernel_rfl) (by kernel_rfl) (fun _ _ _ h => h) (Or.inl ⟨by kernel_rfl, fun w' hS' => by go_simp⟩) hS ?_
                    refine wpAnyH_take (i := 42) (v := (.slice (some ad) ws.length c2)) rfl (by kernel_rfl) (by kernel_rfl) (by kernel_rfl) (fun _ _ _ h => h) (Or.inl ⟨by kernel_rfl, fun w' hS' => by go_simp⟩) hS ?_
                    refine wpAnyH_take (i := 43) (v := (.int .i64 (k : Int))) rfl (by kernel_rfl) (by kernel_rfl) (by kernel_rfl) (fun _ _ _ h => h) (Or.inl ⟨by kernel_rfl, fun w' hS' => by go_simp⟩) hS ?_
                    refine wpAnyH_take (i := 44) (v := (.pointer (some (ad.add (k * 3))))) rfl (by kernel_rfl) (by kernel_rfl) (by kernel_rfl) (fun _ _ _ h => h) (Or.inl ⟨by kernel_rfl, fun w' hS' => by go_simp⟩) hS ?_
                    refine wpAnyH_take (i := 45) (v := (.pointer (some ⟨(ad.add (k * 3)).block, (ad.add (k * 3)).off + 2, none⟩))) rfl (by kernel_rfl) (by kernel_rfl) (by kernel_rfl) (fun _ _ _ h => h) (Or.inl ⟨by kernel_rfl, fun w' hS' => by go_simp⟩) hS ?_
                    refine wpAnyH_take (i := 46) (v := (.int .i64 x.qty)) rfl (by kernel_rfl) (by kernel_rfl) (by kernel_rfl) (fun _ _ _ h => h) (Or.inl ⟨by kernel_rfl, fun w' hS' => by obtain ⟨d0, d1, d2⟩ := HALL.out w' hS'; go_simp⟩) hS ?_
                    refine wpAnyH_take (i := 47) (v := (.bool false)) rfl (by kernel_rfl) (by kernel_rfl) (by kernel_rfl) (fun _ _ _ h => h) (Or.inl ⟨by kernel_rfl, fun w' hS' => by go_simp⟩) hS ?_
                    refine wpAnyH_take (i := 48) (v := (.bool false)) rfl (by kernel_rfl) (by kernel_rfl) (by kernel_rfl) (fun _ _ _ h => h) (Or.inl ⟨by kernel_rfl, fun w' hS' => by go_simp⟩) hS ?_
                    refine wpAnyH_done (by kernel_rfl) ?_ _
                    go_simp
                    go_wp2_with fail
                    go_meet
                    exact ⟨rfl, Lib.hid (HBr.out.trans (hS.mono HBr.out.size))⟩
              case rest =>
                obtain ⟨rfl, HBc⟩ := hcut
                cases bb with
                | true =>
                  go_wp2
                  go_ret
                  exact ⟨rfl, HBc.out⟩
                | false =>
                  have HW := Lib.hid (HBRT.out rfl)
                  go_wp2
                  go_roundw
                  case rel => exact ⟨k + 1, by omega, by go_num, Lib.hid (fun j z hj hz => by
                    rcases Nat.lt_succ_iff_lt_or_eq.1 hj with h | h
                    · exact HJ.out j z h hz
                    · subst h; rw [HX.out] at hz; cases hz; exact HW.out), HBc⟩
                  case measure => simp [intOf]; omega

            · obtain rfl : k = ws.length := by omega
              have HWR : Hid (∀ x ∈ ws, wantB x = true) := Lib.hid (fun x hx => by
                obtain ⟨i, hi⟩ := List.getElem?_of_mem hx
                obtain ⟨g1, g2, g3⟩ := HJ.out i x (List.getElem?_eq_some_iff.1 hi).1 hi
                exact probe_right g1 (by omega) (by omega))
              have HMAY : Hid (mayB l ws = true) := Lib.hid (by
                obtain ⟨a1, _, a3, _, a5⟩ := mayB_true HMB.out
                exact mayB_of a1 (by omega) a3 HWR.out a5)
              have HEX := Lib.hid (why_some HMAY.out hF)
              obtain ⟨N, hN⟩ : ∃ N : Nat, 2 ^ ws.length = N := ⟨_, rfl⟩
              have hp9 : N ≤ 512 := by
                have := Nat.pow_le_pow_right (show 0 < 2 by omega) h9
                rw [hN] at this; simpa using this
              have hNp : 1 ≤ N := by rw [← hN]; exact Nat.one_le_two_pow
              have HWN : Hid (IntKind.i64.wrap ((2 : Int) ^ ws.length) = (N : Int)) := Lib.hid (by
                have e : ((2 : Int) ^ ws.length) = (N : Int) := by rw [← hN]; norm_cast
                rw [e, IntKind.wrap_i64]; omega)
              rw [hN] at HEX
              obtain ⟨w5, rfl⟩ : ∃ W, W = wr := ⟨_, rfl⟩
              clear HJ hF hN
              go_wp2_with fail
              go_loopw [6] (fun i wr => ∃ s : Nat, 1 ≤ s ∧ s ≤ N ∧ i = .int .i64 s ∧ Hid (∀ s', 1 ≤ s' → s' < s → ¬ Viol l ws s') ∧ Hid (Below w.heap.size w wr)) (fun i _ => N - (intOf i).toNat)
              case atStart => exact ⟨1, Nat.le_refl _, hNp, rfl, Lib.hid (fun s' h1 h2 => absurd h2 (by omega)), HBr⟩
              case round =>
                clear HBr
                obtain ⟨s, hs1, hs2, rfl, HVI, HBr⟩ := hrel
                have hwn := HWN.out
                by_cases hsn : s < N
                · go_wp2_with fail
                  go_loopw [7, 8, 9, 10] (fun it one nd i wr => ∃ k : Nat, k ≤ ws.length ∧ i = .int .i64 k ∧ it = .string ⟨(oneF ws (bitOf s) k).1.toArray⟩ ∧ one = .bool (oneF ws (bitOf s) k).2 ∧ nd = .int .i64 (Fl.needT (bitOf s) ((wnOf ws).take k)) ∧ Hid (Below w.heap.size w wr)) (fun _ _ _ i _ => ws.length - (intOf i).toNat)
                  case atStart => exact ⟨0, Nat.zero_le _, rfl, rfl, rfl, by simp [Fl.needT], HBr⟩
                  case round =>
                    clear HBr
                    obtain ⟨k, hk, rfl, rfl, rfl, rfl, HBr⟩ := hrel
                    by_cases hlt : k < ws.length
                    · obtain ⟨x, hx⟩ : ∃ x, ws[k]? = some x := ⟨_, List.getElem?_eq_getElem hlt⟩
                      obtain ⟨ad, ea, _, p0, p1, p2⟩ := (HL2.out.below HBr.out).rowW hx
                      subst ea
                      have hgd : ws.getD k default = x := by rw [List.getD_eq_getElem?_getD, hx]; rfl
                      have hst := Lib.hid (need_step (T := bitOf s) hx)
                      have HWT := HWR.out
                      have hb1 := need_bd HWT h9 (bitOf s) k
                      have hb2 := need_bd HWT h9 (bitOf s) (k + 1)
                      clear HWT
                      rw [hst.out] at hb2
                      have hbt := bit_int s k
                      have HOS : Hid (oneF ws (bitOf s) (k + 1) = if bitOf s k = true then (x.item, (oneF ws (bitOf s) k).2 && (decide ((oneF ws (bitOf s) k).1 = []) || decide ((oneF ws (bitOf s) k).1 = x.item))) else oneF ws (bitOf s) k) := Lib.hid (by rw [← hgd]; rfl)
                      generalize hO : oneF ws (bitOf s) k = O at HOS ⊢
                      obtain ⟨it, on⟩ := O
                      simp only at HOS ⊢
                      have HX := Lib.hid hx
                      have HO := Lib.hid hO
                      clear hx hgd hO
                      generalize hnd : Fl.needT (bitOf s) ((wnOf ws).take k) = nd at hst hb1 hb2 ⊢
                      have HND := Lib.hid hnd
                      clear hnd
                      cases hbk : bitOf s k with
                      | false =>
                        rw [hbk] at hbt HOS hst
                        clear hbk
                        go_wp2
                        go_roundw
                        case rel => exact ⟨k + 1, by omega, by go_num, by rw [HOS.out]; rfl, by rw [HOS.out]; rfl, by rw [hst.out]; simp, HBr⟩
                        case measure => simp [intOf]; omega
                      | true =>
                        rw [hbk] at hbt HOS hst hb2
                        clear hbk
                        rw [if_pos rfl] at hb2
                        have hwr : IntKind.i64.wrap (nd + x.qty) = nd + x.qty := by rw [IntKind.wrap_i64]; omega
                        cases on with
                        | false =>
                          go_wp2
                          go_roundw
                          case rel => exact ⟨k + 1, by omega, by go_num, by rw [HOS.out]; rfl, by rw [HOS.out]; rfl, by rw [hst.out]; simp, HBr⟩
                          case measure => simp [intOf]; omega
                        | true =>
                          by_cases hit : it = []
                          · subst hit
                            go_wp2
                            go_roundw
                            case rel => exact ⟨k + 1, by omega, by go_num, by rw [HOS.out]; rfl, by rw [HOS.out]; rfl, by rw [hst.out]; simp, HBr⟩
                            case measure => simp [intOf]; omega
                          · by_cases hxi : it = x.item
                            · have he : (it == x.item) = true := by simp [hxi]
                              have he2 : (it == []) = false := by simp [hit]
                              have HXI := Lib.hid hxi
                              have HIT := Lib.hid hit
                              clear hxi
                              go_wp2
                              go_roundw
                              case rel => exact ⟨k + 1, by omega, by go_num, by rw [HOS.out]; rfl, by rw [HOS.out]; simp [HXI.out], by rw [hst.out]; simp, HBr⟩
                              case measure => simp [intOf]; omega
                            · have he : (it == x.item) = false := by simp [hxi]
                              have he2 : (it == []) = false := by simp [hit]
                              have HXI := Lib.hid hxi
                              have HIT := Lib.hid hit
                              go_wp2
                              go_roundw
                              case rel => exact ⟨k + 1, by omega, by go_num, by rw [HOS.out]; rfl, by rw [HOS.out]; simp [HXI.out, HIT.out], by rw [hst.out]; simp, HBr⟩
                              case measure => simp [intOf]; omega
                    · obtain rfl : k = ws.length := by omega
                      rw [wnOf_all]
                      have hnb := need_bd HWR.out h9 (bitOf s) ws.length
                      rw [wnOf_all] at hnb
                      have HVD : Hid (∀ o nd, oneF ws (bitOf s) ws.length = o → Fl.needT (bitOf s) (wnOf ws) = nd → (o.2 = true ∧ Fl.haveT Lt.id servesB (qtyOf l) (bitOf s) (wnOf ws) l < nd ↔ Viol l ws s)) := Lib.hid (fun o nd h1 h2 => by subst h1 h2; exact Iff.rfl)
                      generalize hO : oneF ws (bitOf s) ws.length = O
                      obtain ⟨it, on⟩ := O
                      generalize hnd : Fl.needT (bitOf s) (wnOf ws) = nd at hnb ⊢
                      have HVI2 := Lib.hid (HVD.out _ _ hO hnd)
                      clear hO hnd HVD
                      simp only at HVI2 ⊢
                      obtain ⟨w6, rfl⟩ : ∃ W, W = wr := ⟨_, rfl⟩
                      go_wp2_with fail
                      go_loopw [11, 12] (fun hv i wr => ∃ k : Nat, k ≤ l.length ∧ i = .int .i64 k ∧ hv = .int .i64 (Fl.haveT Lt.id servesB (qtyOf l) (bitOf s) (wnOf ws) (l.take k)) ∧ Hid (Below w.heap.size w wr)) (fun _ i _ => l.length - (intOf i).toNat)
                      case atStart => exact ⟨0, Nat.zero_le _, rfl, by simp [Fl.haveT], HBr⟩
                      case round =>
                        clear HBr
                        obtain ⟨m, hm, rfl, rfl, HBr⟩ := hrel
                        have hhb := have_bd (mayB_true HMB.out).2.2.1 h40 (bitOf s) (wnOf ws) m
                        by_cases hml : m < l.length
                        · obtain ⟨y, hy⟩ : ∃ y, l[m]? = some y := ⟨_, List.getElem?_eq_getElem hml⟩
                          have HY := Lib.hid hy
                          have HHS := Lib.hid (have_step (wn := wnOf ws) (T := bitOf s) (q := qtyOf l) hy)
                          have HQY : Hid (qtyOf l y.id = y.qty) := Lib.hid (qtyOf_mem (mayB_true HMB.out).2.2.2.2 (List.mem_of_getElem? hy))
                          have hhb2 := have_bd (mayB_true HMB.out).2.2.1 h40 (bitOf s) (wnOf ws) (m + 1)
                          rw [HHS.out] at hhb2
                          generalize hhv : Fl.haveT Lt.id servesB (qtyOf l) (bitOf s) (wnOf ws) (l.take m) = hv at hhb hhb2 HHS ⊢
                          have HHV := Lib.hid hhv
                          clear hy hhv
                          obtain ⟨w7, rfl⟩ : ∃ W, W = wr := ⟨_, rfl⟩
                          go_wp2_with fail
                          go_loopw [13, 14] (fun sv i wr => ∃ k : Nat, k ≤ ws.length ∧ i = .int .i64 k ∧ sv = .bool (Fl.meets servesB y (bitOf s) ((wnOf ws).take k)) ∧ Hid (Below w.heap.size w wr)) (fun _ i _ => ws.length - (intOf i).toNat)
                          case atStart => exact ⟨0, Nat.zero_le _, rfl, by simp [Fl.meets], HBr⟩
                          case round =>
                            clear HBr
                            obtain ⟨k, hk, rfl, rfl, HBr⟩ := hrel
                            by_cases hlt : k < ws.length
                            · obtain ⟨x, hx⟩ : ∃ x, ws[k]? = some x := ⟨_, List.getElem?_eq_getElem hlt⟩
                              obtain ⟨ad, ea, _, _, _, _⟩ := (HL2.out.below HBr.out).rowW hx
                              subst ea
                              obtain ⟨ad1, ea, _, _, _, _, _, _, _⟩ := (HL1.out.below HBr.out).six HY.out
                              subst ea
                              have HALL : Hid (∀ w', Below wr.heap.size wr w' → RowW w' (ad.add (k * 3)) x ∧ Six w' (ad1.add (m * 6)) y) := Lib.hid (fun w' h => by
                                have hb := HBr.out.trans (h.mono HBr.out.size)
                                obtain ⟨a2, e2, _, hr⟩ := (HL2.out.below hb).rowW hx
                                obtain ⟨a1, e1, _, h6⟩ := (HL1.out.below hb).six HY.out
                                cases e1; cases e2
                                exact ⟨hr, h6⟩)
                              have HMS := Lib.hid (meets_step (T := bitOf s) (y := y) hx)
                              have HBT := Lib.hid (bit_int s k)
                              have HKU : Hid (IntKind.u64.wrap (k : Int) = (k : Int)) := Lib.hid (by rw [IntKind.wrap_u64]; omega)
                              generalize Fl.meets servesB y (bitOf s) ((wnOf ws).take k) = sv at HMS ⊢
                              clear hx
                              cases sv with
                              | true =>
                                go_wp2
                                go_quiet (fail)
                                go_wp2
                                go_roundw
                                case rel => exact ⟨k + 1, by omega, by go_num, by rw [HMS.out]; rfl, Lib.hid (below_draws HBr.out _)⟩
                                case measure => simp [intOf]; omega
                              | false =>
                                cases hbk : bitOf s k with
                                | false =>
                                  rw [hbk] at HMS HBT
                                  clear hbk
                                  have hbt := HBT.out
                                  have hku := HKU.out
                                  go_wp2
                                  go_quiet (fail)
                                  go_wp2
                                  go_roundw
                                  case rel => exact ⟨k + 1, by omega, by go_num, by rw [HMS.out]; rfl, Lib.hid (below_draws HBr.out _)⟩
                                  case measure => simp [intOf]; omega
                                | true =>
                                  rw [hbk] at HMS HBT
                                  clear hbk
                                  by_cases hit : y.item = x.item
                                  · have HEQ : Hid ((y.item == x.item) = true) := Lib.hid (by simp [hit])
                                    obtain ⟨hv, hh⟩ : ∃ b, hasB y.fr y.un x.day = b := ⟨_, rfl⟩
                                    have HHAS := Lib.hid hh
                                    have hsb : Hid (servesB y x = hv) := Lib.hid (by unfold servesB; rw [hh, decide_eq_true hit]; rfl)
                                    clear hh hit
                                    have he := HEQ.out
                                    have hbt := HBT.out
                                    have hku := HKU.out
                                    have hA : ∀ n os, RowW (grow (wr.drewN n) os) (ad.add (k * 3)) x ∧ Six (grow (wr.drewN n) os) (ad1.add (m * 6)) y := fun n os => HALL.out _ (below_grow (Below.refl _ _) (Nat.le_refl _) n os)
                                    have q0 := fun n os => (hA n os).1.1
                                    have q1 := fun n os => (hA n os).1.2.1
                                    have q2 := fun n os => (hA n os).2.2.1
                                    have q3 := fun n os => (hA n os).2.2.2.1
                                    have q4 := fun n os => (hA n os).2.2.2.2.1
                                    clear hA
                                    go_wp2
                                    have hmo : Try.prog.follows .mixedOrders = true := by kernel_rfl
                                    refine wp_region_quiet_grown (by assumption) (by kernel_rfl) ?_
                                    repeat (go_big_quiet_step ((go_at_call 28; exact has_grown hv _ _ _ _ _ _ HHAS.out)))
                                    refine wpQuiet_nil ?_
                                    intro _ hw'
                                    obtain ⟨⟨nq, osq⟩, hw''⟩ := hw'
                                    subst hw''
                                    clear hmo q0 q1 q2 q3 q4
                                    have hbq := below_grow HBr.out HBr.out.size nq osq
                                    go_wp2
                                    go_roundw
                                    case rel => exact ⟨k + 1, by omega, by go_num, by rw [HMS.out, hsb.out]; rfl, Lib.hid hbq⟩
                                    case measure => simp [intOf]; omega
                                  · have HEQ : Hid ((y.item == x.item) = false) := Lib.hid (beq_eq_false_iff_ne.2 hit)
                                    have hsb : Hid (servesB y x = false) := Lib.hid (by unfold servesB; rw [decide_eq_false hit]; rfl)
                                    clear hit
                                    have he := HEQ.out
                                    have hbt := HBT.out
                                    have hku := HKU.out
                                    obtain ⟨⟨d0, d1, d2⟩, s0, s1, s2, s3, s4, s5⟩ := HALL.out wr (Below.refl _ _)
                                    go_wp2
                                    go_quiet (fail)
                                    go_wp2
                                    go_roundw
                                    case rel => exact ⟨k + 1, by omega, by go_num, by rw [HMS.out, hsb.out]; rfl, Lib.hid (below_draws HBr.out _)⟩
                                    case measure => simp [intOf]; omega
                            · obtain rfl : k = ws.length := by omega
                              rw [wnOf_all]
                              obtain ⟨ad1, ea, _, p0, p1, p2, p3, p4, p5⟩ := (HL1.out.below HBr.out).six HY.out
                              subst ea
                              cases hme : Fl.meets servesB y (bitOf s) (wnOf ws) with
                              | false =>
                                rw [hme] at HHS
                                clear hme
                                go_wp2
                                go_roundw
                                case rel => exact ⟨m + 1, by omega, by go_num, by rw [HHS.out]; simp, HBr⟩
                                case measure => simp [intOf]; omega
                              | true =>
                                rw [hme, if_pos rfl, HQY.out] at hhb2
                                rw [hme] at HHS
                                clear hme
                                have hwr : IntKind.i64.wrap (hv + y.qty) = hv + y.qty := by rw [IntKind.wrap_i64]; omega
                                go_wp2
                                go_roundw
                                case rel => exact ⟨m + 1, by omega, by go_num, by rw [HHS.out, if_pos rfl, HQY.out], HBr⟩
                                case measure => simp [intOf]; omega
                        · obtain rfl : m = l.length := by omega
                          have hall : l.take l.length = l := List.take_of_length_le (Nat.le_refl _)
                          rw [hall] at hhb ⊢
                          clear hall
                          generalize Fl.haveT Lt.id servesB (qtyOf l) (bitOf s) (wnOf ws) l = hv at hhb HVI2 ⊢
                          cases on with
                          | false =>
                            go_wp2
                            go_roundw
                            case rel => exact ⟨s + 1, by omega, by omega, by go_num, Lib.hid (fun s' a b => by
                              rcases Nat.lt_succ_iff_lt_or_eq.1 b with h | h
                              · exact HVI.out s' a h
                              · subst h; rw [← HVI2.out]; simp), HBr⟩
                            case measure => simp [intOf]; omega
                          | true =>
                            by_cases hgt : hv < nd
                            · have hd : decide (hv < nd) = true := decide_eq_true hgt
                              go_wp2
                              go_ret
                              exact ⟨rfl, HBr.out⟩
                            · have hd : decide (hv < nd) = false := decide_eq_false hgt
                              have HGT := Lib.hid hgt
                              clear hgt
                              go_wp2
                              go_roundw
                              case rel => exact ⟨s + 1, by omega, by omega, by go_num, Lib.hid (fun s' a b => by
                                rcases Nat.lt_succ_iff_lt_or_eq.1 b with h | h
                                · exact HVI.out s' a h
                                · subst h; rw [← HVI2.out]; exact fun h => HGT.out h.2), HBr⟩
                              case measure => simp [intOf]; omega
                · obtain rfl : s = N := by omega
                  exfalso
                  obtain ⟨s', h1, h2, h3⟩ := HEX.out
                  exact HVI.out s' h1 h2 h3

    · have hd9 : decide (9 < (ws.length : Int)) = true := decide_eq_true (by omega)
      go_wp2_with (go_at_call 10; ((with_reducible refine (small_any _ _ _ _ _ _ _).mono ?_); rintro e w2 ⟨rfl, rfl⟩; rw [hsd]))
      go_ret
      exact ⟨rfl, HB1.out⟩
  · have hsd : decide (l.length ≤ 40 ∧ ws.length ≤ 60) = false := decide_eq_false hS4
    clear hS4
    go_wp2_with (go_at_call 10; ((with_reducible refine (small_any _ _ _ _ _ _ _).mono ?_); rintro e w2 ⟨rfl, rfl⟩; rw [hsd]))
    go_ret
    exact ⟨rfl, HB1.out⟩
end Go.Proofs.Ytddnfikjfmfhfaa
end
section
/- The law FlowWhy: whatever lots and wants. -/
namespace Go.Proofs.Ytddnfikjfmfhfaa
open Go.ChangeShapes Go.WideShapes Go.ChangeAt Go.RowKit Go.Maps
set_option linter.unusedVariables false
theorem why_any (v1 v2 : Value) (l : List Lt) (ws : List Wt) (w : World) (hv1 : LSl w w.heap.size v1 l) (hv2 : WSl w w.heap.size v2 ws) (hs : Sized l) (hsw : SizedW ws) :
    Calls Try.prog 7 #[v1, v2] w fun e w' => e = .returned (.bool true) ∧ Below w.heap.size w w' := by
  by_cases h : ∀ x ∈ ws, Good x
  · exact why_good v1 v2 l ws w hv1 hv2 hs hsw h
  · exact why_bad v1 v2 l ws w hv1 hv2 hs hsw h
end Go.Proofs.Ytddnfikjfmfhfaa
end
section
/- Arguments: a lot by value, a list of lots, as cells. -/
namespace Go.Proofs.Ytddnfikjfmfhfaa
open Go.ChangeShapes Go.WideShapes Go.ChangeAt Go.RowKit Go.Deep
set_option linter.unusedVariables false
set_option linter.constructorNameAsVariable false
set_option maxRecDepth 100000

theorem win_of_cells {H : Type} {enc : TypeId × Value → H} {W : World} {base fuel : Nat} {sp : Nat → Bool} {held : Bool} {cs : List Value} {x : DataW H × List MemPlace} (hl : cs.length = 2)
    (h : DataW.trod enc Try.prog W base sp held fuel 40 cs = some x) : ∃ f u : Int, cs = [.int .i64 f, .int .i64 u] ∧ -9223372036854775808 ≤ f ∧ f ≤ 9223372036854775807 ∧ -9223372036854775808 ≤ u ∧ u ≤ 9223372036854775807 := by
  obtain ⟨ys, n, _, _, _, hyl, hf⟩ := DataW.trod_struct Try.underlying40 h
  match cs, hl with
  | [c0, c1], _ =>
    have hC3 : Try.prog.cellsOf 3 = 1 := by kernel_rfl
    obtain ⟨y0, hy0⟩ : ∃ y, ys[0]? = some y := ⟨_, List.getElem?_eq_getElem (by rw [hyl]; decide)⟩
    obtain ⟨y1, hy1⟩ : ∃ y, ys[1]? = some y := ⟨_, List.getElem?_eq_getElem (by rw [hyl]; decide)⟩
    have g0 : DataW.trod enc Try.prog W base sp held n 3 [c0] = some y0 := by have h := (hf 0 _ rfl).trans hy0; simpa [hC3] using h
    have g1 : DataW.trod enc Try.prog W base sp held n 3 [c1] = some y1 := by have h := (hf 1 _ rfl).trans hy1; simpa [hC3] using h
    obtain ⟨f, e0, _, w0⟩ := DataW.trod_int Try.underlying3 g0
    obtain ⟨u, e1, _, w1⟩ := DataW.trod_int Try.underlying3 g1
    obtain rfl : c0 = _ := by simpa using e0
    obtain rfl : c1 = _ := by simpa using e1
    exact ⟨f, u, rfl, (bounds_i64 w0).1, (bounds_i64 w0).2, (bounds_i64 w1).1, (bounds_i64 w1).2⟩
theorem lot_of_cells {H : Type} {enc : TypeId × Value → H} {W : World} {base fuel : Nat} {sp : Nat → Bool} {held : Bool} {cs : List Value} {x : DataW H × List MemPlace} (hl : cs.length = 6)
    (h : DataW.trod enc Try.prog W base sp held fuel 42 cs = some x) : ∃ y : Lt, cs = encL y ∧ y.Fits := by
  obtain ⟨ys, n, _, _, _, hyl, hf⟩ := DataW.trod_struct Try.underlying42 h
  match cs, hl with
  | [c0, c1, c2, c3, c4, c5], _ =>
    have hC3 : Try.prog.cellsOf 3 = 1 := by kernel_rfl
    have hC2 : Try.prog.cellsOf 2 = 1 := by kernel_rfl
    have hC9 : Try.prog.cellsOf 9 = 1 := by kernel_rfl
    have hC4 : Try.prog.cellsOf 4 = 1 := by kernel_rfl
    have hCW : Try.prog.cellsOf 40 = 2 := by kernel_rfl
    obtain ⟨y0, hy0⟩ : ∃ y, ys[0]? = some y := ⟨_, List.getElem?_eq_getElem (by rw [hyl]; decide)⟩
    obtain ⟨y1, hy1⟩ : ∃ y, ys[1]? = some y := ⟨_, List.getElem?_eq_getElem (by rw [hyl]; decide)⟩
    obtain ⟨y2, hy2⟩ : ∃ y, ys[2]? = some y := ⟨_, List.getElem?_eq_getElem (by rw [hyl]; decide)⟩
    obtain ⟨y3, hy3⟩ : ∃ y, ys[3]? = some y := ⟨_, List.getElem?_eq_getElem (by rw [hyl]; decide)⟩
    obtain ⟨y4, hy4⟩ : ∃ y, ys[4]? = some y := ⟨_, List.getElem?_eq_getElem (by rw [hyl]; decide)⟩
    have g0 : DataW.trod enc Try.prog W base sp held n 3 [c0] = some y0 := by have h := (hf 0 _ rfl).trans hy0; simpa [hC3] using h
    have g1 : DataW.trod enc Try.prog W base sp held n 9 [c1] = some y1 := by have h := (hf 1 _ rfl).trans hy1; simpa [hC9] using h
    have g2 : DataW.trod enc Try.prog W base sp held n 40 [c2, c3] = some y2 := by have h := (hf 2 _ rfl).trans hy2; simpa [hCW] using h
    have g3 : DataW.trod enc Try.prog W base sp held n 2 [c4] = some y3 := by have h := (hf 3 _ rfl).trans hy3; simpa [hC2] using h
    have g4 : DataW.trod enc Try.prog W base sp held n 4 [c5] = some y4 := by have h := (hf 4 _ rfl).trans hy4; simpa [hC4] using h
    obtain ⟨i, e0, _, w0⟩ := DataW.trod_int Try.underlying3 g0
    obtain ⟨s, e1, _, w1⟩ := DataW.trod_string Try.underlying9 g1
    obtain ⟨f, u, e2, b1, b2, b3, b4⟩ := win_of_cells rfl g2
    obtain ⟨q, e3, _, w3⟩ := DataW.trod_int Try.underlying2 g3
    obtain ⟨b, e4, _⟩ := DataW.trod_bool Try.underlying4 g4
    simp only [List.cons.injEq, and_true] at e0 e1 e2 e3 e4
    obtain ⟨e2, e2'⟩ := e2
    subst e0 e1 e2 e2' e3 e4
    exact ⟨⟨i, s.data.toList, f, u, q, b⟩, rfl, (bounds_i64 w0).1, (bounds_i64 w0).2, by show s.data.toList.length ≤ maxLen; rw [Array.length_toList]; exact w1, b1, b2, b3, b4, (bounds_i64 w3).1, (bounds_i64 w3).2⟩
/-- A lot that is handed by value. -/
theorem open_lot {H : Type} {enc : TypeId × Value → H} {W : World} {r : Reach} {b0 base : Nat} {sp : Nat → Bool} {held : Bool} {v : Value} {d : DataW H} {p : List MemPlace} (hval : Value.okWide Try.prog W r b0 42 v)
    (h : DataW.Trod enc Try.prog W base sp held 42 v d p) : ∃ y : Lt, v = aggL y ∧ y.Fits := by
  obtain ⟨cs, rfl, hsz⟩ := okWide_struct Try.underlying42 hval
  obtain ⟨l⟩ := cs
  have hC : Try.prog.cellsOf 42 = 6 := by kernel_rfl
  have hl : l.length = 6 := by have := hsz.trans hC; simpa using this
  obtain ⟨fuel, hf⟩ := h
  have hf' : DataW.trod enc Try.prog W base sp held fuel 42 l = some (d, p) := by simpa [Value.cells] using hf
  obtain ⟨y, rfl, hy⟩ := lot_of_cells hl hf'
  exact ⟨y, rfl, hy⟩

theorem cell_lt {w : World} {p : Addr} {u : Value} (h : w.cell? p = some u) : p.block < w.heap.size := World.block_lt_of_cell? w p h
/-- A list of lots that is handed. -/
theorem open_lots {H : Type} {enc : TypeId × Value → H} {W : World} {r : Reach} {b0 base : Nat} {sp : Nat → Bool} {held : Bool} {v : Value} {d : DataW H} {p : List MemPlace} (hval : Value.okWide Try.prog W r b0 22 v)
    (h : DataW.Trod enc Try.prog W base sp held 22 v d p) : ∃ l, LSl W W.heap.size v l ∧ Sized l ∧ (l = [] ∨ ∃ elems spare, d = .slice elems spare ∧ l.length = elems.length) := by
  obtain ⟨a0, len0, cap0, rfl⟩ := okWide_slice Try.underlying22 hval
  obtain ⟨fuel, hf⟩ := h
  rcases open_slice Try.underlying22 hf with ⟨hcs, _⟩ | ⟨a, len, cap, m, n, D, Pl, hcs, _, hl, hm, hmm, hx, hi⟩
  · simp [Value.cells] at hcs
    obtain ⟨rfl, rfl, rfl⟩ := hcs
    exact ⟨[], ⟨none, 0, rfl, Nat.le_refl _, by simp [maxLen], fun _ => rfl, Lies.none⟩, fun x hx => by simp at hx, .inl rfl⟩
  · simp [Value.cells] at hcs
    obtain ⟨rfl, rfl, rfl⟩ := hcs
    have hlm : len0 ≤ m := by rw [hmm]; split <;> omega
    have hC : Try.prog.cellsOf 42 = 6 := by kernel_rfl
    have hpt : ∀ i, i < len0 → ∃ y : Lt, y.Fits ∧ ∀ c u, (encL y)[c]? = some u → W.cell? (a.add (i * 6 + c)) = some u := by
      intro i hil
      obtain ⟨cs', hc, ht⟩ := hi i (by omega)
      rw [hC] at hc
      obtain ⟨_, hlen, hat⟩ := World.cells?_some hc
      obtain ⟨y, rfl, hy⟩ := lot_of_cells hlen ht
      refine ⟨y, hy, fun c u hu => ?_⟩
      have hc6 : c < 6 := by have := (List.getElem?_eq_some_iff.1 hu).1; rw [encL_length] at this; exact this
      have := hat c hc6
      rw [addr_add] at this
      rw [this, hu]
    let f : Nat → Lt := fun i => if h : i < len0 then Classical.choose (hpt i h) else default
    have hff : ∀ i, i < len0 → (f i).Fits ∧ ∀ c u, (encL (f i))[c]? = some u → W.cell? (a.add (i * 6 + c)) = some u := by
      intro i hil
      have := Classical.choose_spec (hpt i hil)
      simp only [f, dif_pos hil]
      exact this
    have hlen : ((List.range len0).map f).length = len0 := by simp
    have hget : ∀ k, k < len0 → ((List.range len0).map f)[k]? = some (f k) := fun k hk => by simp [hk]
    refine ⟨(List.range len0).map f, ⟨some a, cap0, by rw [hlen], by omega, hm, fun h => (by cases h), fun hne => ?_⟩, fun q hq => ?_, .inr ?_⟩
    · have h0 : 0 < len0 := by
        rcases Nat.eq_zero_or_pos len0 with h | h
        · subst h; simp [lcells] at hne
        · exact h
      refine ⟨a, rfl, by have := cell_lt ((hff 0 h0).2 0 _ rfl); rw [addr_block] at this; exact this, fun j u hu => ?_⟩
      have hj : j < len0 * 6 := by have := (List.getElem?_eq_some_iff.1 hu).1; rw [lcells_length, hlen] at this; exact this
      have hk : j / 6 < len0 := by omega
      have := lcells_get _ _ _ (hget (j / 6) hk) (j % 6) (by omega)
      rw [show j / 6 * 6 + j % 6 = j by omega] at this
      rw [this] at hu
      have := (hff (j / 6) hk).2 (j % 6) u hu
      rwa [show j / 6 * 6 + j % 6 = j by omega] at this
    · obtain ⟨k, hk, rfl⟩ := List.mem_map.1 hq
      exact (hff k (by simpa using hk)).1
    · simp only [Prod.mk.injEq] at hx
      exact ⟨_, _, hx.1, by simp⟩

theorem own_knob : ownKnob Try.prog.godebug = none := by kernel_rfl
/-- What a law leaves behind: nothing that was there has turned. -/
theorem post_below {H : Type} {enc : TypeId × Value → H} {P : Program} {f : Func} {s : ChangeSpec} {apart fresh handsOn : Bool} {W W' : World} {args : Array Value} {v : Value} {ds gs : List (DataW H)} {before pa pv : List MemPlace}
    (hW : DataW.Whole enc P f.params.toList s.vars apart W args.toList ds gs before)
    (hres : ∀ (b : Nat) (sp : Nat → Bool) (hd : Bool), DataW.TrodAll enc P W' b sp hd f.resultTypes.toList (v.resultList f.resultTypes.size) (s.fn H (ds ++ gs)).results [])
    (hargs : DataW.TrodAll enc P W' 0 (fun b => decide (b < W.heap.size)) true f.params.toList args.toList (s.fn H (ds ++ gs)).args pa)
    (hvars : DataW.TrodVars enc P W' (fun b => decide (b < W.heap.size)) s.vars (s.fn H (ds ++ gs)).vars pv)
    (hb : Below W.heap.size W W') : s.post enc P f apart fresh handsOn false W args v W' :=
  ⟨ds, gs, before, [], pa, pv, hW, hres _ _ _, hargs, hvars, hb.frame _, fun h => by cases h⟩
theorem laid_out : laidOutB Try.prog = true := by kernel_rfl
end Go.Proofs.Ytddnfikjfmfhfaa
end
section
/- Lists of wants and of uses that are handed. Written by gen_fopen.py. -/
namespace Go.Proofs.Ytddnfikjfmfhfaa
open Go.ChangeShapes Go.WideShapes Go.ChangeAt Go.RowKit Go.Deep
set_option linter.unusedVariables false
set_option maxRecDepth 100000
theorem wants_of_cells {H : Type} {enc : TypeId × Value → H} {W : World} {base fuel : Nat} {sp : Nat → Bool} {held : Bool} {cs : List Value} {x : DataW H × List MemPlace} (hl : cs.length = 3)
    (h : DataW.trod enc Try.prog W base sp held fuel 47 cs = some x) : ∃ y : Wt, cs = encW y ∧ y.Fits := by
  obtain ⟨ys, n, _, _, _, hyl, hf⟩ := DataW.trod_struct Try.underlying47 h
  match cs, hl with
  | [c0, c1, c2], _ =>
    have hC3 : Try.prog.cellsOf 3 = 1 := by kernel_rfl
    have hC2 : Try.prog.cellsOf 2 = 1 := by kernel_rfl
    have hC9 : Try.prog.cellsOf 9 = 1 := by kernel_rfl
    obtain ⟨y0, hy0⟩ : ∃ y, ys[0]? = some y := ⟨_, List.getElem?_eq_getElem (by rw [hyl]; decide)⟩
    obtain ⟨y1, hy1⟩ : ∃ y, ys[1]? = some y := ⟨_, List.getElem?_eq_getElem (by rw [hyl]; decide)⟩
    obtain ⟨y2, hy2⟩ : ∃ y, ys[2]? = some y := ⟨_, List.getElem?_eq_getElem (by rw [hyl]; decide)⟩
    have g0 : DataW.trod enc Try.prog W base sp held n 9 [c0] = some y0 := by have h := (hf 0 _ rfl).trans hy0; simpa [hC9] using h
    have g1 : DataW.trod enc Try.prog W base sp held n 3 [c1] = some y1 := by have h := (hf 1 _ rfl).trans hy1; simpa [hC3] using h
    have g2 : DataW.trod enc Try.prog W base sp held n 2 [c2] = some y2 := by have h := (hf 2 _ rfl).trans hy2; simpa [hC2] using h
    obtain ⟨a0, e0, _, w0⟩ := DataW.trod_string Try.underlying9 g0
    obtain ⟨a1, e1, _, w1⟩ := DataW.trod_int Try.underlying3 g1
    obtain ⟨a2, e2, _, w2⟩ := DataW.trod_int Try.underlying2 g2
    simp only [List.cons.injEq, and_true] at e0 e1 e2
    subst e0 e1 e2
    exact ⟨⟨a0.data.toList, a1, a2⟩, rfl, by show a0.data.toList.length ≤ maxLen; rw [Array.length_toList]; exact w0, (bounds_i64 w1).1, (bounds_i64 w1).2, (bounds_i64 w2).1, (bounds_i64 w2).2⟩
theorem uses_of_cells {H : Type} {enc : TypeId × Value → H} {W : World} {base fuel : Nat} {sp : Nat → Bool} {held : Bool} {cs : List Value} {x : DataW H × List MemPlace} (hl : cs.length = 3)
    (h : DataW.trod enc Try.prog W base sp held fuel 44 cs = some x) : ∃ y : Us, cs = encU y ∧ y.Fits := by
  obtain ⟨ys, n, _, _, _, hyl, hf⟩ := DataW.trod_struct Try.underlying44 h
  match cs, hl with
  | [c0, c1, c2], _ =>
    have hC3 : Try.prog.cellsOf 3 = 1 := by kernel_rfl
    have hC2 : Try.prog.cellsOf 2 = 1 := by kernel_rfl
    have hC9 : Try.prog.cellsOf 9 = 1 := by kernel_rfl
    obtain ⟨y0, hy0⟩ : ∃ y, ys[0]? = some y := ⟨_, List.getElem?_eq_getElem (by rw [hyl]; decide)⟩
    obtain ⟨y1, hy1⟩ : ∃ y, ys[1]? = some y := ⟨_, List.getElem?_eq_getElem (by rw [hyl]; decide)⟩
    obtain ⟨y2, hy2⟩ : ∃ y, ys[2]? = some y := ⟨_, List.getElem?_eq_getElem (by rw [hyl]; decide)⟩
    have g0 : DataW.trod enc Try.prog W base sp held n 3 [c0] = some y0 := by have h := (hf 0 _ rfl).trans hy0; simpa [hC3] using h
    have g1 : DataW.trod enc Try.prog W base sp held n 3 [c1] = some y1 := by have h := (hf 1 _ rfl).trans hy1; simpa [hC3] using h
    have g2 : DataW.trod enc Try.prog W base sp held n 2 [c2] = some y2 := by have h := (hf 2 _ rfl).trans hy2; simpa [hC2] using h
    obtain ⟨a0, e0, _, w0⟩ := DataW.trod_int Try.underlying3 g0
    obtain ⟨a1, e1, _, w1⟩ := DataW.trod_int Try.underlying3 g1
    obtain ⟨a2, e2, _, w2⟩ := DataW.trod_int Try.underlying2 g2
    simp only [List.cons.injEq, and_true] at e0 e1 e2
    subst e0 e1 e2
    exact ⟨⟨a0, a1, a2⟩, rfl, (bounds_i64 w0).1, (bounds_i64 w0).2, (bounds_i64 w1).1, (bounds_i64 w1).2, (bounds_i64 w2).1, (bounds_i64 w2).2⟩
/-- A list of wants that is handed. -/
theorem open_wants {H : Type} {enc : TypeId × Value → H} {W : World} {r : Reach} {b0 base : Nat} {sp : Nat → Bool} {held : Bool} {v : Value} {d : DataW H} {p : List MemPlace} (hval : Value.okWide Try.prog W r b0 23 v)
    (h : DataW.Trod enc Try.prog W base sp held 23 v d p) : ∃ l, WSl W W.heap.size v l ∧ SizedW l ∧ (l = [] ∨ ∃ elems spare, d = .slice elems spare ∧ l.length = elems.length) := by
  obtain ⟨a0, len0, cap0, rfl⟩ := okWide_slice Try.underlying23 hval
  obtain ⟨fuel, hf⟩ := h
  rcases open_slice Try.underlying23 hf with ⟨hcs, _⟩ | ⟨a, len, cap, m, n, D, Pl, hcs, _, hl, hm, hmm, hx, hi⟩
  · simp [Value.cells] at hcs
    obtain ⟨rfl, rfl, rfl⟩ := hcs
    exact ⟨[], ⟨none, 0, rfl, Nat.le_refl _, by simp [maxLen], fun _ => rfl, Lies.none⟩, fun x hx => by simp at hx, .inl rfl⟩
  · simp [Value.cells] at hcs
    obtain ⟨rfl, rfl, rfl⟩ := hcs
    have hlm : len0 ≤ m := by rw [hmm]; split <;> omega
    have hC : Try.prog.cellsOf 47 = 3 := by kernel_rfl
    have hpt : ∀ i, i < len0 → ∃ y : Wt, y.Fits ∧ ∀ c u, (encW y)[c]? = some u → W.cell? (a.add (i * 3 + c)) = some u := by
      intro i hil
      obtain ⟨cs', hc, ht⟩ := hi i (by omega)
      rw [hC] at hc
      obtain ⟨_, hlen, hat⟩ := World.cells?_some hc
      obtain ⟨y, rfl, hy⟩ := wants_of_cells hlen ht
      refine ⟨y, hy, fun c u hu => ?_⟩
      have hcn : c < 3 := by have := (List.getElem?_eq_some_iff.1 hu).1; rw [encW_length] at this; exact this
      have := hat c hcn
      rw [addr_add] at this
      rw [this, hu]
    let f : Nat → Wt := fun i => if h : i < len0 then Classical.choose (hpt i h) else default
    have hff : ∀ i, i < len0 → (f i).Fits ∧ ∀ c u, (encW (f i))[c]? = some u → W.cell? (a.add (i * 3 + c)) = some u := by
      intro i hil
      have := Classical.choose_spec (hpt i hil)
      simp only [f, dif_pos hil]
      exact this
    have hlen : ((List.range len0).map f).length = len0 := by simp
    have hget : ∀ k, k < len0 → ((List.range len0).map f)[k]? = some (f k) := fun k hk => by simp [hk]
    refine ⟨(List.range len0).map f, ⟨some a, cap0, by rw [hlen], by omega, hm, fun h => (by cases h), fun hne => ?_⟩, fun q hq => ?_, .inr ?_⟩
    · have h0 : 0 < len0 := by
        rcases Nat.eq_zero_or_pos len0 with h | h
        · subst h; simp [wcells] at hne
        · exact h
      refine ⟨a, rfl, by have := cell_lt ((hff 0 h0).2 0 _ rfl); rw [addr_block] at this; exact this, fun j u hu => ?_⟩
      have hj : j < len0 * 3 := by have := (List.getElem?_eq_some_iff.1 hu).1; rw [wcells_length, hlen] at this; exact this
      have hk : j / 3 < len0 := by omega
      have := wcells_get _ _ _ (hget (j / 3) hk) (j % 3) (by omega)
      rw [show j / 3 * 3 + j % 3 = j by omega] at this
      rw [this] at hu
      have := (hff (j / 3) hk).2 (j % 3) u hu
      rwa [show j / 3 * 3 + j % 3 = j by omega] at this
    · obtain ⟨k, hk, rfl⟩ := List.mem_map.1 hq
      exact (hff k (by simpa using hk)).1
    · simp only [Prod.mk.injEq] at hx
      exact ⟨_, _, hx.1, by simp⟩

/-- A list of uses that is handed. -/
theorem open_uses {H : Type} {enc : TypeId × Value → H} {W : World} {r : Reach} {b0 base : Nat} {sp : Nat → Bool} {held : Bool} {v : Value} {d : DataW H} {p : List MemPlace} (hval : Value.okWide Try.prog W r b0 28 v)
    (h : DataW.Trod enc Try.prog W base sp held 28 v d p) : ∃ l, USl W W.heap.size v l ∧ SizedU l ∧ (l = [] ∨ ∃ elems spare, d = .slice elems spare ∧ l.length = elems.length) := by
  obtain ⟨a0, len0, cap0, rfl⟩ := okWide_slice Try.underlying28 hval
  obtain ⟨fuel, hf⟩ := h
  rcases open_slice Try.underlying28 hf with ⟨hcs, _⟩ | ⟨a, len, cap, m, n, D, Pl, hcs, _, hl, hm, hmm, hx, hi⟩
  · simp [Value.cells] at hcs
    obtain ⟨rfl, rfl, rfl⟩ := hcs
    exact ⟨[], ⟨none, 0, rfl, Nat.le_refl _, by simp [maxLen], fun _ => rfl, Lies.none⟩, fun x hx => by simp at hx, .inl rfl⟩
  · simp [Value.cells] at hcs
    obtain ⟨rfl, rfl, rfl⟩ := hcs
    have hlm : len0 ≤ m := by rw [hmm]; split <;> omega
    have hC : Try.prog.cellsOf 44 = 3 := by kernel_rfl
    have hpt : ∀ i, i < len0 → ∃ y : Us, y.Fits ∧ ∀ c u, (encU y)[c]? = some u → W.cell? (a.add (i * 3 + c)) = some u := by
      intro i hil
      obtain ⟨cs', hc, ht⟩ := hi i (by omega)
      rw [hC] at hc
      obtain ⟨_, hlen, hat⟩ := World.cells?_some hc
      obtain ⟨y, rfl, hy⟩ := uses_of_cells hlen ht
      refine ⟨y, hy, fun c u hu => ?_⟩
      have hcn : c < 3 := by have := (List.getElem?_eq_some_iff.1 hu).1; rw [encU_length] at this; exact this
      have := hat c hcn
      rw [addr_add] at this
      rw [this, hu]
    let f : Nat → Us := fun i => if h : i < len0 then Classical.choose (hpt i h) else default
    have hff : ∀ i, i < len0 → (f i).Fits ∧ ∀ c u, (encU (f i))[c]? = some u → W.cell? (a.add (i * 3 + c)) = some u := by
      intro i hil
      have := Classical.choose_spec (hpt i hil)
      simp only [f, dif_pos hil]
      exact this
    have hlen : ((List.range len0).map f).length = len0 := by simp
    have hget : ∀ k, k < len0 → ((List.range len0).map f)[k]? = some (f k) := fun k hk => by simp [hk]
    refine ⟨(List.range len0).map f, ⟨some a, cap0, by rw [hlen], by omega, hm, fun h => (by cases h), fun hne => ?_⟩, fun q hq => ?_, .inr ?_⟩
    · have h0 : 0 < len0 := by
        rcases Nat.eq_zero_or_pos len0 with h | h
        · subst h; simp [ucells] at hne
        · exact h
      refine ⟨a, rfl, by have := cell_lt ((hff 0 h0).2 0 _ rfl); rw [addr_block] at this; exact this, fun j u hu => ?_⟩
      have hj : j < len0 * 3 := by have := (List.getElem?_eq_some_iff.1 hu).1; rw [ucells_length, hlen] at this; exact this
      have hk : j / 3 < len0 := by omega
      have := ucells_get _ _ _ (hget (j / 3) hk) (j % 3) (by omega)
      rw [show j / 3 * 3 + j % 3 = j by omega] at this
      rw [this] at hu
      have := (hff (j / 3) hk).2 (j % 3) u hu
      rwa [show j / 3 * 3 + j % 3 = j by omega] at this
    · obtain ⟨k, hk, rfl⟩ := List.mem_map.1 hq
      exact (hff k (by simpa using hk)).1
    · simp only [Prod.mk.injEq] at hx
      exact ⟨_, _, hx.1, by simp⟩

end Go.Proofs.Ytddnfikjfmfhfaa
end
