/- Texts of this proof, one behind the other. -/
import Derived.Test.YtddnfikjfmfhfaaRows
import Derived.Deep.Slices
import Derived.Deep.Fields
import Derived.ChangeSame
import Derived.SizedLaws
import Derived.OpenShut
import Derived.Test.YtddnfikjfmfhfaaF15
import Derived.Test.YtddnfikjfmfhfaaF09
section
/- The law FlowFills: whatever lots and wants; the walk. Written by gen_ffills.py. -/
namespace Go.Proofs.Ytddnfikjfmfhfaa
open Go.ChangeShapes Go.WideShapes Go.ChangeAt Go.RowKit Go.Maps
set_option linter.unusedVariables false
theorem lsl_lent {w : World} {B g : Nat} {us M : List Lt} (h : Lies w B (some ⟨g, 0, none⟩) (lcells (us ++ M))) (hl : us.length ≤ 1048576) : LSl w B (.slice (some ⟨g, 0, none⟩) us.length (us.length + 12)) us :=
  ⟨_, _, rfl, by omega, by unfold maxLen; omega, (fun h => by cases h), lies_left (by rw [← lcells_append]; exact h)⟩
theorem wsl_lent {w : World} {B g : Nat} {us M : List Wt} (h : Lies w B (some ⟨g, 0, none⟩) (wcells (us ++ M))) (hl : us.length ≤ 1048576) : WSl w B (.slice (some ⟨g, 0, none⟩) us.length (us.length + 12)) us :=
  ⟨_, _, rfl, by omega, by unfold maxLen; omega, (fun h => by cases h), lies_left (by rw [← wcells_append]; exact h)⟩
theorem rfill_no (v1 v2 : Value) (l : List Lt) (ws : List Wt) (w : World) (h1 : LSl w w.heap.size v1 l) (h2 : WSl w w.heap.size v2 ws) (hb : mayB l ws = false) :
    Calls Try.prog 14 #[v1, v2] w fun e w' => e = .returned (.tuple #[.slice none 0 0, .bool false]) ∧ Below w.heap.size w w' := by
  have HB := Lib.hid hb
  have HV1 := Lib.hid h1
  have HV2 := Lib.hid h2
  clear hb h1 h2
  go_enter Try.func14, Try.ntmps14
  go_wp2_with (go_at_call 33; ((with_reducible refine (may_any _ _ l ws _ HV1.out HV2.out).mono ?_); rintro e w1 ⟨rfl, hb1'⟩; rw [HB.out]; have hb1 := Lib.hid hb1'; clear hb1'))
  go_ret2
  exact ⟨rfl, hb1.out⟩
theorem rleft_no (v1 v2 : Value) (l : List Lt) (ws : List Wt) (w : World) (h1 : LSl w w.heap.size v1 l) (h2 : WSl w w.heap.size v2 ws) (hb : mayB l ws = false) :
    Calls Try.prog 16 #[v1, v2] w fun e w' => e = .returned (.tuple #[.slice none 0 0, .bool false]) ∧ Below w.heap.size w w' := by
  have HC := Lib.hid (rfill_no v1 v2 l ws w h1 h2 hb)
  clear hb h1 h2
  go_enter Try.func16, Try.ntmps16
  go_wp2_with fail
  refine HC.out.mono ?_
  rintro e w1 ⟨rfl, hb1'⟩
  have hb1 := Lib.hid hb1'
  clear hb1'
  go_wp2
  go_ret2
  exact ⟨rfl, hb1.out⟩
section
variable {l S : List Lt} {ws : List Wt} {P : List Nat} (hs : Sized l) (hb : mayB l ws = true) (hS : Stab l S) (hP : Days ws P) (h40 : l.length ≤ 40) (h60 : ws.length ≤ 60) (v1 v2 : Value) (w : World) (h1 : LSl w w.heap.size v1 l) (h2 : WSl w w.heap.size v2 ws)
include hs hb hS hP h40 h60 h1 h2
theorem rfill_false (hr : (serveRun S ws P (qtyOf l)).2.1 = false) : Calls Try.prog 14 #[v1, v2] w fun e w' => e = .returned (.tuple #[.slice none 0 0, .bool false]) ∧ Below w.heap.size w w' := by
  refine (rfill_may v1 v2 l S ws P w h1 h2 hs hb hS hP h40 h60).mono ?_
  rintro e w' ⟨hbl, ⟨_, rfl⟩ | ⟨hr', _⟩⟩
  · exact ⟨rfl, hbl⟩
  · rw [hr] at hr'; cases hr'
theorem rfill_true {U : List Us} (hr : (serveRun S ws P (qtyOf l)).2.1 = true) (hU : (serveRun S ws P (qtyOf l)).1 = U.map useT) : Calls Try.prog 14 #[v1, v2] w fun e w' => Below w.heap.size w w' ∧ ∃ uv, e = .returned (.tuple #[uv, .bool true]) ∧ w'.ownsRow w.heap.size 44 3 uv U.length (ucells U) := by
  refine (rfill_may v1 v2 l S ws P w h1 h2 hs hb hS hP h40 h60).mono ?_
  rintro e w' ⟨hbl, ⟨hr', rfl⟩ | ⟨_, uv, U', rfl, hU', ho⟩⟩
  · rw [hr] at hr'; cases hr'
  · obtain rfl := useT_inj (hU.symm.trans hU')
    exact ⟨hbl, uv, rfl, ho⟩
theorem rleft_false (hr : (serveRun S ws P (qtyOf l)).2.1 = false) : Calls Try.prog 16 #[v1, v2] w fun e w' => e = .returned (.tuple #[.slice none 0 0, .bool false]) ∧ Below w.heap.size w w' := by
  refine (rleft_may v1 v2 l S ws P w h1 h2 hs hb hS hP h40 h60).mono ?_
  rintro e w' ⟨hbl, ⟨_, rfl⟩ | ⟨hr', _⟩⟩
  · exact ⟨rfl, hbl⟩
  · rw [hr] at hr'; cases hr'
theorem rleft_true {q : Int → Int} (hr : (serveRun S ws P (qtyOf l)).2.1 = true) (hq : (serveRun S ws P (qtyOf l)).2.2 = q) : Calls Try.prog 16 #[v1, v2] w fun e w' => Below w.heap.size w w' ∧ ∃ v, e = .returned (.tuple #[v, .bool true]) ∧ w'.ownsRow w.heap.size 42 6 v (leftL l q).length (lcells (leftL l q)) := by
  refine (rleft_may v1 v2 l S ws P w h1 h2 hs hb hS hP h40 h60).mono ?_
  rintro e w' ⟨hbl, ⟨hr', rfl⟩ | ⟨_, v, rfl, ho⟩⟩
  · rw [hr] at hr'; cases hr'
  · rw [hq] at ho; exact ⟨hbl, v, rfl, ho⟩
end
set_option maxRecDepth 100000 in
set_option maxHeartbeats 8000000 in
theorem fills_any (v1 v2 : Value) (l : List Lt) (ws : List Wt) (w : World) (hv1 : LSl w w.heap.size v1 l) (hv2 : WSl w w.heap.size v2 ws) (hs : Sized l) :
    Calls Try.prog 3 #[v1, v2] w fun e w' => e = .returned (.bool true) ∧ Below w.heap.size w w' := by
  obtain ⟨A1, c1, rfl, hc11, hc12, hcz1, _⟩ := id hv1
  obtain ⟨A2, c2, rfl, hc21, hc22, hcz2, _⟩ := id hv2
  have HV := Lib.hid hv1
  have HW := Lib.hid hv2
  have HS : Hid (Sized l) := Lib.hid hs
  clear hv1 hv2 hs
  go_enter Try.func3, Try.ntmps3
  go_wp2_with fail
  refine (awake_any w).mono ?_
  rintro e w1 ⟨rfl, hb1'⟩
  have HV1 := Lib.hid (HV.out.at_ hb1')
  have HW1 := Lib.hid (HW.out.at_ hb1')
  have HB1 := Lib.hid hb1'
  clear hb1' HV HW
  by_cases hS4 : l.length ≤ 40 ∧ ws.length ≤ 60
  · have hsd : decide (l.length ≤ 40 ∧ ws.length ≤ 60) = true := decide_eq_true hS4
    obtain ⟨h40, h60⟩ := hS4
    go_wp2_with (first
      | (go_at_call 10; ((with_reducible refine (small_any _ _ _ _ _ _ _).mono ?_); rintro e w2 ⟨rfl, rfl⟩; rw [hsd]))
      | (go_at_call 11; fail))
    clear hsd
    refine (lentl_any _ l w1.heap.size w1 HV1.out (Nat.le_refl _) (by omega)).mono ?_
    rintro e w2 ⟨rfl, hb2', ho2'⟩
    obtain ⟨ga, hga⟩ : ∃ g, w1.heap.size = g := ⟨_, rfl⟩
    have HA2 : Hid (Lies w2 w2.heap.size (some ⟨ga, 0, none⟩) (lcells (l ++ marksL 1 12))) := Lib.hid (by rw [← hga]; exact Lies.own ho2')
    have HV2 := Lib.hid (HV1.out.at_ hb2')
    have HW2 := Lib.hid (HW1.out.at_ hb2')
    have HB2 := Lib.hid (below_two HB1.out hb2')
    rw [hga]
    clear hb2' ho2' HV1 HW1 HB1 hga
    go_wp2_with fail
    refine (lentw_any _ ws w2.heap.size w2 HW2.out (Nat.le_refl _) (by omega)).mono ?_
    rintro e w3 ⟨rfl, hb3', ho3'⟩
    obtain ⟨gb, hgb⟩ : ∃ g, w2.heap.size = g := ⟨_, rfl⟩
    have HA3 := Lib.hid ((HA2.out.below hb3').mono hb3'.size)
    have HC3 : Hid (Lies w3 w3.heap.size (some ⟨gb, 0, none⟩) (wcells (ws ++ marksW 1 12))) := Lib.hid (by rw [← hgb]; exact Lies.own ho3')
    have HV3 := Lib.hid (HV2.out.at_ hb3')
    have HW3 := Lib.hid (HW2.out.at_ hb3')
    have HB3 := Lib.hid (below_two HB2.out hb3')
    rw [hgb]
    clear hb3' ho3' HV2 HW2 HB2 HA2 hgb
    go_wp2_with fail
    by_cases hb : mayB l ws = true
    · refine (fill_may _ _ l ws w3 (by omega) (by omega) HS.out (lsl_lent HA3.out (by omega)) (wsl_lent HC3.out (by omega)) hb).mono ?_
      rintro e w4 ⟨S, P, hS', hP', hb4', h⟩
      have HA4 := Lib.hid ((HA3.out.below hb4').mono hb4'.size)
      have HC4 := Lib.hid ((HC3.out.below hb4').mono hb4'.size)
      have HV4 := Lib.hid (HV3.out.at_ hb4')
      have HW4 := Lib.hid (HW3.out.at_ hb4')
      have HB4 := Lib.hid (below_two HB3.out hb4')
      have HMB := Lib.hid hb
      have HST := Lib.hid hS'
      have HPD := Lib.hid hP'
      clear hb4' HV3 HW3 HB3 HA3 HC3
      rcases h with ⟨hr', rfl⟩ | ⟨hr', uv, U, rfl, hU', ho'⟩
      · have HR := Lib.hid hr'
        have HNF : Hid (¬ fitsP l ws) := Lib.hid (fun h => by rw [(serve_iff hS' hP' hb).2 h.2] at hr'; cases hr')
        clear hr' hb hS' hP'
        go_wp2_with (first
          | (go_at_call 14; ((with_reducible refine (rfill_false HS.out HMB.out HST.out HPD.out h40 h60 _ _ _ HV4.out HW4.out HR.out).mono ?_); rintro e w5 ⟨rfl, hb5'⟩; have HA5 := Lib.hid ((HA4.out.below hb5').mono hb5'.size); have HC5 := Lib.hid ((HC4.out.below hb5').mono hb5'.size); have HV5 := Lib.hid (HV4.out.at_ hb5'); have HW5 := Lib.hid (HW4.out.at_ hb5'); have HB5 := Lib.hid (below_two HB4.out hb5'); clear hb5' HA4 HC4 HV4 HW4 HB4))
          | (go_at_call 15; ((with_reducible refine (left_not (l := l) (ws := ws) (by omega) (by omega) HS.out _ _ _ (lsl_lent HA5.out (by omega)) (wsl_lent HC5.out (by omega)) HNF.out).mono ?_); rintro e w6 ⟨rfl, hb6'⟩; have HA6 := Lib.hid ((HA5.out.below hb6').mono hb6'.size); have HC6 := Lib.hid ((HC5.out.below hb6').mono hb6'.size); have HV6 := Lib.hid (HV5.out.at_ hb6'); have HW6 := Lib.hid (HW5.out.at_ hb6'); have HB6 := Lib.hid (below_two HB5.out hb6'); clear hb6' HA5 HC5 HV5 HW5 HB5))
          | (go_at_call 16; ((with_reducible refine (rleft_false HS.out HMB.out HST.out HPD.out h40 h60 _ _ _ HV6.out HW6.out HR.out).mono ?_); rintro e w7 ⟨rfl, hb7'⟩; have HA7 := Lib.hid ((HA6.out.below hb7').mono hb7'.size); have HC7 := Lib.hid ((HC6.out.below hb7').mono hb7'.size); have HV7 := Lib.hid (HV6.out.at_ hb7'); have HW7 := Lib.hid (HW6.out.at_ hb7'); have HB7 := Lib.hid (below_two HB6.out hb7'); clear hb7' HA6 HC6 HV6 HW6 HB6))
          | (go_at_call 17; ((with_reducible refine (sameu_yes [] _ _ w7 USl.nil USl.nil (by simp)).mono ?_); rintro e w8 ⟨rfl, hb8'⟩; have HA8 := Lib.hid ((HA7.out.below hb8').mono hb8'.size); have HC8 := Lib.hid ((HC7.out.below hb8').mono hb8'.size); have HV8 := Lib.hid (HV7.out.at_ hb8'); have HW8 := Lib.hid (HW7.out.at_ hb8'); have HB8 := Lib.hid (below_two HB7.out hb8'); clear hb8' HA7 HC7 HV7 HW7 HB7))
          | (go_at_call 18; ((with_reducible refine (fits_not HNF.out HS.out (by omega) (by omega) _ _ _ (lsl_lent HA8.out (by omega)) (wsl_lent HC8.out (by omega))).mono ?_); rintro e w9 ⟨rfl, hb9'⟩; have HA9 := Lib.hid ((HA8.out.below hb9').mono hb9'.size); have HC9 := Lib.hid ((HC8.out.below hb9').mono hb9'.size); have HV9 := Lib.hid (HV8.out.at_ hb9'); have HW9 := Lib.hid (HW8.out.at_ hb9'); have HB9 := Lib.hid (below_two HB8.out hb9'); clear hb9' HA8 HC8 HV8 HW8 HB8))
          | (go_at_call 19; ((with_reducible refine (same_yes [] _ _ w9 LSl.nil LSl.nil (by simp)).mono ?_); rintro e wa ⟨rfl, hba'⟩; have HAa := Lib.hid ((HA9.out.below hba').mono hba'.size); have HCa := Lib.hid ((HC9.out.below hba').mono hba'.size); have HVa := Lib.hid (HV9.out.at_ hba'); have HWa := Lib.hid (HW9.out.at_ hba'); have HBa := Lib.hid (below_two HB9.out hba'); clear hba' HA9 HC9 HV9 HW9 HB9))
          | (go_at_call 20; ((with_reducible refine (keptl_any _ l _ ga _ HVa.out HAa.out (Nat.le_refl _) (by omega)).mono ?_); rintro e wb ⟨rfl, hbb'⟩; have HCb := Lib.hid ((HCa.out.below hbb').mono hbb'.size); have HWb := Lib.hid (HWa.out.at_ hbb'); have HBb := Lib.hid (below_two HBa.out hbb'); clear hbb' HAa HCa HVa HWa HBa))
          | (go_at_call 21; ((with_reducible refine (keptw_any _ ws _ gb _ HWb.out HCb.out (Nat.le_refl _) (by omega)).mono ?_); rintro e wc ⟨rfl, hbc'⟩; have HBc := Lib.hid (below_two HBb.out hbc'); clear hbc')))
        go_ret
        exact ⟨rfl, HBc.out⟩
      · have HR := Lib.hid hr'
        obtain ⟨q, hq⟩ : ∃ q, (serveRun S ws P (qtyOf l)).2.2 = q := ⟨_, rfl⟩
        have HQE := Lib.hid hq
        have HUE := Lib.hid hU'
        have HSV : Hid (Sv l ws U q) := Lib.hid ⟨hb, S, P, hS', hP', hr', hU', hq⟩
        have HF := Lib.hid HSV.out.fits
        have hUl : U.length ≤ 2400 := Nat.le_trans HSV.out.len (Nat.le_trans (Nat.mul_le_mul h60 h40) (by omega))
        have HU4 : Hid (USl w4 w4.heap.size uv U) := Lib.hid (USl.own ho')
        obtain ⟨Aa, ca, rfl, _, _, _⟩ := own_form ho'
        clear hr' hb hS' hP' hq hU' ho'
        go_wp2_with fail
        refine (rfill_true HS.out HMB.out HST.out HPD.out h40 h60 _ _ _ HV4.out HW4.out HR.out HUE.out).mono ?_
        rintro e w5 ⟨hb', uv2, rfl, ho2⟩
        have HA5 := Lib.hid ((HA4.out.below hb').mono hb'.size)
        have HC5 := Lib.hid ((HC4.out.below hb').mono hb'.size)
        have HV5 := Lib.hid (HV4.out.at_ hb')
        have HW5 := Lib.hid (HW4.out.at_ hb')
        have HB5 := Lib.hid (below_two HB4.out hb')
        have HU5 := Lib.hid (HU4.out.at_ hb')
        have HT5 : Hid (USl w5 w5.heap.size uv2 U) := Lib.hid (USl.own ho2)
        obtain ⟨Ab, cb, rfl, _, _, _⟩ := own_form ho2
        clear hb' ho2 HA4 HC4 HV4 HW4 HB4 HU4
        go_wp2_with fail
        refine (left_yes (l := l) (ws := ws) (by omega) (by omega) HS.out _ _ _ (lsl_lent HA5.out (by omega)) (wsl_lent HC5.out (by omega)) HSV.out).mono ?_
        rintro e w6 ⟨hb', lv, rfl, ho2⟩
        have HA6 := Lib.hid ((HA5.out.below hb').mono hb'.size)
        have HC6 := Lib.hid ((HC5.out.below hb').mono hb'.size)
        have HV6 := Lib.hid (HV5.out.at_ hb')
        have HW6 := Lib.hid (HW5.out.at_ hb')
        have HB6 := Lib.hid (below_two HB5.out hb')
        have HU6 := Lib.hid (HU5.out.at_ hb')
        have HT6 := Lib.hid (HT5.out.at_ hb')
        have HL6 : Hid (LSl w6 w6.heap.size lv (leftL l q)) := Lib.hid (LSl.own ho2)
        obtain ⟨Ac, cc, rfl, _, _, _⟩ := own_form ho2
        clear hb' ho2 HA5 HC5 HV5 HW5 HB5 HU5 HT5
        go_wp2_with fail
        refine (rleft_true HS.out HMB.out HST.out HPD.out h40 h60 _ _ _ HV6.out HW6.out HR.out HQE.out).mono ?_
        rintro e w7 ⟨hb', lv2, rfl, ho2⟩
        have HA7 := Lib.hid ((HA6.out.below hb').mono hb'.size)
        have HC7 := Lib.hid ((HC6.out.below hb').mono hb'.size)
        have HV7 := Lib.hid (HV6.out.at_ hb')
        have HW7 := Lib.hid (HW6.out.at_ hb')
        have HB7 := Lib.hid (below_two HB6.out hb')
        have HU7 := Lib.hid (HU6.out.at_ hb')
        have HT7 := Lib.hid (HT6.out.at_ hb')
        have HL7 := Lib.hid (HL6.out.at_ hb')
        have HM7 : Hid (LSl w7 w7.heap.size lv2 (leftL l q)) := Lib.hid (LSl.own ho2)
        obtain ⟨Ad, cd, rfl, _, _, _⟩ := own_form ho2
        clear hb' ho2 HA6 HC6 HV6 HW6 HB6 HU6 HT6 HL6
        have hll : (leftL l q).length ≤ 1099511627776 := by have := leftL_le l q l.length; rw [List.take_of_length_le (Nat.le_refl _)] at this; omega
        go_wp2_with (first
          | (go_at_call 17; ((with_reducible refine (sameu_yes U _ _ w7 HU7.out HT7.out (by omega)).mono ?_); rintro e w8 ⟨rfl, hb'⟩; have HA8 := Lib.hid ((HA7.out.below hb').mono hb'.size); have HC8 := Lib.hid ((HC7.out.below hb').mono hb'.size); have HV8 := Lib.hid (HV7.out.at_ hb'); have HW8 := Lib.hid (HW7.out.at_ hb'); have HB8 := Lib.hid (below_two HB7.out hb'); have HL8 := Lib.hid (HL7.out.at_ hb'); have HM8 := Lib.hid (HM7.out.at_ hb'); clear hb' HU7 HT7 HA7 HC7 HV7 HW7 HB7 HL7 HM7))
          | (go_at_call 18; ((with_reducible refine (fits_yes HF.out HS.out (by omega) (by omega) _ _ _ (lsl_lent HA8.out (by omega)) (wsl_lent HC8.out (by omega))).mono ?_); rintro e w9 ⟨rfl, hb'⟩; have HA9 := Lib.hid ((HA8.out.below hb').mono hb'.size); have HC9 := Lib.hid ((HC8.out.below hb').mono hb'.size); have HV9 := Lib.hid (HV8.out.at_ hb'); have HW9 := Lib.hid (HW8.out.at_ hb'); have HB9 := Lib.hid (below_two HB8.out hb'); have HL9 := Lib.hid (HL8.out.at_ hb'); have HM9 := Lib.hid (HM8.out.at_ hb'); clear hb' HA8 HC8 HV8 HW8 HB8 HL8 HM8))
          | (go_at_call 19; ((with_reducible refine (same_yes (leftL l q) _ _ w9 HL9.out HM9.out hll).mono ?_); rintro e wa ⟨rfl, hb'⟩; have HAa := Lib.hid ((HA9.out.below hb').mono hb'.size); have HCa := Lib.hid ((HC9.out.below hb').mono hb'.size); have HVa := Lib.hid (HV9.out.at_ hb'); have HWa := Lib.hid (HW9.out.at_ hb'); have HBa := Lib.hid (below_two HB9.out hb'); clear hb' HL9 HM9 HA9 HC9 HV9 HW9 HB9))
          | (go_at_call 20; ((with_reducible refine (keptl_any _ l _ ga _ HVa.out HAa.out (Nat.le_refl _) (by omega)).mono ?_); rintro e wb ⟨rfl, hbb'⟩; have HCb := Lib.hid ((HCa.out.below hbb').mono hbb'.size); have HWb := Lib.hid (HWa.out.at_ hbb'); have HBb := Lib.hid (below_two HBa.out hbb'); clear hbb' HAa HCa HVa HWa HBa))
          | (go_at_call 21; ((with_reducible refine (keptw_any _ ws _ gb _ HWb.out HCb.out (Nat.le_refl _) (by omega)).mono ?_); rintro e wc ⟨rfl, hbc'⟩; have HBc := Lib.hid (below_two HBb.out hbc'); clear hbc')))
        go_ret
        exact ⟨rfl, HBc.out⟩
    · have hb : mayB l ws = false := by simpa using hb
      refine (fill_no _ _ l ws w3 (by omega) (by omega) HS.out (lsl_lent HA3.out (by omega)) (wsl_lent HC3.out (by omega)) hb).mono ?_
      rintro e w4 ⟨rfl, hb4'⟩
      have HA4 := Lib.hid ((HA3.out.below hb4').mono hb4'.size)
      have HC4 := Lib.hid ((HC3.out.below hb4').mono hb4'.size)
      have HV4 := Lib.hid (HV3.out.at_ hb4')
      have HW4 := Lib.hid (HW3.out.at_ hb4')
      have HB4 := Lib.hid (below_two HB3.out hb4')
      have HMB := Lib.hid hb
      clear hb4' HV3 HW3 HB3 HA3 HC3 hb
      go_wp2_with (first
        | (go_at_call 14; ((with_reducible refine (rfill_no _ _ l ws _ HV4.out HW4.out HMB.out).mono ?_); rintro e w5 ⟨rfl, hb5'⟩; have HA5 := Lib.hid ((HA4.out.below hb5').mono hb5'.size); have HC5 := Lib.hid ((HC4.out.below hb5').mono hb5'.size); have HV5 := Lib.hid (HV4.out.at_ hb5'); have HW5 := Lib.hid (HW4.out.at_ hb5'); have HB5 := Lib.hid (below_two HB4.out hb5'); clear hb5' HA4 HC4 HV4 HW4 HB4))
        | (go_at_call 15; ((with_reducible refine (left_no _ _ l ws _ (by omega) (by omega) HS.out (lsl_lent HA5.out (by omega)) (wsl_lent HC5.out (by omega)) HMB.out).mono ?_); rintro e w6 ⟨rfl, hb6'⟩; have HA6 := Lib.hid ((HA5.out.below hb6').mono hb6'.size); have HC6 := Lib.hid ((HC5.out.below hb6').mono hb6'.size); have HV6 := Lib.hid (HV5.out.at_ hb6'); have HW6 := Lib.hid (HW5.out.at_ hb6'); have HB6 := Lib.hid (below_two HB5.out hb6'); clear hb6' HA5 HC5 HV5 HW5 HB5))
        | (go_at_call 16; ((with_reducible refine (rleft_no _ _ l ws _ HV6.out HW6.out HMB.out).mono ?_); rintro e w7 ⟨rfl, hb7'⟩; have HA7 := Lib.hid ((HA6.out.below hb7').mono hb7'.size); have HC7 := Lib.hid ((HC6.out.below hb7').mono hb7'.size); have HV7 := Lib.hid (HV6.out.at_ hb7'); have HW7 := Lib.hid (HW6.out.at_ hb7'); have HB7 := Lib.hid (below_two HB6.out hb7'); clear hb7' HA6 HC6 HV6 HW6 HB6))
        | (go_at_call 17; ((with_reducible refine (sameu_yes [] _ _ w7 USl.nil USl.nil (by simp)).mono ?_); rintro e w8 ⟨rfl, hb8'⟩; have HA8 := Lib.hid ((HA7.out.below hb8').mono hb8'.size); have HC8 := Lib.hid ((HC7.out.below hb8').mono hb8'.size); have HV8 := Lib.hid (HV7.out.at_ hb8'); have HW8 := Lib.hid (HW7.out.at_ hb8'); have HB8 := Lib.hid (below_two HB7.out hb8'); clear hb8' HA7 HC7 HV7 HW7 HB7))
        | (go_at_call 18; ((with_reducible refine (fits_no _ _ l ws _ (by omega) (by omega) HS.out (lsl_lent HA8.out (by omega)) (wsl_lent HC8.out (by omega)) HMB.out).mono ?_); rintro e w9 ⟨rfl, hb9'⟩; have HA9 := Lib.hid ((HA8.out.below hb9').mono hb9'.size); have HC9 := Lib.hid ((HC8.out.below hb9').mono hb9'.size); have HV9 := Lib.hid (HV8.out.at_ hb9'); have HW9 := Lib.hid (HW8.out.at_ hb9'); have HB9 := Lib.hid (below_two HB8.out hb9'); clear hb9' HA8 HC8 HV8 HW8 HB8))
        | (go_at_call 19; ((with_reducible refine (same_yes [] _ _ w9 LSl.nil LSl.nil (by simp)).mono ?_); rintro e wa ⟨rfl, hba'⟩; have HAa := Lib.hid ((HA9.out.below hba').mono hba'.size); have HCa := Lib.hid ((HC9.out.below hba').mono hba'.size); have HVa := Lib.hid (HV9.out.at_ hba'); have HWa := Lib.hid (HW9.out.at_ hba'); have HBa := Lib.hid (below_two HB9.out hba'); clear hba' HA9 HC9 HV9 HW9 HB9))
        | (go_at_call 20; ((with_reducible refine (keptl_any _ l _ ga _ HVa.out HAa.out (Nat.le_refl _) (by omega)).mono ?_); rintro e wb ⟨rfl, hbb'⟩; have HCb := Lib.hid ((HCa.out.below hbb').mono hbb'.size); have HWb := Lib.hid (HWa.out.at_ hbb'); have HBb := Lib.hid (below_two HBa.out hbb'); clear hbb' HAa HCa HVa HWa HBa))
        | (go_at_call 21; ((with_reducible refine (keptw_any _ ws _ gb _ HWb.out HCb.out (Nat.le_refl _) (by omega)).mono ?_); rintro e wc ⟨rfl, hbc'⟩; have HBc := Lib.hid (below_two HBb.out hbc'); clear hbc')))
      go_ret
      exact ⟨rfl, HBc.out⟩
  · have hsd : decide (l.length ≤ 40 ∧ ws.length ≤ 60) = false := decide_eq_false hS4
    clear hS4
    go_wp2_with (go_at_call 10; ((with_reducible refine (small_any _ _ _ _ _ _ _).mono ?_); rintro e w2 ⟨rfl, rfl⟩; rw [hsd]))
    go_ret
    exact ⟨rfl, HB1.out⟩
end Go.Proofs.Ytddnfikjfmfhfaa
end
section
/- Arguments: a lot by value, a list of lots, as cells. -/
namespace Go.Proofs.Ytddnfikjfmfhfaa
open Go.ChangeShapes Go.WideShapes Go.ChangeAt Go.RowKit Go.Deep
set_option linter.unusedVariables false
set_option linter.constructorNameAsVariable false
set_option maxRecDepth 100000

theorem win_of_cells {H : Type} {enc : TypeId × Value → H} {W : World} {base fuel : Nat} {sp : Nat → Bool} {held : Bool} {cs : List Value} {x : DataW H × List MemPlace} (hl : cs.length = 2)
    (h : DataW.trod enc Try.prog W base sp held fuel 40 cs = some x) : ∃ f u : Int, cs = [.int .i64 f, .int .i64 u] ∧ -9223372036854775808 ≤ f ∧ f ≤ 9223372036854775807 ∧ -9223372036854775808 ≤ u ∧ u ≤ 9223372036854775807 := by
  obtain ⟨ys, n, _, _, _, hyl, hf⟩ := DataW.trod_struct Try.underlying40 h
  match cs, hl with
  | [c0, c1], _ =>
    have hC3 : Try.prog.cellsOf 3 = 1 := by kernel_rfl
    obtain ⟨y0, hy0⟩ : ∃ y, ys[0]? = some y := ⟨_, List.getElem?_eq_getElem (by rw [hyl]; decide)⟩
    obtain ⟨y1, hy1⟩ : ∃ y, ys[1]? = some y := ⟨_, List.getElem?_eq_getElem (by rw [hyl]; decide)⟩
    have g0 : DataW.trod enc Try.prog W base sp held n 3 [c0] = some y0 := by have h := (hf 0 _ rfl).trans hy0; simpa [hC3] using h
    have g1 : DataW.trod enc Try.prog W base sp held n 3 [c1] = some y1 := by have h := (hf 1 _ rfl).trans hy1; simpa [hC3] using h
    obtain ⟨f, e0, _, w0⟩ := DataW.trod_int Try.underlying3 g0
    obtain ⟨u, e1, _, w1⟩ := DataW.trod_int Try.underlying3 g1
    obtain rfl : c0 = _ := by simpa using e0
    obtain rfl : c1 = _ := by simpa using e1
    exact ⟨f, u, rfl, (bounds_i64 w0).1, (bounds_i64 w0).2, (bounds_i64 w1).1, (bounds_i64 w1).2⟩
theorem lot_of_cells {H : Type} {enc : TypeId × Value → H} {W : World} {base fuel : Nat} {sp : Nat → Bool} {held : Bool} {cs : List Value} {x : DataW H × List MemPlace} (hl : cs.length = 6)
    (h : DataW.trod enc Try.prog W base sp held fuel 42 cs = some x) : ∃ y : Lt, cs = encL y ∧ y.Fits := by
  obtain ⟨ys, n, _, _, _, hyl, hf⟩ := DataW.trod_struct Try.underlying42 h
  match cs, hl with
  | [c0, c1, c2, c3, c4, c5], _ =>
    have hC3 : Try.prog.cellsOf 3 = 1 := by kernel_rfl
    have hC2 : Try.prog.cellsOf 2 = 1 := by kernel_rfl
    have hC9 : Try.prog.cellsOf 9 = 1 := by kernel_rfl
    have hC4 : Try.prog.cellsOf 4 = 1 := by kernel_rfl
    have hCW : Try.prog.cellsOf 40 = 2 := by kernel_rfl
    obtain ⟨y0, hy0⟩ : ∃ y, ys[0]? = some y := ⟨_, List.getElem?_eq_getElem (by rw [hyl]; decide)⟩
    obtain ⟨y1, hy1⟩ : ∃ y, ys[1]? = some y := ⟨_, List.getElem?_eq_getElem (by rw [hyl]; decide)⟩
    obtain ⟨y2, hy2⟩ : ∃ y, ys[2]? = some y := ⟨_, List.getElem?_eq_getElem (by rw [hyl]; decide)⟩
    obtain ⟨y3, hy3⟩ : ∃ y, ys[3]? = some y := ⟨_, List.getElem?_eq_getElem (by rw [hyl]; decide)⟩
    obtain ⟨y4, hy4⟩ : ∃ y, ys[4]? = some y := ⟨_, List.getElem?_eq_getElem (by rw [hyl]; decide)⟩
    have g0 : DataW.trod enc Try.prog W base sp held n 3 [c0] = some y0 := by have h := (hf 0 _ rfl).trans hy0; simpa [hC3] using h
    have g1 : DataW.trod enc Try.prog W base sp held n 9 [c1] = some y1 := by have h := (hf 1 _ rfl).trans hy1; simpa [hC9] using h
    have g2 : DataW.trod enc Try.prog W base sp held n 40 [c2, c3] = some y2 := by have h := (hf 2 _ rfl).trans hy2; simpa [hCW] using h
    have g3 : DataW.trod enc Try.prog W base sp held n 2 [c4] = some y3 := by have h := (hf 3 _ rfl).trans hy3; simpa [hC2] using h
    have g4 : DataW.trod enc Try.prog W base sp held n 4 [c5] = some y4 := by have h := (hf 4 _ rfl).trans hy4; simpa [hC4] using h
    obtain ⟨i, e0, _, w0⟩ := DataW.trod_int Try.underlying3 g0
    obtain ⟨s, e1, _, w1⟩ := DataW.trod_string Try.underlying9 g1
    obtain ⟨f, u, e2, b1, b2, b3, b4⟩ := win_of_cells rfl g2
    obtain ⟨q, e3, _, w3⟩ := DataW.trod_int Try.underlying2 g3
    obtain ⟨b, e4, _⟩ := DataW.trod_bool Try.underlying4 g4
    simp only [List.cons.injEq, and_true] at e0 e1 e2 e3 e4
    obtain ⟨e2, e2'⟩ := e2
    subst e0 e1 e2 e2' e3 e4
    exact ⟨⟨i, s.data.toList, f, u, q, b⟩, rfl, (bounds_i64 w0).1, (bounds_i64 w0).2, by show s.data.toList.length ≤ maxLen; rw [Array.length_toList]; exact w1, b1, b2, b3, b4, (bounds_i64 w3).1, (bounds_i64 w3).2⟩
/-- A lot that is handed by value. -/
theorem open_lot {H : Type} {enc : TypeId × Value → H} {W : World} {r : Reach} {b0 base : Nat} {sp : Nat → Bool} {held : Bool} {v : Value} {d : DataW H} {p : List MemPlace} (hval : Value.okWide Try.prog W r b0 42 v)
    (h : DataW.Trod enc Try.prog W base sp held 42 v d p) : ∃ y : Lt, v = aggL y ∧ y.Fits := by
  obtain ⟨cs, rfl, hsz⟩ := okWide_struct Try.underlying42 hval
  obtain ⟨l⟩ := cs
  have hC : Try.prog.cellsOf 42 = 6 := by kernel_rfl
  have hl : l.length = 6 := by have := hsz.trans hC; simpa using this
  obtain ⟨fuel, hf⟩ := h
  have hf' : DataW.trod enc Try.prog W base sp held fuel 42 l = some (d, p) := by simpa [Value.cells] using hf
  obtain ⟨y, rfl, hy⟩ := lot_of_cells hl hf'
  exact ⟨y, rfl, hy⟩

theorem cell_lt {w : World} {p : Addr} {u : Value} (h : w.cell? p = some u) : p.block < w.heap.size := World.block_lt_of_cell? w p h
/-- A list of lots that is handed. -/
theorem open_lots {H : Type} {enc : TypeId × Value → H} {W : World} {r : Reach} {b0 base : Nat} {sp : Nat → Bool} {held : Bool} {v : Value} {d : DataW H} {p : List MemPlace} (hval : Value.okWide Try.prog W r b0 22 v)
    (h : DataW.Trod enc Try.prog W base sp held 22 v d p) : ∃ l, LSl W W.heap.size v l ∧ Sized l ∧ (l = [] ∨ ∃ elems spare, d = .slice elems spare ∧ l.length = elems.length) := by
  obtain ⟨a0, len0, cap0, rfl⟩ := okWide_slice Try.underlying22 hval
  obtain ⟨fuel, hf⟩ := h
  rcases open_slice Try.underlying22 hf with ⟨hcs, _⟩ | ⟨a, len, cap, m, n, D, Pl, hcs, _, hl, hm, hmm, hx, hi⟩
  · simp [Value.cells] at hcs
    obtain ⟨rfl, rfl, rfl⟩ := hcs
    exact ⟨[], ⟨none, 0, rfl, Nat.le_refl _, by simp [maxLen], fun _ => rfl, Lies.none⟩, fun x hx => by simp at hx, .inl rfl⟩
  · simp [Value.cells] at hcs
    obtain ⟨rfl, rfl, rfl⟩ := hcs
    have hlm : len0 ≤ m := by rw [hmm]; split <;> omega
    have hC : Try.prog.cellsOf 42 = 6 := by kernel_rfl
    have hpt : ∀ i, i < len0 → ∃ y : Lt, y.Fits ∧ ∀ c u, (encL y)[c]? = some u → W.cell? (a.add (i * 6 + c)) = some u := by
      intro i hil
      obtain ⟨cs', hc, ht⟩ := hi i (by omega)
      rw [hC] at hc
      obtain ⟨_, hlen, hat⟩ := World.cells?_some hc
      obtain ⟨y, rfl, hy⟩ := lot_of_cells hlen ht
      refine ⟨y, hy, fun c u hu => ?_⟩
      have hc6 : c < 6 := by have := (List.getElem?_eq_some_iff.1 hu).1; rw [encL_length] at this; exact this
      have := hat c hc6
      rw [addr_add] at this
      rw [this, hu]
    let f : Nat → Lt := fun i => if h : i < len0 then Classical.choose (hpt i h) else default
    have hff : ∀ i, i < len0 → (f i).Fits ∧ ∀ c u, (encL (f i))[c]? = some u → W.cell? (a.add (i * 6 + c)) = some u := by
      intro i hil
      have := Classical.choose_spec (hpt i hil)
      simp only [f, dif_pos hil]
      exact this
    have hlen : ((List.range len0).map f).length = len0 := by simp
    have hget : ∀ k, k < len0 → ((List.range len0).map f)[k]? = some (f k) := fun k hk => by simp [hk]
    refine ⟨(List.range len0).map f, ⟨some a, cap0, by rw [hlen], by omega, hm, fun h => (by cases h), fun hne => ?_⟩, fun q hq => ?_, .inr ?_⟩
    · have h0 : 0 < len0 := by
        rcases Nat.eq_zero_or_pos len0 with h | h
        · subst h; simp [lcells] at hne
        · exact h
      refine ⟨a, rfl, by have := cell_lt ((hff 0 h0).2 0 _ rfl); rw [addr_block] at this; exact this, fun j u hu => ?_⟩
      have hj : j < len0 * 6 := by have := (List.getElem?_eq_some_iff.1 hu).1; rw [lcells_length, hlen] at this; exact this
      have hk : j / 6 < len0 := by omega
      have := lcells_get _ _ _ (hget (j / 6) hk) (j % 6) (by omega)
      rw [show j / 6 * 6 + j % 6 = j by omega] at this
      rw [this] at hu
      have := (hff (j / 6) hk).2 (j % 6) u hu
      rwa [show j / 6 * 6 + j % 6 = j by omega] at this
    · obtain ⟨k, hk, rfl⟩ := List.mem_map.1 hq
      exact (hff k (by simpa using hk)).1
    · simp only [Prod.mk.injEq] at hx
      exact ⟨_, _, hx.1, by simp⟩

theorem own_knob : ownKnob Try.prog.godebug = none := by kernel_rfl
/-- What a law leaves behind: nothing that was there has turned. -/
theorem post_below {H : Type} {enc : TypeId × Value → H} {P : Program} {f : Func} {s : ChangeSpec} {apart fresh handsOn : Bool} {W W' : World} {args : Array Value} {v : Value} {ds gs : List (DataW H)} {before pa pv : List MemPlace}
    (hW : DataW.Whole enc P f.params.toList s.vars apart W args.toList ds gs before)
    (hres : ∀ (b : Nat) (sp : Nat → Bool) (hd : Bool), DataW.TrodAll enc P W' b sp hd f.resultTypes.toList (v.resultList f.resultTypes.size) (s.fn H (ds ++ gs)).results [])
    (hargs : DataW.TrodAll enc P W' 0 (fun b => decide (b < W.heap.size)) true f.params.toList args.toList (s.fn H (ds ++ gs)).args pa)
    (hvars : DataW.TrodVars enc P W' (fun b => decide (b < W.heap.size)) s.vars (s.fn H (ds ++ gs)).vars pv)
    (hb : Below W.heap.size W W') : s.post enc P f apart fresh handsOn false W args v W' :=
  ⟨ds, gs, before, [], pa, pv, hW, hres _ _ _, hargs, hvars, hb.frame _, fun h => by cases h⟩
theorem laid_out : laidOutB Try.prog = true := by kernel_rfl
end Go.Proofs.Ytddnfikjfmfhfaa
end
section
/- Lists of wants and of uses that are handed. Written by gen_fopen.py. -/
namespace Go.Proofs.Ytddnfikjfmfhfaa
open Go.ChangeShapes Go.WideShapes Go.ChangeAt Go.RowKit Go.Deep
set_option linter.unusedVariables false
set_option maxRecDepth 100000
theorem wants_of_cells {H : Type} {enc : TypeId × Value → H} {W : World} {base fuel : Nat} {sp : Nat → Bool} {held : Bool} {cs : List Value} {x : DataW H × List MemPlace} (hl : cs.length = 3)
    (h : DataW.trod enc Try.prog W base sp held fuel 47 cs = some x) : ∃ y : Wt, cs = encW y ∧ y.Fits := by
  obtain ⟨ys, n, _, _, _, hyl, hf⟩ := DataW.trod_struct Try.underlying47 h
  match cs, hl with
  | [c0, c1, c2], _ =>
    have hC3 : Try.prog.cellsOf 3 = 1 := by kernel_rfl
    have hC2 : Try.prog.cellsOf 2 = 1 := by kernel_rfl
    have hC9 : Try.prog.cellsOf 9 = 1 := by kernel_rfl
    obtain ⟨y0, hy0⟩ : ∃ y, ys[0]? = some y := ⟨_, List.getElem?_eq_getElem (by rw [hyl]; decide)⟩
    obtain ⟨y1, hy1⟩ : ∃ y, ys[1]? = some y := ⟨_, List.getElem?_eq_getElem (by rw [hyl]; decide)⟩
    obtain ⟨y2, hy2⟩ : ∃ y, ys[2]? = some y := ⟨_, List.getElem?_eq_getElem (by rw [hyl]; decide)⟩
    have g0 : DataW.trod enc Try.prog W base sp held n 9 [c0] = some y0 := by have h := (hf 0 _ rfl).trans hy0; simpa [hC9] using h
    have g1 : DataW.trod enc Try.prog W base sp held n 3 [c1] = some y1 := by have h := (hf 1 _ rfl).trans hy1; simpa [hC3] using h
    have g2 : DataW.trod enc Try.prog W base sp held n 2 [c2] = some y2 := by have h := (hf 2 _ rfl).trans hy2; simpa [hC2] using h
    obtain ⟨a0, e0, _, w0⟩ := DataW.trod_string Try.underlying9 g0
    obtain ⟨a1, e1, _, w1⟩ := DataW.trod_int Try.underlying3 g1
    obtain ⟨a2, e2, _, w2⟩ := DataW.trod_int Try.underlying2 g2
    simp only [List.cons.injEq, and_true] at e0 e1 e2
    subst e0 e1 e2
    exact ⟨⟨a0.data.toList, a1, a2⟩, rfl, by show a0.data.toList.length ≤ maxLen; rw [Array.length_toList]; exact w0, (bounds_i64 w1).1, (bounds_i64 w1).2, (bounds_i64 w2).1, (bounds_i64 w2).2⟩
theorem uses_of_cells {H : Type} {enc : TypeId × Value → H} {W : World} {base fuel : Nat} {sp : Nat → Bool} {held : Bool} {cs : List Value} {x : DataW H × List MemPlace} (hl : cs.length = 3)
    (h : DataW.trod enc Try.prog W base sp held fuel 44 cs = some x) : ∃ y : Us, cs = encU y ∧ y.Fits := by
  obtain ⟨ys, n, _, _, _, hyl, hf⟩ := DataW.trod_struct Try.underlying44 h
  match cs, hl with
  | [c0, c1, c2], _ =>
    have hC3 : Try.prog.cellsOf 3 = 1 := by kernel_rfl
    have hC2 : Try.prog.cellsOf 2 = 1 := by kernel_rfl
    have hC9 : Try.prog.cellsOf 9 = 1 := by kernel_rfl
    obtain ⟨y0, hy0⟩ : ∃ y, ys[0]? = some y := ⟨_, List.getElem?_eq_getElem (by rw [hyl]; decide)⟩
    obtain ⟨y1, hy1⟩ : ∃ y, ys[1]? = some y := ⟨_, List.getElem?_eq_getElem (by rw [hyl]; decide)⟩
    obtain ⟨y2, hy2⟩ : ∃ y, ys[2]? = some y := ⟨_, List.getElem?_eq_getElem (by rw [hyl]; decide)⟩
    have g0 : DataW.trod enc Try.prog W base sp held n 3 [c0] = some y0 := by have h := (hf 0 _ rfl).trans hy0; simpa [hC3] using h
    have g1 : DataW.trod enc Try.prog W base sp held n 3 [c1] = some y1 := by have h := (hf 1 _ rfl).trans hy1; simpa [hC3] using h
    have g2 : DataW.trod enc Try.prog W base sp held n 2 [c2] = some y2 := by have h := (hf 2 _ rfl).trans hy2; simpa [hC2] using h
    obtain ⟨a0, e0, _, w0⟩ := DataW.trod_int Try.underlying3 g0
    obtain ⟨a1, e1, _, w1⟩ := DataW.trod_int Try.underlying3 g1
    obtain ⟨a2, e2, _, w2⟩ := DataW.trod_int Try.underlying2 g2
    simp only [List.cons.injEq, and_true] at e0 e1 e2
    subst e0 e1 e2
    exact ⟨⟨a0, a1, a2⟩, rfl, (bounds_i64 w0).1, (bounds_i64 w0).2, (bounds_i64 w1).1, (bounds_i64 w1).2, (bounds_i64 w2).1, (bounds_i64 w2).2⟩
/-- A list of wants that is handed. -/
theorem open_wants {H : Type} {enc : TypeId × Value → H} {W : World} {r : Reach} {b0 base : Nat} {sp : Nat → Bool} {held : Bool} {v : Value} {d : DataW H} {p : List MemPlace} (hval : Value.okWide Try.prog W r b0 23 v)
    (h : DataW.Trod enc Try.prog W base sp held 23 v d p) : ∃ l, WSl W W.heap.size v l ∧ SizedW l ∧ (l = [] ∨ ∃ elems spare, d = .slice elems spare ∧ l.length = elems.length) := by
  obtain ⟨a0, len0, cap0, rfl⟩ := okWide_slice Try.underlying23 hval
  obtain ⟨fuel, hf⟩ := h
  rcases open_slice Try.underlying23 hf with ⟨hcs, _⟩ | ⟨a, len, cap, m, n, D, Pl, hcs, _, hl, hm, hmm, hx, hi⟩
  · simp [Value.cells] at hcs
    obtain ⟨rfl, rfl, rfl⟩ := hcs
    exact ⟨[], ⟨none, 0, rfl, Nat.le_refl _, by simp [maxLen], fun _ => rfl, Lies.none⟩, fun x hx => by simp at hx, .inl rfl⟩
  · simp [Value.cells] at hcs
    obtain ⟨rfl, rfl, rfl⟩ := hcs
    have hlm : len0 ≤ m := by rw [hmm]; split <;> omega
    have hC : Try.prog.cellsOf 47 = 3 := by kernel_rfl
    have hpt : ∀ i, i < len0 → ∃ y : Wt, y.Fits ∧ ∀ c u, (encW y)[c]? = some u → W.cell? (a.add (i * 3 + c)) = some u := by
      intro i hil
      obtain ⟨cs', hc, ht⟩ := hi i (by omega)
      rw [hC] at hc
      obtain ⟨_, hlen, hat⟩ := World.cells?_some hc
      obtain ⟨y, rfl, hy⟩ := wants_of_cells hlen ht
      refine ⟨y, hy, fun c u hu => ?_⟩
      have hcn : c < 3 := by have := (List.getElem?_eq_some_iff.1 hu).1; rw [encW_length] at this; exact this
      have := hat c hcn
      rw [addr_add] at this
      rw [this, hu]
    let f : Nat → Wt := fun i => if h : i < len0 then Classical.choose (hpt i h) else default
    have hff : ∀ i, i < len0 → (f i).Fits ∧ ∀ c u, (encW (f i))[c]? = some u → W.cell? (a.add (i * 3 + c)) = some u := by
      intro i hil
      have := Classical.choose_spec (hpt i hil)
      simp only [f, dif_pos hil]
      exact this
    have hlen : ((List.range len0).map f).length = len0 := by simp
    have hget : ∀ k, k < len0 → ((List.range len0).map f)[k]? = some (f k) := fun k hk => by simp [hk]
    refine ⟨(List.range len0).map f, ⟨some a, cap0, by rw [hlen], by omega, hm, fun h => (by cases h), fun hne => ?_⟩, fun q hq => ?_, .inr ?_⟩
    · have h0 : 0 < len0 := by
        rcases Nat.eq_zero_or_pos len0 with h | h
        · subst h; simp [wcells] at hne
        · exact h
      refine ⟨a, rfl, by have := cell_lt ((hff 0 h0).2 0 _ rfl); rw [addr_block] at this; exact this, fun j u hu => ?_⟩
      have hj : j < len0 * 3 := by have := (List.getElem?_eq_some_iff.1 hu).1; rw [wcells_length, hlen] at this; exact this
      have hk : j / 3 < len0 := by omega
      have := wcells_get _ _ _ (hget (j / 3) hk) (j % 3) (by omega)
      rw [show j / 3 * 3 + j % 3 = j by omega] at this
      rw [this] at hu
      have := (hff (j / 3) hk).2 (j % 3) u hu
      rwa [show j / 3 * 3 + j % 3 = j by omega] at this
    · obtain ⟨k, hk, rfl⟩ := List.mem_map.1 hq
      exact (hff k (by simpa using hk)).1
    · simp only [Prod.mk.injEq] at hx
      exact ⟨_, _, hx.1, by simp⟩

/-- A list of uses that is handed. -/
theorem open_uses {H : Type} {enc : TypeId × Value → H} {W : World} {r : Reach} {b0 base : Nat} {sp : Nat → Bool} {held : Bool} {v : Value} {d : DataW H} {p : List MemPlace} (hval : Value.okWide Try.prog W r b0 28 v)
    (h : DataW.Trod enc Try.prog W base sp held 28 v d p) : ∃ l, USl W W.heap.size v l ∧ SizedU l ∧ (l = [] ∨ ∃ elems spare, d = .slice elems spare ∧ l.length = elems.length) := by
  obtain ⟨a0, len0, cap0, rfl⟩ := okWide_slice Try.underlying28 hval
  obtain ⟨fuel, hf⟩ := h
  rcases open_slice Try.underlying28 hf with ⟨hcs, _⟩ | ⟨a, len, cap, m, n, D, Pl, hcs, _, hl, hm, hmm, hx, hi⟩
  · simp [Value.cells] at hcs
    obtain ⟨rfl, rfl, rfl⟩ := hcs
    exact ⟨[], ⟨none, 0, rfl, Nat.le_refl _, by simp [maxLen], fun _ => rfl, Lies.none⟩, fun x hx => by simp at hx, .inl rfl⟩
  · simp [Value.cells] at hcs
    obtain ⟨rfl, rfl, rfl⟩ := hcs
    have hlm : len0 ≤ m := by rw [hmm]; split <;> omega
    have hC : Try.prog.cellsOf 44 = 3 := by kernel_rfl
    have hpt : ∀ i, i < len0 → ∃ y : Us, y.Fits ∧ ∀ c u, (encU y)[c]? = some u → W.cell? (a.add (i * 3 + c)) = some u := by
      intro i hil
      obtain ⟨cs', hc, ht⟩ := hi i (by omega)
      rw [hC] at hc
      obtain ⟨_, hlen, hat⟩ := World.cells?_some hc
      obtain ⟨y, rfl, hy⟩ := uses_of_cells hlen ht
      refine ⟨y, hy, fun c u hu => ?_⟩
      have hcn : c < 3 := by have := (List.getElem?_eq_some_iff.1 hu).1; rw [encU_length] at this; exact this
      have := hat c hcn
      rw [addr_add] at this
      rw [this, hu]
    let f : Nat → Us := fun i => if h : i < len0 then Classical.choose (hpt i h) else default
    have hff : ∀ i, i < len0 → (f i).Fits ∧ ∀ c u, (encU (f i))[c]? = some u → W.cell? (a.add (i * 3 + c)) = some u := by
      intro i hil
      have := Classical.choose_spec (hpt i hil)
      simp only [f, dif_pos hil]
      exact this
    have hlen : ((List.range len0).map f).length = len0 := by simp
    have hget : ∀ k, k < len0 → ((List.range len0).map f)[k]? = some (f k) := fun k hk => by simp [hk]
    refine ⟨(List.range len0).map f, ⟨some a, cap0, by rw [hlen], by omega, hm, fun h => (by cases h), fun hne => ?_⟩, fun q hq => ?_, .inr ?_⟩
    · have h0 : 0 < len0 := by
        rcases Nat.eq_zero_or_pos len0 with h | h
        · subst h; simp [ucells] at hne
        · exact h
      refine ⟨a, rfl, by have := cell_lt ((hff 0 h0).2 0 _ rfl); rw [addr_block] at this; exact this, fun j u hu => ?_⟩
      have hj : j < len0 * 3 := by have := (List.getElem?_eq_some_iff.1 hu).1; rw [ucells_length, hlen] at this; exact this
      have hk : j / 3 < len0 := by omega
      have := ucells_get _ _ _ (hget (j / 3) hk) (j % 3) (by omega)
      rw [show j / 3 * 3 + j % 3 = j by omega] at this
      rw [this] at hu
      have := (hff (j / 3) hk).2 (j % 3) u hu
      rwa [show j / 3 * 3 + j % 3 = j by omega] at this
    · obtain ⟨k, hk, rfl⟩ := List.mem_map.1 hq
      exact (hff k (by simpa using hk)).1
    · simp only [Prod.mk.injEq] at hx
      exact ⟨_, _, hx.1, by simp⟩

end Go.Proofs.Ytddnfikjfmfhfaa
end
