/- Texts of this proof, one behind the other. -/
import Derived.Deep.DeepCutAuto
import Derived.Deep.RegionHeld3
import Derived.Laws.OwnMore
import Derived.Deep.QuietTactic
import Derived.BigQuiet
import Derived.Test.YtkdcpnbfeagggaaA07
import Derived.Test.YtkdcpnbfeagggaaA06
import Derived.Test.YtkdcpnbfeagggaaA01
section
/- storemankit.KeptItems (chapter kit): lent items and the marks behind them are as they were. Written by gen_kkept.py. -/
namespace Go.Proofs.Ytkdcpnbfeagggaa
namespace Kt
open Go.ChangeShapes Go.WideShapes Go.ChangeAt Go.RowKit Go.Maps Go.Shelf
set_option linter.unusedVariables false
set_option linter.constructorNameAsVariable false

theorem map_get {α : Type} {m l : List Iv} (f : Iv → α) (h : m.map f = l.map f) {k : Nat} {y z : Iv} (hy : l[k]? = some y) (hz : m[k]? = some z) : f z = f y := by
  have := congrArg (fun q => q[k]?) h
  simp only [List.getElem?_map, hy, hz, Option.map_some, Option.some.injEq] at this
  exact this
theorem Lnt.get {l m : List Iv} {base g n cap : Nat} {xs : List Value} {W : World} (h : Lnt l m base g n cap xs W) (hm : m.length = l.length) {k : Nat} {y : Iv} (hy : l[k]? = some y) :
    ∃ gp go : Nat, m[k]? = some ⟨y.it, y.others, .slice (some ⟨gp, 0, none⟩) y.it.parts.length (y.it.parts.length + 12), .slice (some ⟨go, 0, none⟩) y.others.length (y.others.length + 12)⟩ ∧
      Lies W W.heap.size (some ⟨gp, 0, none⟩) (pcells (y.it.parts ++ marksP 1 12)) ∧ Lies W W.heap.size (some ⟨go, 0, none⟩) (tcells (y.others ++ marksT 12)) := by
  have hk := (List.getElem?_eq_some_iff.1 hy).1
  obtain ⟨z, hz⟩ : ∃ z, m[k]? = some z := ⟨_, List.getElem?_eq_getElem (by omega)⟩
  have e1 := map_get (·.it) h.its hy hz
  have e2 := map_get (·.others) h.oth hy hz
  obtain ⟨gp, go, h1, h2, h3, h4⟩ := h.own z (List.mem_of_getElem? hz)
  obtain ⟨it, os, pv, ov⟩ := z
  simp only at e1 e2 h1 h2 h3 h4
  subst e1 e2 h1 h2
  exact ⟨gp, go, hz, Lies.own h3, Lies.own h4⟩

set_option maxRecDepth 100000 in
set_option maxHeartbeats 4000000 in
theorem keptItems_any (v : Value) (l m : List Iv) (base g : Nat) (w : World) (hv : ISl w w.heap.size v l) (hs : SizedI l) (hC : Lnt l m base g (l.length + 12) (l.length + 12) (icells (m ++ marksI 12)) w) (hm : m.length = l.length) (hlen : l.length ≤ 1048576) :
    Calls Try.prog 9 #[.slice (some ⟨g, 0, none⟩) l.length (l.length + 12), v] w fun e w' => e = .returned (.bool true) ∧ Go.RowKit.Below w.heap.size w w' := by
  obtain ⟨⟨A, c, rfl, hc1, hc2, hcz, hl⟩, hsub⟩ := id hv
  have HV := Lib.hid hv
  have HS : Hid (SizedI l) := Lib.hid hs
  have HC := Lib.hid hC
  have HL := Lib.hid (Lies.own hC.row)
  have HM := Lib.hid hm
  clear hl hsub hv hs hC hm
  go_enter Try.func9, Try.ntmps9
  go_wp2
  go_loopw [6] (fun i wr => ∃ k : Nat, k ≤ l.length + 12 ∧ i = .int .i64 k ∧ Hid (Go.RowKit.Below w.heap.size w wr)) (fun i _ => l.length + 12 - (intOf i).toNat)
  case atStart => exact ⟨0, Nat.zero_le _, rfl, Lib.hid (Below.refl _ _)⟩
  case round =>
    obtain ⟨k, hk, rfl, HB⟩ := hrel
    have HVr := Lib.hid (HV.out.at_ HB.out)
    have HLr := Lib.hid ((HL.out.below HB.out).mono HB.out.size)
    have HCr := Lib.hid (HC.out.at_ HB.out)
    by_cases hlt : k < l.length
    · obtain ⟨y, hy⟩ : ∃ y, l[k]? = some y := ⟨_, List.getElem?_eq_getElem hlt⟩
      obtain ⟨gp, go, hz, hl1, hl2⟩ := HCr.out.get HM.out hy
      have hz2 : (m ++ marksI 12)[k]? = some ⟨y.it, y.others, .slice (some ⟨gp, 0, none⟩) y.it.parts.length (y.it.parts.length + 12), .slice (some ⟨go, 0, none⟩) y.others.length (y.others.length + 12)⟩ := by rw [List.getElem?_append_left (by rw [HM.out]; exact hlt)]; exact hz
      have HF := Lib.hid (HS.out _ (List.mem_of_getElem? hy))
      have HSb := Lib.hid (HVr.out.2 _ (List.mem_of_getElem? hy))
      obtain ⟨⟨code, life, ps⟩, os, pv, ov⟩ := y
      obtain ⟨Ap, cp, Ao, co, rfl, rfl, hcp, hcq⟩ := HSb.out.form
      simp only at hz2 hl1 hl2
      obtain ⟨_, _, _, _, hpl, hol⟩ := HF.out
      simp only at hpl hol
      obtain ⟨ad, rfl, hab, _⟩ := HVr.out.at_k hy
      have HY := Lib.hid hy
      have HZ := Lib.hid hz2
      have HP := Lib.hid hl1
      have HO := Lib.hid hl2
      have hd1 : decide ((k : Int) < (l.length : Int)) = true := decide_eq_true (by omega)
      have hd2 : decide ((l.length : Int) ≤ (k : Int)) = false := decide_eq_false (by omega)
      have hltI : (k : Int) < (l.length : Int) := by omega
      have hltJ : (k : Int) < (l.length : Int) + 12 := by omega
      clear hy hz hz2 hl1 hl2
      go_upto_region 7 with (fail)
      go_cut [57] (fun v wx => v = .bool false ∧ Go.RowKit.Below wr.heap.size wr wx)
      case first =>
        refine wp_region_held_drew (S := fun w' => Go.RowKit.Below wr.heap.size wr w') (by kernel_rfl) ((Below.refl _ _).drew) (fun hS => ?_)
        refine wpAnyH_take (i := 0) (v := (.int .i64 (k : Int))) rfl (by kernel_rfl) (by kernel_rfl) (by kernel_rfl) (fun _ _ _ h => h) (Or.inl ⟨by kernel_rfl, fun w' hS' => by go_simp⟩) hS ?_
        refine wpAnyH_take (i := 1) (v := (.slice (some ad) l.length c)) rfl (by kernel_rfl) (by kernel_rfl) (by kernel_rfl) (fun _ _ _ h => h) (Or.inl ⟨by kernel_rfl, fun w' hS' => by go_simp⟩) hS ?_
        refine wpAnyH_take (i := 2) (v := (.int .i64 (l.length : Int))) rfl (by kernel_rfl) (by kernel_rfl) (by kernel_rfl) (fun _ _ _ h => h) (Or.inl ⟨by kernel_rfl, fun w' hS' => by go_simp⟩) hS ?_
        refine wpAnyH_take (i := 3) (v := (.bool true)) rfl (by kernel_rfl) (by kernel_rfl) (by kernel_rfl) (fun _ _ _ h => h) (Or.inl ⟨by kernel_rfl, fun w' hS' => by go_simp⟩) hS ?_
        refine wpAnyH_take (i := 4) (v := (.bool true)) rfl (by kernel_rfl) (by kernel_rfl) (by kernel_rfl) (fun _ _ _ h => h) (Or.inl ⟨by kernel_rfl, fun w' hS' => by go_simp⟩) hS ?_
        refine wpAnyH_take (i := 5) (v := (.slice (some ⟨g, 0, none⟩) (l.length + 12) (l.length + 12))) rfl (by kernel_rfl) (by kernel_rfl) (by kernel_rfl) (fun _ _ _ h => h) (Or.inl ⟨by kernel_rfl, fun w' hS' => by go_simp⟩) hS ?_
        refine wpAnyH_take (i := 6) (v := (.int .i64 (k : Int))) rfl (by kernel_rfl) (by kernel_rfl) (by kernel_rfl) (fun _ _ _ h => h) (Or.inl ⟨by kernel_rfl, fun w' hS' => by go_simp⟩) hS ?_
        refine wpAnyH_take (i := 7) (v := (.pointer (some ⟨g, k * 4, none⟩))) rfl (by kernel_rfl) (by kernel_rfl) (by kernel_rfl) (fun _ _ _ h => h) (Or.inl ⟨by kernel_rfl, fun w' hS' => by (go_simp; try (intro h; exfalso; omega))⟩) hS ?_
        refine wpAnyH_take (i := 8) (v := (.agg #[.string ⟨code.toArray⟩, .int .i64 life, .slice (some ⟨gp, 0, none⟩) ps.length (ps.length + 12), .slice (some ⟨go, 0, none⟩) os.length (os.length + 12)])) rfl (by kernel_rfl) (by kernel_rfl) (by kernel_rfl) (fun _ _ _ h => h) (Or.inl ⟨by kernel_rfl, fun w' hS' => by have hL := (HLr.out.below hS').rowI HZ.out; obtain ⟨ad', had, _, d0, d1, d2, d3⟩ := hL; cases had; simp only [addr0] at d0 d1 d2 d3; go_simp⟩) hS ?_
        refine wpAnyH_take (i := 9) (v := (.slice (some ad) l.length c)) rfl (by kernel_rfl) (by kernel_rfl) (by kernel_rfl) (fun _ _ _ h => h) (Or.inl ⟨by kernel_rfl, fun w' hS' => by go_simp⟩) hS ?_
        refine wpAnyH_take (i := 10) (v := (.int .i64 (k : Int))) rfl (by kernel_rfl) (by kernel_rfl) (by kernel_rfl) (fun _ _ _ h => h) (Or.inl ⟨by kernel_rfl, fun w' hS' => by go_simp⟩) hS ?_
        refine wpAnyH_take (i := 11) (v := (.pointer (some (ad.add (k * 4))))) rfl (by kernel_rfl) (by kernel_rfl) (by kernel_rfl) (fun _ _ _ h => h) (Or.inl ⟨by kernel_rfl, fun w' hS' => by (go_simp; try (intro h; exfalso; omega))⟩) hS ?_
        refine wpAnyH_take (i := 12) (v := (.agg #[.string ⟨code.toArray⟩, .int .i64 life, .slice Ap ps.length cp, .slice Ao os.length co])) rfl (by kernel_rfl) (by kernel_rfl) (by kernel_rfl) (fun _ _ _ h => h) (Or.inl ⟨by kernel_rfl, fun w' hS' => by have hL := (HVr.out.below hS').at_k HY.out; obtain ⟨ad', had, _, d0, d1, d2, d3⟩ := hL; cases had; simp only at d0 d1 d2 d3; go_simp⟩) hS ?_
        refine wpAnyH_ready (rs := [13]) (by kernel_rfl) (by simp) ?_
        refine AllReadyH.cons rfl (fun K hK => ?_) AllReadyH.nil
        go_simp
        refine (keptItem_yes code life ps os _ _ gp go _ _ _ ((HP.out.below hS).mono hS.size) ((HO.out.below hS).mono hS.size) (HSb.out.at_ hS) hpl hol).mono ?_
        rintro e w5 ⟨rfl, hby⟩
        refine hK.out _ _ (hS.trans (hby.mono hS.size)) (fun hS => ?_)
        clear hK K
        clear hby
        refine wpAnyH_take (i := 14) (v := (.bool false)) rfl (by kernel_rfl) (by kernel_rfl) (by kernel_rfl) (fun _ _ _ h => h) (Or.inl ⟨by kernel_rfl, fun w' hS' => by go_simp⟩) hS ?_
        refine wpAnyH_take (i := 15) (v := (.bool false)) rfl (by kernel_rfl) (by kernel_rfl) (by kernel_rfl) (fun _ _ _ h => h) (Or.inl ⟨by kernel_rfl, fun w' hS' => by go_simp⟩) hS ?_
        refine wpAnyH_take (i := 16) (v := (.bool false)) rfl (by kernel_rfl) (by kernel_rfl) (by kernel_rfl) (fun _ _ _ h => h) (Or.inl ⟨by kernel_rfl, fun w' hS' => by go_simp⟩) hS ?_
        refine wpAnyH_take (i := 17) (v := (.int .i64 (k : Int))) rfl (by kernel_rfl) (by kernel_rfl) (by kernel_rfl) (fun _ _ _ h => h) (Or.inl ⟨by kernel_rfl, fun w' hS' => by go_simp⟩) hS ?_
        refine wpAnyH_take (i := 18) (v := (.slice (some ad) l.length c)) rfl (by kernel_rfl) (by kernel_rfl) (by kernel_rfl) (fun _ _ _ h => h) (Or.inl ⟨by kernel_rfl, fun w' hS' => by go_simp⟩) hS ?_
        refine wpAnyH_take (i := 19) (v := (.int .i64 (l.length : Int))) rfl (by kernel_rfl) (by kernel_rfl) (by kernel_rfl) (fun _ _ _ h => h) (Or.inl ⟨by kernel_rfl, fun w' hS' => by go_simp⟩) hS ?_
        refine wpAnyH_take (i := 20) (v := (.bool false)) rfl (by kernel_rfl) (by kernel_rfl) (by kernel_rfl) (fun _ _ _ h => h) (Or.inl ⟨by kernel_rfl, fun w' hS' => by go_simp⟩) hS ?_
        refine wpAnyH_take (i := 21) (v := (.bool false)) rfl (by kernel_rfl) (by kernel_rfl) (by kernel_rfl) (fun _ _ _ h => h) (Or.inl ⟨by kernel_rfl, fun w' hS' => by go_simp⟩) hS ?_
        refine wpAnyH_take (i := 22) (v := (undef)) rfl (by kernel_rfl) (by kernel_rfl) (by kernel_rfl) (fun _ _ _ h => h) (Or.inr ⟨by kernel_rfl, rfl⟩) hS ?_
        refine wpAnyH_take (i := 23) (v := (undef)) rfl (by kernel_rfl) (by kernel_rfl) (by kernel_rfl) (fun _ _ _ h => h) (Or.inr ⟨by kernel_rfl, rfl⟩) hS ?_
        refine wpAnyH_take (i := 24) (v := (undef)) rfl (by kernel_rfl) (by kernel_rfl) (by kernel_rfl) (fun _ _ _ h => h) (Or.inr ⟨by kernel_rfl, rfl⟩) hS ?_
        refine wpAnyH_take (i := 25) (v := (undef)) rfl (by kernel_rfl) (by kernel_rfl) (by kernel_rfl) (fun _ _ _ h => h) (Or.inr ⟨by kernel_rfl, rfl⟩) hS ?_
        refine wpAnyH_take (i := 26) (v := (undef)) rfl (by kernel_rfl) (by kernel_rfl) (by kernel_rfl) (fun _ _ _ h => h) (Or.inr ⟨by kernel_rfl, rfl⟩) hS ?_
        refine wpAnyH_take (i := 27) (v := (undef)) rfl (by kernel_rfl) (by kernel_rfl) (by kernel_rfl) (fun _ _ _ h => h) (Or.inr ⟨by kernel_rfl, rfl⟩) hS ?_
        refine wpAnyH_take (i := 28) (v := (undef)) rfl (by kernel_rfl) (by kernel_rfl) (by kernel_rfl) (fun _ _ _ h => h) (Or.inr ⟨by kernel_rfl, rfl⟩) hS ?_
        refine wpAnyH_take (i := 29) (v := (undef)) rfl (by kernel_rfl) (by kernel_rfl) (by kernel_rfl) (fun _ _ _ h => h) (Or.inr ⟨by kernel_rfl, rfl⟩) hS ?_
        refine wpAnyH_take (i := 30) (v := (undef)) rfl (by kernel_rfl) (by kernel_rfl) (by kernel_rfl) (fun _ _ _ h => h) (Or.inr ⟨by kernel_rfl, rfl⟩) hS ?_
        refine wpAnyH_take (i := 31) (v := (undef)) rfl (by kernel_rfl) (by kernel_rfl) (by kernel_rfl) (fun _ _ _ h => h) (Or.inr ⟨by kernel_rfl, rfl⟩) hS ?_
        refine wpAnyH_take (i := 32) (v := (undef)) rfl (by kernel_rfl) (by kernel_rfl) (by kernel_rfl) (fun _ _ _ h => h) (Or.inr ⟨by kernel_rfl, rfl⟩) hS ?_
        refine wpAnyH_take (i := 33) (v := (.bool false)) rfl (by kernel_rfl) (by kernel_rfl) (by kernel_rfl) (fun _ _ _ h => h) (Or.inl ⟨by kernel_rfl, fun w' hS' => by go_simp⟩) hS ?_
        refine wpAnyH_take (i := 34) (v := (.bool false)) rfl (by kernel_rfl) (by kernel_rfl) (by kernel_rfl) (fun _ _ _ h => h) (Or.inl ⟨by kernel_rfl, fun w' hS' => by go_simp⟩) hS ?_
        refine wpAnyH_done (by kernel_rfl) ?_ _
        go_simp
        go_wp2_with fail
        go_meet
        exact ⟨rfl, hS⟩
      case rest =>
        obtain ⟨rfl, hb5⟩ := hcut
        have HB5 := Lib.hid (below_two HB.out hb5)
        clear hb5
        go_wp2
        go_roundw
        case rel => exact ⟨k + 1, by omega, by go_num, HB5⟩
        case measure => simp [intOf]; omega
    · by_cases hlt2 : k < l.length + 12
      · obtain ⟨j, hj⟩ : ∃ j, k = l.length + j := ⟨k - l.length, by omega⟩
        have hjl : j < 12 := by omega
        have hz2 : (m ++ marksI 12)[k]? = some (markI j) := by rw [List.getElem?_append_right (by rw [HM.out]; omega), HM.out, show k - l.length = j by omega, marksI_get 12 _ hjl]
        have hMk : 8000024 + ((k : Int) - (l.length : Int)) = 8000024 + (j : Int) := by omega
        obtain ⟨M, hM⟩ : ∃ M, 8000024 + (j : Int) = M := ⟨_, rfl⟩
        unfold markI at hz2
        rw [hM] at hz2 hMk
        have HZ := Lib.hid hz2
        have HMK := Lib.hid hMk
        have hd1 : decide ((k : Int) < (l.length : Int)) = false := decide_eq_false (by omega)
        have hd2 : decide ((l.length : Int) ≤ (k : Int)) = true := decide_eq_true (by omega)
        have hltJ : (k : Int) < (l.length : Int) + 12 := by omega
        have hle0 : 0 ≤ (k : Int) - (l.length : Int) := by omega
        have hle1 : (k : Int) - (l.length : Int) ≤ 1099511627776 := by omega
        clear hz2 hMk hM hj hjl
        go_upto_region 7 with (fail)
        go_cut [57] (fun v wx => v = .bool false ∧ Go.RowKit.Below wr.heap.size wr wx)
        case first =>
          refine wp_region_held_drew (S := fun w' => Go.RowKit.Below wr.heap.size wr w') (by kernel_rfl) ((Below.refl _ _).drew) (fun hS => ?_)
          refine wpAnyH_take (i := 0) (v := (.int .i64 (k : Int))) rfl (by kernel_rfl) (by kernel_rfl) (by kernel_rfl) (fun _ _ _ h => h) (Or.inl ⟨by kernel_rfl, fun w' hS' => by go_simp⟩) hS ?_
          refine wpAnyH_take (i := 1) (v := (.slice A l.length c)) rfl (by kernel_rfl) (by kernel_rfl) (by kernel_rfl) (fun _ _ _ h => h) (Or.inl ⟨by kernel_rfl, fun w' hS' => by go_simp⟩) hS ?_
          refine wpAnyH_take (i := 2) (v := (.int .i64 (l.length : Int))) rfl (by kernel_rfl) (by kernel_rfl) (by kernel_rfl) (fun _ _ _ h => h) (Or.inl ⟨by kernel_rfl, fun w' hS' => by go_simp⟩) hS ?_
          refine wpAnyH_take (i := 3) (v := (.bool false)) rfl (by kernel_rfl) (by kernel_rfl) (by kernel_rfl) (fun _ _ _ h => h) (Or.inl ⟨by kernel_rfl, fun w' hS' => by go_simp⟩) hS ?_
          refine wpAnyH_take (i := 4) (v := (.bool false)) rfl (by kernel_rfl) (by kernel_rfl) (by kernel_rfl) (fun _ _ _ h => h) (Or.inl ⟨by kernel_rfl, fun w' hS' => by go_simp⟩) hS ?_
          refine wpAnyH_take (i := 5) (v := (undef)) rfl (by kernel_rfl) (by kernel_rfl) (by kernel_rfl) (fun _ _ _ h => h) (Or.inr ⟨by kernel_rfl, rfl⟩) hS ?_
          refine wpAnyH_take (i := 6) (v := (undef)) rfl (by kernel_rfl) (by kernel_rfl) (by kernel_rfl) (fun _ _ _ h => h) (Or.inr ⟨by kernel_rfl, rfl⟩) hS ?_
          refine wpAnyH_take (i := 7) (v := (undef)) rfl (by kernel_rfl) (by kernel_rfl) (by kernel_rfl) (fun _ _ _ h => h) (Or.inr ⟨by kernel_rfl, rfl⟩) hS ?_
          refine wpAnyH_take (i := 8) (v := (undef)) rfl (by kernel_rfl) (by kernel_rfl) (by kernel_rfl) (fun _ _ _ h => h) (Or.inr ⟨by kernel_rfl, rfl⟩) hS ?_
          refine wpAnyH_take (i := 9) (v := (undef)) rfl (by kernel_rfl) (by kernel_rfl) (by kernel_rfl) (fun _ _ _ h => h) (Or.inr ⟨by kernel_rfl, rfl⟩) hS ?_
          refine wpAnyH_take (i := 10) (v := (undef)) rfl (by kernel_rfl) (by kernel_rfl) (by kernel_rfl) (fun _ _ _ h => h) (Or.inr ⟨by kernel_rfl, rfl⟩) hS ?_
          refine wpAnyH_take (i := 11) (v := (undef)) rfl (by kernel_rfl) (by kernel_rfl) (by kernel_rfl) (fun _ _ _ h => h) (Or.inr ⟨by kernel_rfl, rfl⟩) hS ?_
          refine wpAnyH_take (i := 12) (v := (undef)) rfl (by kernel_rfl) (by kernel_rfl) (by kernel_rfl) (fun _ _ _ h => h) (Or.inr ⟨by kernel_rfl, rfl⟩) hS ?_
          refine wpAnyH_take (i := 13) (v := (undef)) rfl (by kernel_rfl) (by kernel_rfl) (by kernel_rfl) (fun _ _ _ h => h) (Or.inr ⟨by kernel_rfl, rfl⟩) hS ?_
          refine wpAnyH_take (i := 14) (v := (undef)) rfl (by kernel_rfl) (by kernel_rfl) (by kernel_rfl) (fun _ _ _ h => h) (Or.inr ⟨by kernel_rfl, rfl⟩) hS ?_
          refine wpAnyH_take (i := 15) (v := (.bool false)) rfl (by kernel_rfl) (by kernel_rfl) (by kernel_rfl) (fun _ _ _ h => h) (Or.inl ⟨by kernel_rfl, fun w' hS' => by go_simp⟩) hS ?_
          refine wpAnyH_take (i := 16) (v := (.bool false)) rfl (by kernel_rfl) (by kernel_rfl) (by kernel_rfl) (fun _ _ _ h => h) (Or.inl ⟨by kernel_rfl, fun w' hS' => by go_simp⟩) hS ?_
          refine wpAnyH_take (i := 17) (v := (.int .i64 (k : Int))) rfl (by kernel_rfl) (by kernel_rfl) (by kernel_rfl) (fun _ _ _ h => h) (Or.inl ⟨by kernel_rfl, fun w' hS' => by go_simp⟩) hS ?_
          refine wpAnyH_take (i := 18) (v := (.slice A l.length c)) rfl (by kernel_rfl) (by kernel_rfl) (by kernel_rfl) (fun _ _ _ h => h) (Or.inl ⟨by kernel_rfl, fun w' hS' => by go_simp⟩) hS ?_
          refine wpAnyH_take (i := 19) (v := (.int .i64 (l.length : Int))) rfl (by kernel_rfl) (by kernel_rfl) (by kernel_rfl) (fun _ _ _ h => h) (Or.inl ⟨by kernel_rfl, fun w' hS' => by go_simp⟩) hS ?_
          refine wpAnyH_take (i := 20) (v := (.bool true)) rfl (by kernel_rfl) (by kernel_rfl) (by kernel_rfl) (fun _ _ _ h => h) (Or.inl ⟨by kernel_rfl, fun w' hS' => by (go_simp; try omega)⟩) hS ?_
          refine wpAnyH_take (i := 21) (v := (.bool true)) rfl (by kernel_rfl) (by kernel_rfl) (by kernel_rfl) (fun _ _ _ h => h) (Or.inl ⟨by kernel_rfl, fun w' hS' => by go_simp⟩) hS ?_
          refine wpAnyH_take (i := 22) (v := (.slice (some ⟨g, 0, none⟩) (l.length + 12) (l.length + 12))) rfl (by kernel_rfl) (by kernel_rfl) (by kernel_rfl) (fun _ _ _ h => h) (Or.inl ⟨by kernel_rfl, fun w' hS' => by go_simp⟩) hS ?_
          refine wpAnyH_take (i := 23) (v := (.int .i64 (k : Int))) rfl (by kernel_rfl) (by kernel_rfl) (by kernel_rfl) (fun _ _ _ h => h) (Or.inl ⟨by kernel_rfl, fun w' hS' => by go_simp⟩) hS ?_
          refine wpAnyH_take (i := 24) (v := (.pointer (some ⟨g, k * 4, none⟩))) rfl (by kernel_rfl) (by kernel_rfl) (by kernel_rfl) (fun _ _ _ h => h) (Or.inl ⟨by kernel_rfl, fun w' hS' => by (go_simp; try (intro h; exfalso; omega))⟩) hS ?_
          refine wpAnyH_take (i := 25) (v := (.agg #[.string ⟨#[]⟩, .int .i64 M, .slice none 0 0, .slice none 0 0])) rfl (by kernel_rfl) (by kernel_rfl) (by kernel_rfl) (fun _ _ _ h => h) (Or.inl ⟨by kernel_rfl, fun w' hS' => by have hL := (HLr.out.below hS').rowI HZ.out; obtain ⟨ad', had, _, d0, d1, d2, d3⟩ := hL; cases had; simp only [addr0] at d0 d1 d2 d3; go_simp⟩) hS ?_
          refine wpAnyH_take (i := 26) (v := (.int .i64 (k : Int))) rfl (by kernel_rfl) (by kernel_rfl) (by kernel_rfl) (fun _ _ _ h => h) (Or.inl ⟨by kernel_rfl, fun w' hS' => by go_simp⟩) hS ?_
          refine wpAnyH_take (i := 27) (v := (.slice A l.length c)) rfl (by kernel_rfl) (by kernel_rfl) (by kernel_rfl) (fun _ _ _ h => h) (Or.inl ⟨by kernel_rfl, fun w' hS' => by go_simp⟩) hS ?_
          refine wpAnyH_take (i := 28) (v := (.int .i64 (l.length : Int))) rfl (by kernel_rfl) (by kernel_rfl) (by kernel_rfl) (fun _ _ _ h => h) (Or.inl ⟨by kernel_rfl, fun w' hS' => by go_simp⟩) hS ?_
          refine wpAnyH_take (i := 29) (v := (.int .i64 ((k : Int) - (l.length : Int)))) rfl (by kernel_rfl) (by kernel_rfl) (by kernel_rfl) (fun _ _ _ h => h) (Or.inl ⟨by kernel_rfl, fun w' hS' => by (go_simp; try (rw [IntKind.wrap_i64]; omega))⟩) hS ?_
          refine wpAnyH_ready (rs := [30]) (by kernel_rfl) (by simp) ?_
          refine AllReadyH.cons rfl (fun K hK => ?_) AllReadyH.nil
          go_simp
          refine (marki_q ((k : Int) - (l.length : Int)) M _ HMK.out hle0 hle1).mono ?_
          rintro e w5 ⟨rfl, o5, hw5⟩
          refine hK.out _ _ (hS.trans ((by rw [hw5]; exact below_alloc1 _ _ : Go.RowKit.Below _ _ w5).mono hS.size)) (fun hS => ?_)
          clear hK K
          clear hw5
          refine wpAnyH_ready (rs := [31]) (by kernel_rfl) (by simp) ?_
          refine AllReadyH.cons rfl (fun K hK => ?_) AllReadyH.nil
          go_simp
          refine (sameItem_yes [] M [] [] none none none none 0 0 0 0 _ ⟨PSl.nil, TSl.nil⟩ ⟨PSl.nil, TSl.nil⟩ (by simp) (by simp)).mono ?_
          rintro e w6 ⟨rfl, hby⟩
          refine hK.out _ _ (hS.trans (hby.mono hS.size)) (fun hS => ?_)
          clear hK K
          clear hby
          refine wpAnyH_take (i := 32) (v := (.bool false)) rfl (by kernel_rfl) (by kernel_rfl) (by kernel_rfl) (fun _ _ _ h => h) (Or.inl ⟨by kernel_rfl, fun w' hS' => by go_simp⟩) hS ?_
          refine wpAnyH_take (i := 33) (v := (.bool false)) rfl (by kernel_rfl) (by kernel_rfl) (by kernel_rfl) (fun _ _ _ h => h) (Or.inl ⟨by kernel_rfl, fun w' hS' => by go_simp⟩) hS ?_
          refine wpAnyH_take (i := 34) (v := (.bool false)) rfl (by kernel_rfl) (by kernel_rfl) (by kernel_rfl) (fun _ _ _ h => h) (Or.inl ⟨by kernel_rfl, fun w' hS' => by go_simp⟩) hS ?_
          refine wpAnyH_done (by kernel_rfl) ?_ _
          go_simp
          go_wp2_with fail
          go_meet
          exact ⟨rfl, hS⟩
        case rest =>
          obtain ⟨rfl, hb5⟩ := hcut
          have HB5 := Lib.hid (below_two HB.out hb5)
          clear hb5
          go_wp2
          go_roundw
          case rel => exact ⟨k + 1, by omega, by go_num, HB5⟩
          case measure => simp [intOf]; omega
      · obtain rfl : k = l.length + 12 := by omega
        go_wp2
        go_ret
        exact ⟨rfl, HB.out⟩
end Kt
end Go.Proofs.Ytkdcpnbfeagggaa
end
section
/- How deep items are, round by round, as the reference finds it. No walk. -/
namespace Go.Proofs.Ytkdcpnbfeagggaa
namespace Kt
open Go.RowKit Go.Maps
set_option linter.unusedVariables false

/-- What is known behind r rounds and i items of the next one. -/
structure Rnd (F : Fd) (cs : List (List UInt8)) (d : List Nat) (r i : Nat) : Prop where
  len : d.length = cs.length
  right : ∀ (j : Nat) (c : List UInt8) (v : Nat), cs[j]? = some c → d[j]? = some v → v = 0 ∨ Dp F c v
  full : ∀ (j : Nat) (c : List UInt8) (v e : Nat), cs[j]? = some c → d[j]? = some v → Dp F c e → e ≤ (if j < i then r + 1 else r) → v = e
theorem Rnd.start (F : Fd) (cs : List (List UInt8)) : Rnd F cs (List.replicate cs.length 0) 0 0 := by
  refine ⟨by simp, fun j c v hc hv => .inl ?_, fun j c v e hc hv he hle => ?_⟩
  · rw [List.getElem?_replicate] at hv
    split at hv
    · cases hv; rfl
    · cases hv
  · have := he.pos
    rw [if_neg (by omega)] at hle
    omega
theorem Rnd.turn {F : Fd} {cs : List (List UInt8)} {d : List Nat} {r : Nat} (h : Rnd F cs d r cs.length) : Rnd F cs d (r + 1) 0 :=
  ⟨h.len, h.right, fun j c v e hc hv he hle => h.full j c v e hc hv he (by
    have hj := (List.getElem?_eq_some_iff.1 hc).1
    rw [if_neg (by omega)] at hle
    rw [if_pos hj]
    exact hle)⟩
theorem Rnd.next {F : Fd} {cs : List (List UInt8)} {d : List Nat} {r i : Nat} (h : Rnd F cs d r i) {c : List UInt8} (hc : cs[i]? = some c) {v : Nat} (hr : v = 0 ∨ Dp F c v) (hf : ∀ e, Dp F c e → e ≤ r + 1 → v = e) : Rnd F cs (d.set i v) r (i + 1) := by
  have hi := (List.getElem?_eq_some_iff.1 hc).1
  refine ⟨by rw [List.length_set]; exact h.len, fun j c' v' hc' hv' => ?_, fun j c' v' e hc' hv' he hle => ?_⟩
  · rw [List.getElem?_set] at hv'
    split at hv'
    · rename_i e
      subst e
      rw [hc] at hc'
      cases hc'
      split at hv'
      · cases hv'; exact hr
      · cases hv'
    · exact h.right j c' v' hc' hv'
  · rw [List.getElem?_set] at hv'
    split at hv'
    · rename_i e'
      subst e'
      rw [hc] at hc'
      cases hc'
      split at hv'
      · cases hv'
        rw [if_pos (by omega)] at hle
        exact hf e he hle
      · cases hv'
    · rename_i hne
      refine h.full j c' v' e hc' hv' he ?_
      by_cases hj : j < i
      · rw [if_pos (by omega)] at hle
        rw [if_pos hj]; exact hle
      · rw [if_neg (by omega)] at hle
        rw [if_neg hj]; exact hle
/-- Where an item stands. -/
def placeOf (cs : List (List UInt8)) (c : List UInt8) : Nat := (cs.findIdx? (fun a => decide (a = c))).getD 0
theorem placeOf_get {cs : List (List UInt8)} {c : List UInt8} (h : c ∈ cs) : cs[placeOf cs c]? = some c := by
  unfold placeOf
  cases hf : cs.findIdx? (fun a => decide (a = c)) with
  | none =>
    rw [List.findIdx?_eq_none_iff] at hf
    have := hf c h
    simp at this
  | some k =>
    obtain ⟨hk, h1, _⟩ := List.findIdx?_eq_some_iff_getElem.1 hf
    simp only [Option.getD_some]
    rw [List.getElem?_eq_getElem hk]
    have : cs[k] = c := by simpa using h1
    rw [this]
def valAt (cs : List (List UInt8)) (d : List Nat) (c : List UInt8) : Nat := (d[placeOf cs c]?).getD 0
/-- What is reckoned of an item's parts, up to k. -/
def partTo (cs : List (List UInt8)) (d : List Nat) (ps : List Pt) (k : Nat) : Nat := (ps.take k).foldl (fun m p => max m (valAt cs d p.1 + 1)) 1
theorem partTo_zero (cs : List (List UInt8)) (d : List Nat) (ps : List Pt) : partTo cs d ps 0 = 1 := by simp [partTo]
theorem partTo_succ {cs : List (List UInt8)} {d : List Nat} {ps : List Pt} {k : Nat} {p : Pt} (h : ps[k]? = some p) : partTo cs d ps (k + 1) = max (partTo cs d ps k) (valAt cs d p.1 + 1) := by
  unfold partTo
  rw [List.take_add_one, h, List.foldl_append]
  rfl
theorem fold_mx (f : Pt → Nat) : ∀ (l : List Pt) (a : Nat), l.foldl (fun m p => max m (f p + 1)) (a + 1) = l.foldl (fun m p => max m (f p)) a + 1
  | [], a => rfl
  | p :: l, a => by
    rw [List.foldl_cons, List.foldl_cons, ← fold_mx f l]
    congr 1
    omega
theorem partTo_all (cs : List (List UInt8)) (d : List Nat) (ps : List Pt) : partTo cs d ps ps.length = mx (valAt cs d) ps + 1 := by
  unfold partTo mx
  rw [List.take_of_length_le (Nat.le_refl _)]
  exact fold_mx (fun p => valAt cs d p.1) ps 0
section
variable {L : List It} (hs : shapedB L = true) (hc : closedI L = true)
include hs hc
theorem part_in {x : It} (hx : x ∈ L) {p : Pt} (hp : p ∈ x.parts) : p.1 ∈ L.map (·.code) :=
  (lastI_isSome L p.1).1 (closedI_get hc x.code x (lastI_mem (shaped_nodup hs) hx) p hp)
/-- An item one of whose parts is not known yet. -/
theorem rnd_zero {d : List Nat} {r i : Nat} (h : Rnd (lastI L) (L.map (·.code)) d r i) {x : It} (hx : L[i]? = some x) {p : Pt} (hp : p ∈ x.parts) (h0 : valAt (L.map (·.code)) d p.1 = 0) : Rnd (lastI L) (L.map (·.code)) (d.set i 0) r (i + 1) := by
  have hxm := List.mem_of_getElem? hx
  refine h.next (c := x.code) (by rw [List.getElem?_map, hx]; rfl) (.inl rfl) (fun e he hle => ?_)
  exfalso
  obtain ⟨f, hf, hfe⟩ := he.part (lastI_mem (shaped_nodup hs) hxm) hp
  have hpi := placeOf_get (part_in hs hc hxm hp)
  have hpl := (List.getElem?_eq_some_iff.1 hpi).1
  obtain ⟨v, hv⟩ : ∃ v, d[placeOf (L.map (·.code)) p.1]? = some v := ⟨_, List.getElem?_eq_getElem (by rw [h.len]; exact hpl)⟩
  have h1 : v = f := h.full _ _ v f hpi hv hf (by split <;> omega)
  unfold valAt at h0
  rw [hv] at h0
  have h2 := hf.pos
  simp only [Option.getD_some] at h0
  omega
/-- An item all of whose parts are known. -/
theorem rnd_known {d : List Nat} {r i : Nat} (h : Rnd (lastI L) (L.map (·.code)) d r i) {x : It} (hx : L[i]? = some x) (hk : ∀ p ∈ x.parts, valAt (L.map (·.code)) d p.1 ≠ 0) : Rnd (lastI L) (L.map (·.code)) (d.set i (partTo (L.map (·.code)) d x.parts x.parts.length)) r (i + 1) := by
  have hxm := List.mem_of_getElem? hx
  have hd : Dp (lastI L) x.code (partTo (L.map (·.code)) d x.parts x.parts.length) := by
    rw [partTo_all]
    refine Dp.mk (lastI_mem (shaped_nodup hs) hxm) _ (fun p hp => ?_)
    have hpi := placeOf_get (part_in hs hc hxm hp)
    have hpl := (List.getElem?_eq_some_iff.1 hpi).1
    obtain ⟨v, hv⟩ : ∃ v, d[placeOf (L.map (·.code)) p.1]? = some v := ⟨_, List.getElem?_eq_getElem (by rw [h.len]; exact hpl)⟩
    have h0 := hk p hp
    unfold valAt at h0 ⊢
    rw [hv] at h0 ⊢
    simp only [Option.getD_some] at h0 ⊢
    rcases h.right _ _ v hpi hv with h1 | h1
    · exact absurd h1 h0
    · exact h1
  exact h.next (c := x.code) (by rw [List.getElem?_map, hx]; rfl) (.inr hd) (fun e he _ => hd.uniq he)
omit hs hc in
theorem rnd_end {d : List Nat} {r : Nat} (h : Rnd (lastI L) (L.map (·.code)) d r 0) (hr : L.length ≤ r) : d = L.map (fun x => (depI L x.code).getD 0) := by
  apply List.ext_getElem?
  intro j
  have hl := h.len
  rw [List.length_map] at hl
  cases hx : L[j]? with
  | none =>
    rw [List.getElem?_map, hx]
    exact List.getElem?_eq_none (by rw [hl]; exact List.getElem?_eq_none_iff.1 hx)
  | some x =>
    rw [List.getElem?_map, hx]
    obtain ⟨v, hv⟩ : ∃ v, d[j]? = some v := ⟨_, List.getElem?_eq_getElem (by rw [hl]; exact (List.getElem?_eq_some_iff.1 hx).1)⟩
    have hcj : (L.map (·.code))[j]? = some x.code := by rw [List.getElem?_map, hx]; rfl
    rw [hv]
    simp only [Option.map_some, Option.some.injEq]
    cases hd : depI L x.code with
    | none =>
      rcases h.right j _ v hcj hv with h1 | h1
      · exact h1
      · rw [h1.depI] at hd; cases hd
    | some e =>
      have he := depI_dp hd
      have hle : e ≤ L.length := by
        have := he.le (K := L.map (·.code)) (fun c x hx => (lastI_isSome L c).1 (by rw [hx]; rfl))
        rwa [List.length_map] at this
      exact h.full j _ v e hcj hv he (by rw [if_neg (by omega)]; omega)
end
end Kt
end Go.Proofs.Ytkdcpnbfeagggaa
end
section
/- storemanref07.Find, deep; the walks. -/
namespace Go.Proofs.Ytkdcpnbfeagggaa
namespace Kt
open Go.ChangeShapes Go.WideShapes Go.ChangeAt Go.RowKit Go.Maps Go.Shelf
set_option linter.unusedVariables false

theorem ret_intD {a b : Int} (h : a = b) : Ending.returned (.int .i64 a) = .returned (.int .i64 b) := by rw [h]
set_option maxHeartbeats 1000000 in
theorem rfind_q (c : List UInt8) (l : List Iv) (A : Option Addr) (cap : Nat) (w : World) (h1 : ISl w w.heap.size (.slice A l.length cap) l) (hl : l.length ≤ 1048576) :
    Calls Try.prog 21 #[.slice A l.length cap, .string ⟨c.toArray⟩] w fun e w' => e = .returned (.int .i64 (idxOf (fun x : Iv => decide (x.it.code = c)) l)) ∧ w' = w := by
  have H1 := Lib.hid h1
  clear h1
  obtain ⟨iv, hiv⟩ : ∃ iv, idxOf (fun x : Iv => decide (x.it.code = c)) l = iv := ⟨_, rfl⟩
  rw [hiv]
  have HIV := Lib.hid hiv
  clear hiv
  go_enter Try.func21, Try.ntmps21
  go_wp2
  go_loopw [5] (fun i wr => wr = w ∧ ∃ k : Nat, k ≤ l.length ∧ i = .int .i64 k ∧ Hid ((l.take k).any (fun x => decide (x.it.code = c)) = false)) (fun i _ => l.length - (intOf i).toNat)
  case atStart => exact ⟨rfl, 0, Nat.zero_le _, rfl, Lib.hid (by simp)⟩
  case round =>
    obtain ⟨rfl, k, hk, rfl, HTK⟩ := hrel
    by_cases hlt : k < l.length
    · obtain ⟨x, hx⟩ : ∃ x, l[k]? = some x := ⟨_, List.getElem?_eq_getElem hlt⟩
      obtain ⟨ap, rfl, _, x0, x1, x2, x3⟩ := ISl.at_k H1.out hx
      have HP := Lib.hid hx
      clear hx
      by_cases hpq : x.it.code = c
      · have hh := idxOf_hit (fun x : Iv => decide (x.it.code = c)) l k x HP.out (decide_eq_true hpq) HTK.out
        rw [HIV.out] at hh
        have HH := Lib.hid hh
        rw [hpq] at x0
        clear hh hpq
        go_wp2
        go_ret
        exact ⟨ret_intD HH.out.symm, rfl⟩
      · have hbe : (x.it.code == c) = false := beq_eq_false_iff_ne.2 hpq
        have HPQ := Lib.hid hpq
        clear hpq
        go_wp2
        go_roundw
        case rel => exact ⟨trivial, k + 1, by omega, by go_num, Lib.hid (any_take_succ _ HP.out HTK.out (decide_eq_false HPQ.out))⟩
        case measure => simp [intOf]; omega
    · obtain rfl : k = l.length := by omega
      have h := HTK.out
      rw [List.take_of_length_le (Nat.le_refl _)] at h
      have hh := idxOf_none _ _ h
      rw [HIV.out] at hh
      have HH := Lib.hid hh
      clear hh h
      go_wp2
      go_ret
      exact ⟨ret_intD HH.out.symm, rfl⟩
theorem idx_place {l : List Iv} {c : List UInt8} (h : c ∈ (l.map (·.it)).map (·.code)) : idxOf (fun x : Iv => decide (x.it.code = c)) l = (placeOf ((l.map (·.it)).map (·.code)) c : Nat) ∧ placeOf ((l.map (·.it)).map (·.code)) c < l.length := by
  have hg := placeOf_get h
  have hlt := (List.getElem?_eq_some_iff.1 hg).1
  rw [List.length_map, List.length_map] at hlt
  obtain ⟨x, hx⟩ : ∃ x, l[placeOf ((l.map (·.it)).map (·.code)) c]? = some x := ⟨_, List.getElem?_eq_getElem hlt⟩
  have hxc : x.it.code = c := by
    rw [List.getElem?_map, List.getElem?_map, hx] at hg
    simpa using hg
  refine ⟨idxOf_hit _ _ _ _ hx (decide_eq_true hxc) ?_, hlt⟩
  rw [List.any_eq_false]
  intro y hy
  obtain ⟨j, hj⟩ := List.getElem?_of_mem hy
  have hjp : j < placeOf ((l.map (·.it)).map (·.code)) c := by have := (List.getElem?_eq_some_iff.1 hj).1; rw [List.length_take] at this; omega
  rw [List.getElem?_take, if_pos hjp] at hj
  have hn : ¬ decide (((l.map (·.it)).map (·.code))[j]'(by rw [List.length_map, List.length_map]; omega) = c) = true := by
    unfold placeOf at hjp
    cases hf : ((l.map (·.it)).map (·.code)).findIdx? (fun a => decide (a = c)) with
    | none => rw [hf] at hjp; simp at hjp
    | some k =>
      rw [hf] at hjp
      simp only [Option.getD_some] at hjp
      obtain ⟨_, _, h3⟩ := List.findIdx?_eq_some_iff_getElem.1 hf
      exact h3 j hjp
  have hyc : ((l.map (·.it)).map (·.code))[j]'(by rw [List.length_map, List.length_map]; omega) = y.it.code := by
    rw [List.getElem_map, List.getElem_map, (List.getElem?_eq_some_iff.1 hj).2]
  rw [hyc] at hn
  simpa using hn

def dcells (d : List Nat) : List Value := d.map (fun n => Value.int .i64 (n : Nat))
theorem dcells_set (d : List Nat) (i v : Nat) : (dcells d).set i (.int .i64 (v : Nat)) = dcells (d.set i v) := by
  unfold dcells
  rw [List.map_set]
theorem val_le {L : List It} {d : List Nat} {r i : Nat} (h : Rnd (lastI L) (L.map (·.code)) d r i) {c : List UInt8} {v : Nat} (hv : d[placeOf (L.map (·.code)) c]? = some v) (hc : c ∈ L.map (·.code)) : v ≤ L.length := by
  rcases h.right _ _ v (placeOf_get hc) hv with h1 | h1
  · omega
  · have := h1.le (K := L.map (·.code)) (fun c x hx => (lastI_isSome L c).1 (by rw [hx]; rfl))
    rwa [List.length_map] at this
theorem intI : (Try.prog.info? 3).map (fun i => (i.zero, i.size, i.bytes)) = some (some (.int .i64 0), 1, 8) := by kernel_rfl
def DeepTo (L : List It) (n : Nat) (w : World) (e : Ending) (w' : World) : Prop := ∃ g, e = .returned (.slice (some ⟨g, 0, none⟩) n n) ∧ w'.ownsRow w.heap.size 3 1 (.slice (some ⟨g, 0, none⟩) n n) n (dcells (L.map (fun x => (depI L x.code).getD 0))) ∧ Go.RowKit.Below w.heap.size w w'
set_option maxRecDepth 100000 in
set_option maxHeartbeats 4000000 in
theorem rdeep_any (v : Value) (l : List Iv) (w : World) (hv : ISl w w.heap.size v l) (hlen : l.length ≤ 1048576) (hps : ∀ x ∈ l, x.it.parts.length ≤ 1048576) (hsh : shapedB (l.map (·.it)) = true) (hcl : closedI (l.map (·.it)) = true) :
    Calls Try.prog 22 #[v] w (DeepTo (l.map (·.it)) l.length w) := by
  obtain ⟨i0, hi0, hz0, hz1, hz2⟩ := info_parts intI
  have I1 := Lib.hid hi0
  have I2 := Lib.hid hz0
  have I3 := Lib.hid hz1
  have I4 := Lib.hid hz2
  obtain ⟨⟨A, c, rfl, hc1, hc2, hcz, _⟩, _⟩ := id hv
  have HV := Lib.hid hv
  have HPS := Lib.hid hps
  have HSH := Lib.hid hsh
  have HCL := Lib.hid hcl
  obtain ⟨n, hn⟩ : ∃ n, l.length = n := ⟨_, rfl⟩
  have HN := Lib.hid hn
  have hln : (l.map (·.it)).length = n := by rw [List.length_map, hn]
  have HLN := Lib.hid hln
  rw [hn] at hlen hc1
  obtain ⟨L, hL⟩ : ∃ L, l.map (·.it) = L := ⟨_, rfl⟩
  have HL := Lib.hid hL
  rw [hL] at HSH HCL HLN ⊢
  have HVV : Hid (ISl w w.heap.size (.slice A n c) l) := Lib.hid (by rw [← hn]; exact hv)
  rw [hn]
  clear hi0 hz0 hz1 hz2 hv hps hsh hcl hn hln HV hL
  go_enter Try.func22, Try.ntmps22
  go_wp2_with (at_make; refine wpList_make_full _ rfl _ _ 49 rfl w.heap.size 3 i0 (.int .i64 0) 1 Try.underlying49 I1.out I2.out I3.out .i64 .i64 _ _ n rfl rfl rfl rfl (by rw [I4.out]; omega) (by unfold maxLen; omega) (Nat.le_refl _) ?_; intro w1 hgs hg1)
  have HB1 : Hid (Go.RowKit.Below w.heap.size w w1) := Lib.hid ((Below.refl _ _).grown hg1 (Nat.le_refl _) (fun j hj => by cases hj))
  have HR0 : Hid (w1.ownsRow w.heap.size 3 1 (.slice (some ⟨w.heap.size, 0, none⟩) n n) n (dcells (List.replicate n 0))) := Lib.hid (by
    have h := hgs
    rw [Nat.mul_one, show (madeCells (Value.int .i64 0).cells n).toList = List.replicate n (.int .i64 0) from toList_madeCells_one _ _] at h
    unfold dcells
    rw [List.map_replicate]
    exact h)
  clear hgs hg1 I1 I2 I3 I4
  obtain ⟨g, hgE, hgw⟩ : ∃ g, w.heap.size = g ∧ w.heap.size ≤ g := ⟨_, rfl, Nat.le_refl _⟩
  rw [hgE] at HR0 ⊢
  clear hgE
  go_loopw [4] (fun i wr => ∃ (r : Nat) (d : List Nat), r ≤ n + 1 ∧ i = .int .i64 r ∧ Hid (Rnd (lastI L) (L.map (·.code)) d r 0) ∧ Hid (wr.ownsRow g 3 1 (.slice (some ⟨g, 0, none⟩) n n) n (dcells d)) ∧ Hid (Go.RowKit.Below w.heap.size w wr)) (fun i _ => n + 1 - (intOf i).toNat)
  case atStart => exact ⟨0, List.replicate n 0, Nat.zero_le _, rfl, Lib.hid (by have h := Rnd.start (lastI L) (L.map (·.code)); rwa [List.length_map, HLN.out] at h), HR0, HB1⟩
  case round =>
    clear HR0 HB1
    obtain ⟨r, d, hr, rfl, HD, HR, HB⟩ := hrel
    by_cases hlt : r ≤ n
    · obtain ⟨wo, rfl⟩ : ∃ wo : World, wo = wr := ⟨_, rfl⟩
      go_wp2
      go_loopw [5] (fun i wr => ∃ (k : Nat) (d : List Nat), k ≤ n ∧ i = .int .i64 k ∧ Hid (Rnd (lastI L) (L.map (·.code)) d r k) ∧ Hid (wr.ownsRow g 3 1 (.slice (some ⟨g, 0, none⟩) n n) n (dcells d)) ∧ Hid (Go.RowKit.Below w.heap.size w wr)) (fun i _ => n - (intOf i).toNat)
      case atStart => exact ⟨0, d, Nat.zero_le _, rfl, HD, HR, HB⟩
      case round =>
        clear HD HR HB
        obtain ⟨k, d, hk, rfl, HD, HR, HB⟩ := hrel
        by_cases hkn : k < n
        · obtain ⟨x, hx⟩ : ∃ x, l[k]? = some x := ⟨_, List.getElem?_eq_getElem (by rw [HN.out]; exact hkn)⟩
          have hxm := List.mem_of_getElem? hx
          have HXL : Hid (L[k]? = some x.it) := Lib.hid (by rw [← HL.out, List.getElem?_map, hx]; rfl)
          obtain ⟨wo, rfl⟩ : ∃ wo : World, wo = wr := ⟨_, rfl⟩
          have HVo : Hid (ISl wo wo.heap.size (.slice A n c) l) := Lib.hid (HVV.out.at_ HB.out)
          obtain ⟨ap, rfl, _, x0, x1, x2, x3⟩ := ISl.at_k HVo.out hx
          have HSB := Lib.hid (HVo.out.2 x hxm)
          have HPL := Lib.hid (HPS.out x hxm)
          have HXM := Lib.hid hxm
          have HPI : Hid (∀ p ∈ x.it.parts, p.1 ∈ L.map (·.code)) := Lib.hid (fun p hp => part_in HSH.out HCL.out (List.mem_of_getElem? HXL.out) hp)
          clear hx hxm
          obtain ⟨⟨code, life, ps⟩, os, pv, ov⟩ := x
          obtain ⟨Ap, cp, Ao, co, rfl, rfl, hcp, hcq⟩ := HSB.out.form
          simp only at *
          have HF : Hid (∀ p ∈ ps, ∃ q v : Nat, q < n ∧ d[q]? = some v ∧ v ≤ n ∧ valAt (L.map (·.code)) d p.1 = v ∧ Calls Try.prog 21 #[.slice (some ap) n c, strV p.1] wo fun e w' => e = .returned (.int .i64 (q : Nat)) ∧ w' = wo) := Lib.hid (by
            intro p hp
            have hpi := HPI.out p hp
            have hip := idx_place (l := l) (c := p.1) (by rw [HL.out]; exact hpi)
            rw [HL.out, HN.out] at hip
            have hln := HD.out.len
            rw [List.length_map, HLN.out] at hln
            obtain ⟨v, hv⟩ : ∃ v, d[placeOf (L.map (·.code)) p.1]? = some v := ⟨_, List.getElem?_eq_getElem (by rw [hln]; exact hip.2)⟩
            have hvl := val_le HD.out hv hpi
            rw [HLN.out] at hvl
            refine ⟨_, v, hip.2, hv, hvl, by unfold valAt; rw [hv]; rfl, ?_⟩
            have h := rfind_q p.1 l (some ap) c wo (by rw [HN.out]; exact HVo.out) (by rw [HN.out]; exact hlen)
            rw [HN.out, hip.1] at h
            exact h)
          have hYl := HR.out.1
          obtain ⟨y, hy⟩ : ∃ y, (dcells d)[k]? = some y := ⟨_, List.getElem?_eq_getElem (by omega)⟩
          have hcy := (HR.out.cellAt k (by omega)).trans hy
          have hfy := HR.out.frozenAt k
          have hgl := (HR.out.lt g rfl).2
          clear hy hYl HXM HPI
          go_wp2
          go_loopw [6, 7] (fun m i wr => wr = wo ∧ ∃ j a : Nat, j ≤ ps.length ∧ i = .int .i64 j ∧ m = .int .i64 a ∧ a ≤ n + 1 ∧ Hid (partTo (L.map (·.code)) d ps j = a) ∧ Hid (∀ p ∈ ps.take j, valAt (L.map (·.code)) d p.1 ≠ 0)) (fun _ i _ => ps.length - (intOf i).toNat)
          case atStart => exact ⟨rfl, 0, 1, Nat.zero_le _, rfl, rfl, by omega, Lib.hid (partTo_zero _ _ _), Lib.hid (by simp)⟩
          case round =>
            obtain ⟨rfl, j, a, hj, rfl, rfl, ha, HPT, HNZ⟩ := hrel
            by_cases hjl : j < ps.length
            · obtain ⟨p, hp⟩ : ∃ p, ps[j]? = some p := ⟨_, List.getElem?_eq_getElem hjl⟩
              obtain ⟨aq, rfl, _, q0, q1⟩ := PSl.at_k HSB.out.parts hp
              obtain ⟨q, v, hqn, hqv, hvn, HVA', hfc⟩ := HF.out p (List.mem_of_getElem? hp)
              have HFC := Lib.hid hfc
              have HVA := Lib.hid HVA'
              have hcq := (HR.out.cellAt q (by omega)).trans (show (dcells d)[q]? = some (.int .i64 (v : Nat)) by unfold dcells; rw [List.getElem?_map, hqv]; rfl)
              have HP := Lib.hid hp
              clear hp hfc HVA' hqv
              by_cases hv0 : v = 0
              · subst hv0
                go_wp2_with (go_at_call 21; (with_reducible refine HFC.out.mono ?_); rintro e w2 ⟨rfl, rfl⟩)
                go_roundw
                case rel => exact ⟨k + 1, d.set k 0, by omega, by go_num, Lib.hid (rnd_zero HSH.out HCL.out HD.out HXL.out (List.mem_of_getElem? HP.out) HVA.out), Lib.hid (by have h := (HR.out.stored k (.int .i64 ((0 : Nat) : Int))).1; rw [dcells_set] at h; exact h), Lib.hid (HB.out.setCell (p := ⟨g, k, none⟩) hgw _)⟩
                case measure => simp [intOf]; omega
              · have hpl := HPL.out
                go_wp2_with (go_at_call 21; (with_reducible refine HFC.out.mono ?_); rintro e w2 ⟨rfl, rfl⟩)
                go_roundw
                case rel => exact ⟨trivial, j + 1, max a (v + 1), by omega, by go_num, by go_num, by omega, Lib.hid (by rw [partTo_succ HP.out, HPT.out, HVA.out]), Lib.hid (by rw [List.take_add_one, HP.out]; intro p' hp'; rcases List.mem_append.1 hp' with h | h; exact HNZ.out p' h; obtain rfl : p' = p := (by simpa using h); rw [HVA.out]; exact hv0)⟩
                case measure => simp [intOf]; omega
            · obtain rfl : j = ps.length := by omega
              go_wp2
              go_roundw
              case rel => exact ⟨k + 1, d.set k a, by omega, by go_num, Lib.hid (by have h := rnd_known HSH.out HCL.out HD.out HXL.out (by have h := HNZ.out; rw [List.take_of_length_le (Nat.le_refl _)] at h; exact h); rw [HPT.out] at h; exact h), Lib.hid (by have h := (HR.out.stored k (.int .i64 ((a : Nat) : Int))).1; rw [dcells_set] at h; exact h), Lib.hid (HB.out.setCell (p := ⟨g, k, none⟩) hgw _)⟩
              case measure => simp [intOf]; omega
        · obtain rfl : k = n := by omega
          go_wp2
          go_roundw
          case rel => exact ⟨r + 1, d, by omega, by go_num, Lib.hid (Rnd.turn (by have h := HD.out; rwa [← HLN.out, ← List.length_map (f := fun x : It => x.code)] at h)), HR, HB⟩
          case measure => simp [intOf]; omega
    · obtain rfl : r = n + 1 := by omega
      have hE : d = L.map (fun x => (depI L x.code).getD 0) := rnd_end HD.out (by rw [HLN.out]; omega)
      subst hE
      go_wp2
      go_ret
      exact ⟨_, rfl, base_less HR.out hgw, HB.out⟩
end Kt
end Go.Proofs.Ytkdcpnbfeagggaa
end
section
/- storemanref07.shape: kept, or a kit. -/
namespace Go.Proofs.Ytkdcpnbfeagggaa
namespace Kt
open Go.ChangeShapes Go.WideShapes Go.ChangeAt Go.RowKit Go.Maps Go.Shelf
set_option linter.unusedVariables false

set_option maxRecDepth 100000 in
set_option maxHeartbeats 4000000 in
theorem rshape_any (x : Iv) (B : Nat) (w : World) (hB : B ≤ w.heap.size) (h : ISub w B x) (hn : x.it.parts.length ≤ 1099511627776) : Calls Try.prog 20 #[aggI x] w fun e w' => e = .returned (.bool (keptB x.it || kitB x.it)) ∧ Go.RowKit.Below w.heap.size w w' := by
  obtain ⟨⟨code, life, ps⟩, others, pv, ov⟩ := x
  obtain ⟨⟨A, c, hpv, hc1, hc2, hcz, hl⟩, _⟩ := h
  simp only at hpv hc1 hl hn
  subst hpv
  have hb0 : Go.RowKit.Below w.heap.size w (w.alloc (.cells #[.string ⟨code.toArray⟩, .int .i64 life, .slice A ps.length c, ov] 32)) := below_alloc1 _ _
  have hbx := (Box4.new w ⟨⟨code, life, ps⟩, others, .slice A ps.length c, ov⟩)
  obtain ⟨v, hv⟩ : ∃ v, (keptB ⟨code, life, ps⟩ || kitB ⟨code, life, ps⟩) = v := ⟨_, rfl⟩
  simp only [hv]
  unfold kitB keptB at hv
  simp only at hv
  obtain ⟨n, hN⟩ : ∃ n, ps.length = n := ⟨_, rfl⟩
  rw [hN] at hv hn hb0 hbx hc1 ⊢
  have HN := Lib.hid hN
  clear hN
  by_cases h0 : n = 0
  · subst h0
    go_enter Try.func20, Try.ntmps20
    obtain ⟨d0, e1, e2, e3⟩ := hbx.cells
    simp only at d0 e1 e2 e3
    by_cases h1 : 1 ≤ life
    · by_cases h2 : life ≤ 2000
      · go_wp2
        go_ret
        exact ⟨Cd.ret_bool (by rw [← hv, decide_eq_true h1]; simp [h2]), hb0⟩
      · go_wp2
        go_ret
        exact ⟨Cd.ret_bool (by rw [← hv, decide_eq_true h1]; simp [h2]), hb0⟩
    · go_wp2
      go_ret
      exact ⟨Cd.ret_bool (by rw [← hv]; simp; omega), hb0⟩
  · by_cases h1 : life = 0
    · subst h1
      by_cases h3 : n ≤ 8
      · have HV : Hid (partsB ps = v) := Lib.hid (by simpa [h0, h3, show 1 ≤ n by omega] using hv)
        have HL := Lib.hid hl
        have HX := Lib.hid hbx
        have HB0 := Lib.hid hb0
        clear hl hbx hb0 hv
        go_enter Try.func20, Try.ntmps20
        obtain ⟨d0, e1, e2, e3⟩ := HX.out.cells
        simp only at d0 e1 e2 e3
        go_wp2
        obtain ⟨W, hW⟩ : ∃ W, W = w.alloc (.cells #[strV code, .int .i64 0, .slice A n c, ov] 32) := ⟨_, rfl⟩
        have HBW : Hid (Go.RowKit.Below w.heap.size w W) := Lib.hid (by rw [hW]; exact HB0.out)
        obtain ⟨b, hb, hbW⟩ : ∃ b, w.heap.size = b ∧ b < W.heap.size := ⟨_, rfl, by rw [hW]; simp⟩
        have hLW : Lies W W.heap.size A (pcells ps) := ((HL.out.mono hB).below HBW.out).mono HBW.out.size
        rw [← hW] at d0 e1 e2 e3 ⊢
        rw [hb] at d0 e1 e2 e3 ⊢
        have HLW := Lib.hid hLW
        have HE2 := Lib.hid e2
        clear hW hb hLW HX HL HB0 d0 e1 e2 e3
        go_loopw [3] (fun i wr => ∃ k : Nat, k ≤ n ∧ i = .int .i64 k ∧ Hid (∀ j, j < k → freshB ps j = true) ∧ Hid (Go.RowKit.Below W.heap.size W wr)) (fun i _ => n - (intOf i).toNat)
        case atStart => exact ⟨0, Nat.zero_le _, rfl, Lib.hid (by omega), Lib.hid (Below.refl _ _)⟩
        case round =>
          obtain ⟨k, hk, rfl, HF, HBR⟩ := hrel
          have e2 : wr.cell? ⟨b, 2, none⟩ = some (.slice A n c) := (HBR.out.cell (p := ⟨b, 2, none⟩) hbW).trans HE2.out
          by_cases hlt : k < n
          · obtain ⟨p, hp⟩ : ∃ p, ps[k]? = some p := ⟨_, List.getElem?_eq_getElem (by rw [HN.out]; exact hlt)⟩
            obtain ⟨ad, rfl, hab, x0, x1⟩ := (HLW.out.below HBR.out).part hp
            have HP := Lib.hid hp
            obtain ⟨pi, pq⟩ := p
            have HFR : Hid (freshB ps k = (decide (1 ≤ pq) && (decide (pq ≤ 1073741824) && !(ps.take k).any (fun o => decide (o.1 = pi))))) := Lib.hid (by unfold freshB; rw [hp])
            have HNO : Hid (freshB ps k = false → v = false) := Lib.hid (fun h => by rw [← HV.out]; exact partsB_no (by rw [HN.out]; exact hlt) h)
            simp only at x0 x1
            clear hp
            by_cases h4 : 1 ≤ pq
            · have d4 : decide (pq < 1) = false := decide_eq_false (by omega)
              by_cases h5 : pq ≤ 1073741824
              · have d5 : decide (1073741824 < pq) = false := decide_eq_false (by omega)
                go_wp2
                clear x0 x1 e2
                go_loopw [4] (fun i wr' => ∃ j : Nat, j ≤ k ∧ i = .int .i64 j ∧ Hid ((ps.take j).any (fun o => decide (o.1 = pi)) = false) ∧ Hid (Go.RowKit.Below W.heap.size W wr')) (fun i _ => k - (intOf i).toNat)
                case atStart => exact ⟨0, Nat.zero_le _, rfl, Lib.hid (by simp), HBR⟩
                case round =>
                  clear HBR
                  obtain ⟨j, hj, rfl, HA, HBR⟩ := hrel
                  have e2 : wr.cell? ⟨b, 2, none⟩ = some (.slice (some ad) n c) := (HBR.out.cell (p := ⟨b, 2, none⟩) hbW).trans HE2.out
                  by_cases hjk : j < k
                  · have hjn : j < n := by omega
                    obtain ⟨⟨oi, oq⟩, ho⟩ : ∃ o, ps[j]? = some o := ⟨_, List.getElem?_eq_getElem (by rw [HN.out]; omega)⟩
                    obtain ⟨ad', e', hab', y0, y1⟩ := (HLW.out.below HBR.out).part ho
                    cases e'
                    obtain ⟨ad'', e'', hab'', x0, x1⟩ := (HLW.out.below HBR.out).part HP.out
                    cases e''
                    simp only at y0 y1 x0 x1
                    have HO := Lib.hid ho
                    clear ho
                    by_cases he : oi = pi
                    · have hno : Hid (v = false) := Lib.hid (HNO.out (by
                        rw [HFR.out, List.any_eq_true.2 ⟨(oi, oq), List.mem_of_getElem? (i := j) (by rw [List.getElem?_take, if_pos hjk]; exact HO.out), by simpa using he⟩]
                        simp))
                      subst he
                      go_wp2
                      go_quiet (fail)
                      go_wp2
                      go_ret
                      exact ⟨Cd.ret_bool hno.out.symm, below_draws (HBW.out.trans (HBR.out.mono HBW.out.size)) _⟩
                    · have hbe : (oi == pi) = false := beq_eq_false_iff_ne.2 he
                      have hst : Hid ((ps.take (j + 1)).any (fun o => decide (o.1 = pi)) = false) := Lib.hid (any_take_succ _ HO.out HA.out (decide_eq_false he))
                      go_wp2
                      go_quiet (fail)
                      go_wp2
                      go_roundw
                      case rel => exact ⟨j + 1, by omega, by go_num, hst, Lib.hid (below_draws HBR.out _)⟩
                      case measure => simp [intOf]; omega
                  · obtain rfl : j = k := by omega
                    have hst : Hid (∀ i, i < j + 1 → freshB ps i = true) := Lib.hid (fun i hi => by
                      by_cases e : i = j
                      · subst e; rw [HFR.out, decide_eq_true h4, decide_eq_true h5, HA.out]; rfl
                      · exact HF.out i (by omega))
                    go_wp2
                    go_roundw
                    case rel => exact ⟨j + 1, by omega, by go_num, hst, HBR⟩
                    case measure => simp [intOf]; omega
              · have d5 : decide (1073741824 < pq) = true := decide_eq_true (by omega)
                have hno : Hid (v = false) := Lib.hid (HNO.out (by rw [HFR.out, decide_eq_false h5]; simp))
                go_wp2
                go_ret
                exact ⟨Cd.ret_bool hno.out.symm, HBW.out.trans (HBR.out.mono HBW.out.size)⟩
            · have d4 : decide (pq < 1) = true := decide_eq_true (by omega)
              have hno : Hid (v = false) := Lib.hid (HNO.out (by rw [HFR.out, decide_eq_false h4]; simp))
              go_wp2
              go_ret
              exact ⟨Cd.ret_bool hno.out.symm, HBW.out.trans (HBR.out.mono HBW.out.size)⟩
          · obtain rfl : k = n := by omega
            have hyes : Hid (v = true) := Lib.hid (by rw [← HV.out]; exact partsB_yes (by rw [HN.out]; exact HF.out))
            go_wp2
            go_ret
            exact ⟨Cd.ret_bool hyes.out.symm, HBW.out.trans (HBR.out.mono HBW.out.size)⟩
      · go_enter Try.func20, Try.ntmps20
        obtain ⟨d0, e1, e2, e3⟩ := hbx.cells
        simp only at d0 e1 e2 e3
        go_wp2
        go_ret
        exact ⟨Cd.ret_bool (by rw [← hv]; simp [h0, h3]), hb0⟩
    · have d1 : (life != 0) = true := by simp [h1]
      go_enter Try.func20, Try.ntmps20
      obtain ⟨d0, e1, e2, e3⟩ := hbx.cells
      simp only at d0 e1 e2 e3
      go_wp2
      go_ret
      exact ⟨Cd.ret_bool (by rw [← hv]; simp [h0, h1]), hb0⟩
end Kt
end Go.Proofs.Ytkdcpnbfeagggaa
end
section
/- The contract of the reference's Right. -/
namespace Go.Proofs.Ytkdcpnbfeagggaa
namespace Cd
open Go.ChangeShapes Go.WideShapes Go.ChangeAt Go.RowKit
set_option linter.unusedVariables false

set_option maxHeartbeats 2000000 in
theorem rright_any (s : ByteArray) (w : World) :
    Calls Try.prog 19 #[.string s] w fun e w' => e = .returned (.bool (rightL s.data.toList)) ∧ w = w' := by
  by_cases hs1 : 1 ≤ s.size
  · by_cases hs2 : s.size ≤ 12
    · go_enter Try.func19, Try.ntmps19
      go_wp2_with fail
      go_loop [3] (fun i => ∃ pos : Nat, pos ≤ s.size ∧ i = .int .i64 pos ∧ Hid (allOk 0 (s.data.toList.take pos) = true)) (fun i => s.size - (intOf i).toNat)
      case atStart => exact ⟨0, Nat.zero_le _, rfl, Lib.hid rfl⟩
      case round =>
        obtain ⟨pos, hpos, rfl, HA⟩ := hrel
        by_cases hp : pos < s.size
        · have hc := get_list s pos hp
          by_cases hu : 65 ≤ (s[pos]'hp).toNat ∧ (s[pos]'hp).toNat ≤ 90
          · have hok : okAt pos s[pos] = true := by simp [okAt, upB, hu]
            have hst := allOk_step HA.out hc hok
            have HST := Lib.hid hst
            have hd1 : decide ((48 : Int) ≤ ((s[pos]'hp).toNat : Int)) = true := decide_eq_true (by omega)
            have hd2 : decide (((s[pos]'hp).toNat : Int) ≤ 57) = false := decide_eq_false (by omega)
            have hd3 : (((s[pos]'hp).toNat : Int) == 45) = false := by simp; omega
            clear hst hok hc
            go_wp2
            go_round
            case rel => exact ⟨pos + 1, by omega, by go_num, HST⟩
            case measure => simp [intOf]; omega
          · by_cases hB : 90 < (s[pos]'hp).toNat
            · by_cases hz : pos = 0
              · subst hz
                have hok : okAt 0 s[0] = false := by simp [okAt, upB]; omega
                have hno := rightL_no hc hok
                have HNO := Lib.hid hno
                have hd0 : decide ((65 : Int) ≤ ((s[0]'hp).toNat : Int)) = true := decide_eq_true (by omega)
                have hd1 : decide (((s[0]'hp).toNat : Int) ≤ 90) = false := decide_eq_false (by omega)
                have hd2 : decide ((48 : Int) ≤ ((s[0]'hp).toNat : Int)) = true := decide_eq_true (by omega)
                have hd3 : decide (((s[0]'hp).toNat : Int) ≤ 57) = false := decide_eq_false (by omega)
                have hd4 : (((s[0]'hp).toNat : Int) == 45) = false := by simp; omega
                clear hno hok hc
                go_wp2
                go_ret
                exact ⟨ret_bool HNO.out.symm, rfl⟩
              · have hz1 : ((pos : Int) == 0) = false := by simp; omega
                have hok : okAt pos s[pos] = false := by simp [okAt, upB, inB]; omega
                have hno := rightL_no hc hok
                have HNO := Lib.hid hno
                have hd0 : decide ((65 : Int) ≤ ((s[pos]'hp).toNat : Int)) = true := decide_eq_true (by omega)
                have hd1 : decide (((s[pos]'hp).toNat : Int) ≤ 90) = false := decide_eq_false (by omega)
                have hd2 : decide ((48 : Int) ≤ ((s[pos]'hp).toNat : Int)) = true := decide_eq_true (by omega)
                have hd3 : decide (((s[pos]'hp).toNat : Int) ≤ 57) = false := decide_eq_false (by omega)
                have hd4 : (((s[pos]'hp).toNat : Int) == 45) = false := by simp; omega
                have HZ := Lib.hid hz
                clear hno hok hc hz
                go_wp2
                go_ret
                exact ⟨ret_bool HNO.out.symm, rfl⟩
            · by_cases hC : 57 < (s[pos]'hp).toNat
              · by_cases hz : pos = 0
                · subst hz
                  have hok : okAt 0 s[0] = false := by simp [okAt, upB]; omega
                  have hno := rightL_no hc hok
                  have HNO := Lib.hid hno
                  have hd0 : decide ((65 : Int) ≤ ((s[0]'hp).toNat : Int)) = false := decide_eq_false (by omega)
                  have hd1 : decide ((48 : Int) ≤ ((s[0]'hp).toNat : Int)) = true := decide_eq_true (by omega)
                  have hd2 : decide (((s[0]'hp).toNat : Int) ≤ 57) = false := decide_eq_false (by omega)
                  have hd3 : (((s[0]'hp).toNat : Int) == 45) = false := by simp; omega
                  clear hno hok hc
                  go_wp2
                  go_ret
                  exact ⟨ret_bool HNO.out.symm, rfl⟩
                · have hz1 : ((pos : Int) == 0) = false := by simp; omega
                  have hok : okAt pos s[pos] = false := by simp [okAt, upB, inB]; omega
                  have hno := rightL_no hc hok
                  have HNO := Lib.hid hno
                  have hd0 : decide ((65 : Int) ≤ ((s[pos]'hp).toNat : Int)) = false := decide_eq_false (by omega)
                  have hd1 : decide ((48 : Int) ≤ ((s[pos]'hp).toNat : Int)) = true := decide_eq_true (by omega)
                  have hd2 : decide (((s[pos]'hp).toNat : Int) ≤ 57) = false := decide_eq_false (by omega)
                  have hd3 : (((s[pos]'hp).toNat : Int) == 45) = false := by simp; omega
                  have HZ := Lib.hid hz
                  clear hno hok hc hz
                  go_wp2
                  go_ret
                  exact ⟨ret_bool HNO.out.symm, rfl⟩
              · by_cases hD : 48 ≤ (s[pos]'hp).toNat
                · by_cases hz : pos = 0
                  · subst hz
                    have hok : okAt 0 s[0] = false := by simp [okAt, upB]; omega
                    have hno := rightL_no hc hok
                    have HNO := Lib.hid hno
                    have hd0 : decide ((65 : Int) ≤ ((s[0]'hp).toNat : Int)) = false := decide_eq_false (by omega)
                    have hd1 : decide ((48 : Int) ≤ ((s[0]'hp).toNat : Int)) = true := decide_eq_true (by omega)
                    have hd2 : decide (((s[0]'hp).toNat : Int) ≤ 57) = true := decide_eq_true (by omega)
                    clear hno hok hc
                    go_wp2
                    go_ret
                    exact ⟨ret_bool HNO.out.symm, rfl⟩
                  · have hz1 : ((pos : Int) == 0) = false := by simp; omega
                    have hok : okAt pos s[pos] = true := by simp [okAt, inB, hz]; right; omega
                    have hst := allOk_step HA.out hc hok
                    have HST := Lib.hid hst
                    have hd0 : decide ((65 : Int) ≤ ((s[pos]'hp).toNat : Int)) = false := decide_eq_false (by omega)
                    have hd1 : decide ((48 : Int) ≤ ((s[pos]'hp).toNat : Int)) = true := decide_eq_true (by omega)
                    have hd2 : decide (((s[pos]'hp).toNat : Int) ≤ 57) = true := decide_eq_true (by omega)
                    have HZ := Lib.hid hz
                    clear hst hok hc hz
                    go_wp2
                    go_round
                    case rel => exact ⟨pos + 1, by omega, by go_num, HST⟩
                    case measure => simp [intOf]; omega
                · by_cases hF : (s[pos]'hp).toNat = 45
                  · by_cases hz : pos = 0
                    · subst hz
                      have hok : okAt 0 s[0] = false := by simp [okAt, upB]; omega
                      have hno := rightL_no hc hok
                      have HNO := Lib.hid hno
                      have hd0 : decide ((65 : Int) ≤ ((s[0]'hp).toNat : Int)) = false := decide_eq_false (by omega)
                      have hd1 : decide ((48 : Int) ≤ ((s[0]'hp).toNat : Int)) = false := decide_eq_false (by omega)
                      have hd2 : (((s[0]'hp).toNat : Int) == 45) = true := by simp; omega
                      clear hno hok hc
                      go_wp2
                      go_ret
                      exact ⟨ret_bool HNO.out.symm, rfl⟩
                    · have hz1 : ((pos : Int) == 0) = false := by simp; omega
                      have hok : okAt pos s[pos] = true := by simp [okAt, inB, hz]; right; omega
                      have hst := allOk_step HA.out hc hok
                      have HST := Lib.hid hst
                      have hd0 : decide ((65 : Int) ≤ ((s[pos]'hp).toNat : Int)) = false := decide_eq_false (by omega)
                      have hd1 : decide ((48 : Int) ≤ ((s[pos]'hp).toNat : Int)) = false := decide_eq_false (by omega)
                      have hd2 : (((s[pos]'hp).toNat : Int) == 45) = true := by simp; omega
                      have HZ := Lib.hid hz
                      clear hst hok hc hz
                      go_wp2
                      go_round
                      case rel => exact ⟨pos + 1, by omega, by go_num, HST⟩
                      case measure => simp [intOf]; omega
                  · by_cases hz : pos = 0
                    · subst hz
                      have hok : okAt 0 s[0] = false := by simp [okAt, upB]; omega
                      have hno := rightL_no hc hok
                      have HNO := Lib.hid hno
                      have hd0 : decide ((65 : Int) ≤ ((s[0]'hp).toNat : Int)) = false := decide_eq_false (by omega)
                      have hd1 : decide ((48 : Int) ≤ ((s[0]'hp).toNat : Int)) = false := decide_eq_false (by omega)
                      have hd2 : (((s[0]'hp).toNat : Int) == 45) = false := by simp; omega
                      clear hno hok hc
                      go_wp2
                      go_ret
                      exact ⟨ret_bool HNO.out.symm, rfl⟩
                    · have hz1 : ((pos : Int) == 0) = false := by simp; omega
                      have hok : okAt pos s[pos] = false := by simp [okAt, upB, inB]; omega
                      have hno := rightL_no hc hok
                      have HNO := Lib.hid hno
                      have hd0 : decide ((65 : Int) ≤ ((s[pos]'hp).toNat : Int)) = false := decide_eq_false (by omega)
                      have hd1 : decide ((48 : Int) ≤ ((s[pos]'hp).toNat : Int)) = false := decide_eq_false (by omega)
                      have hd2 : (((s[pos]'hp).toNat : Int) == 45) = false := by simp; omega
                      have HZ := Lib.hid hz
                      clear hno hok hc hz
                      go_wp2
                      go_ret
                      exact ⟨ret_bool HNO.out.symm, rfl⟩
        · have hall : rightL s.data.toList = true := rightL_mk (by rw [size_list]; exact hs1) (by rw [size_list]; exact hs2) (by have := HA.out; rwa [List.take_of_length_le (by rw [size_list]; omega)] at this)
          have HALL := Lib.hid hall
          clear hall
          go_wp2
          go_ret
          exact ⟨ret_bool HALL.out.symm, rfl⟩
    · have hno : rightL s.data.toList = false := rightL_long (by rw [size_list]; omega)
      have HNO := Lib.hid hno
      have hd : decide (12 < s.size) = true := decide_eq_true (by omega)
      clear hno
      go_enter Try.func19, Try.ntmps19
      go_wp2_with fail
      go_ret
      exact ⟨ret_bool HNO.out.symm, rfl⟩
  · have hno : rightL s.data.toList = false := rightL_short (by rw [size_list]; omega)
    have HNO := Lib.hid hno
    have hd : decide (s.size < 1) = true := decide_eq_true (by omega)
    clear hno
    go_enter Try.func19, Try.ntmps19
    go_wp2_with fail
    go_ret
    exact ⟨ret_bool HNO.out.symm, rfl⟩
end Cd
end Go.Proofs.Ytkdcpnbfeagggaa
end
