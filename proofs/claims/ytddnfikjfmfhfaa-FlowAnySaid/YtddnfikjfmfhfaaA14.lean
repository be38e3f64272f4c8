/- Texts of this proof, one behind the other. -/
import Derived.Deep.QuietTactic
import Derived.BigQuiet
import Derived.Test.YtddnfikjfmfhfaaA12
import Derived.Test.YtddnfikjfmfhfaaA10
import Derived.Test.YtddnfikjfmfhfaaA13
section
/- The law FlowServes: whatever lots, wants and uses; the walk. Written by gen_fserves.py. -/
namespace Go.Proofs.Ytddnfikjfmfhfaa
open Go.ChangeShapes Go.WideShapes Go.ChangeAt Go.RowKit Go.Maps
set_option linter.unusedVariables false

/-- The wants are served by these uses; that is left. -/
def Sv (l : List Lt) (ws : List Wt) (U : List Us) (q : Int → Int) : Prop := mayB l ws = true ∧ ∃ S P, Stab l S ∧ Days ws P ∧ (serveRun S ws P (qtyOf l)).2.1 = true ∧ (serveRun S ws P (qtyOf l)).1 = U.map useT ∧ (serveRun S ws P (qtyOf l)).2.2 = q
section
variable {l : List Lt} {ws : List Wt} {U : List Us} {q : Int → Int}
theorem Sv.fits (h : Sv l ws U q) : fitsP l ws := by
  obtain ⟨hb, S, P, hS, hP, hr, _, _⟩ := h
  exact ⟨hb, (serve_iff hS hP hb).1 hr⟩
theorem Sv.check (h : Sv l ws U q) : checkB l ws U = true := by
  obtain ⟨hb, S, P, hS, hP, hr, hU, _⟩ := h
  exact run_check hb hS hP hr hU
theorem Sv.total (h : Sv l ws U q) : sumQ (leftL l q) + sumUs U = sumQ l := by
  obtain ⟨hb, S, P, hS, hP, hr, hU, hq⟩ := h
  have := run_total hb hS hr hU
  rwa [hq] at this
theorem Sv.range (h : Sv l ws U q) : ∀ i, 0 ≤ q i ∧ q i ≤ 1073741824 := by
  obtain ⟨hb, S, P, hS, hP, hr, hU, rfl⟩ := h
  obtain ⟨_, _, hlr, _, _⟩ := mayB_true hb
  intro i
  have h1 := run_range (S := S) (ws := ws) P (qtyOf l) (fun i => (qtyOf_range hlr i).1) i
  have h2 := qtyOf_range hlr i
  omega
theorem Sv.len (h : Sv l ws U q) : U.length ≤ ws.length * l.length := by
  obtain ⟨hb, S, P, hS, hP, hr, hU, rfl⟩ := h
  have h1 := run_len (S := S) (ws := ws) P (qtyOf l)
  rw [hU, List.length_map, hP.perm.length_eq, List.length_range, hS.perm.length_eq] at h1
  exact h1
theorem Sv.sized (h : Sv l ws U q) (hs : Sized l) : SizedU U ∧ ∀ u ∈ U, 0 ≤ u.qty ∧ 0 ≤ u.want ∧ u.want < (ws.length : Int) := by
  obtain ⟨hb, S, P, hS, hP, hr, hU, rfl⟩ := h
  obtain ⟨_, h2, hlr, hwr, hnd⟩ := mayB_true hb
  have key : ∀ u ∈ U, (0 ≤ u.want ∧ u.want < (ws.length : Int)) ∧ (∃ y ∈ l, u.lot = y.id) ∧ 1 ≤ u.qty ∧ u.qty ≤ 1125899906842624 := fun u hu => by
    have hm : useT u ∈ (serveRun S ws P (qtyOf l)).1 := by rw [hU]; exact List.mem_map_of_mem hu
    obtain ⟨⟨p, hp, e1, e2⟩, ⟨y, hy, e3⟩, e4⟩ := run_all P _ _ hm
    have hpl : p < ws.length := by have := hP.perm.mem_iff.1 hp; simpa using this
    have hq : (ws.getD p default).qty ≤ 1125899906842624 := by
      have hmem : ws.getD p default ∈ ws := by rw [List.getD_eq_getElem?_getD, List.getElem?_eq_getElem hpl]; exact List.getElem_mem hpl
      exact (wantB_parts (hwr _ hmem)).2.2
    unfold useT at e1 e2 e3 e4
    simp only at e1 e2 e3 e4
    exact ⟨by omega, ⟨y, hS.perm.mem_iff.1 hy, e3⟩, e4, by omega⟩
  refine ⟨fun u hu => ?_, fun u hu => ?_⟩
  · obtain ⟨h1, ⟨y, hy, h3⟩, h4, h5⟩ := key u hu
    have hf := hs y hy
    unfold Lt.Fits at hf
    unfold Us.Fits
    omega
  · obtain ⟨h1, _, h4, h5⟩ := key u hu
    omega
theorem Sv.unique {U' : List Us} {q' : Int → Int} (h : Sv l ws U q) (k : Sv l ws U' q') : U = U' ∧ q = q' := by
  obtain ⟨hb, S, P, hS, hP, hr, hU, rfl⟩ := h
  obtain ⟨_, S', P', hS', hP', hr', hU', rfl⟩ := k
  have e1 := hS.unique hS'
  have e2 := hP.unique hP'
  subst e1 e2
  exact ⟨useT_inj (hU.symm.trans hU'), rfl⟩
theorem sumQ_bound (hb : ∀ x ∈ l, lrightB x = true) (hl : l.length ≤ 40) : sumQ l ≤ 42949672960 ∧ ∀ x ∈ l.map Lt.qty, 0 ≤ x := by
  have h0 : ∀ x ∈ l.map Lt.qty, 0 ≤ x ∧ x ≤ 1073741824 := fun x hx => by
    obtain ⟨y, hy, rfl⟩ := List.mem_map.1 hx
    have := lright_qty (hb y hy); omega
  have h1 := sum_le_mul (l.map Lt.qty) 1073741824 (fun x hx => (h0 x hx).2)
  rw [List.length_map] at h1
  unfold sumQ
  refine ⟨?_, fun x hx => (h0 x hx).1⟩
  have h2 : (l.length : Int) * 1073741824 ≤ 40 * 1073741824 := Int.mul_le_mul_of_nonneg_right (by omega) (by omega)
  omega
end
section
variable {l : List Lt} {ws : List Wt} (hl : l.length ≤ 1099511627776) (hw : ws.length ≤ 1099511627776) (hs : Sized l) (v1 v2 : Value) (w : World) (h1 : LSl w w.heap.size v1 l) (h2 : WSl w w.heap.size v2 ws)
include hl hw hs h1 h2
theorem fill_not (h : ¬ fitsP l ws) : Calls Try.prog 13 #[v1, v2] w fun e w' => e = .returned (.tuple #[.slice none 0 0, .bool false]) ∧ Below w.heap.size w w' := by
  by_cases hb : mayB l ws = true
  · refine (fill_may v1 v2 l ws w hl hw hs h1 h2 hb).mono ?_
    rintro e w' ⟨S, P, hS, hP, hbl, ⟨_, rfl⟩ | ⟨hr, _⟩⟩
    · exact ⟨rfl, hbl⟩
    · exact absurd ⟨hb, (serve_iff hS hP hb).1 hr⟩ h
  · exact fill_no v1 v2 l ws w hl hw hs h1 h2 (by simpa using hb)
theorem left_not (h : ¬ fitsP l ws) : Calls Try.prog 15 #[v1, v2] w fun e w' => e = .returned (.tuple #[.slice none 0 0, .bool false]) ∧ Below w.heap.size w w' := by
  by_cases hb : mayB l ws = true
  · refine (left_may v1 v2 l ws w hl hw hs h1 h2 hb).mono ?_
    rintro e w' ⟨S, P, hS, hP, hbl, ⟨_, rfl⟩ | ⟨hr, _⟩⟩
    · exact ⟨rfl, hbl⟩
    · exact absurd ⟨hb, (serve_iff hS hP hb).1 hr⟩ h
  · exact left_no v1 v2 l ws w hl hw hs h1 h2 (by simpa using hb)
theorem fill_yes (h : fitsP l ws) : Calls Try.prog 13 #[v1, v2] w fun e w' => Below w.heap.size w w' ∧ ∃ uv U q, Sv l ws U q ∧ e = .returned (.tuple #[uv, .bool true]) ∧ w'.ownsRow w.heap.size 44 3 uv U.length (ucells U) := by
  obtain ⟨hb, hc⟩ := h
  refine (fill_may v1 v2 l ws w hl hw hs h1 h2 hb).mono ?_
  rintro e w' ⟨S, P, hS, hP, hbl, ⟨hr, rfl⟩ | ⟨hr, uv, U, rfl, hU, ho⟩⟩
  · rw [(serve_iff hS hP hb).2 hc] at hr; cases hr
  · exact ⟨hbl, uv, U, _, ⟨hb, S, P, hS, hP, hr, hU, rfl⟩, rfl, ho⟩
theorem left_yes {U : List Us} {q : Int → Int} (h : Sv l ws U q) : Calls Try.prog 15 #[v1, v2] w fun e w' => Below w.heap.size w w' ∧ ∃ v, e = .returned (.tuple #[v, .bool true]) ∧ w'.ownsRow w.heap.size 42 6 v (leftL l q).length (lcells (leftL l q)) := by
  have hf := h.fits
  obtain ⟨hb, S, P, hS, hP, hr, hU, rfl⟩ := h
  refine (left_may v1 v2 l ws w hl hw hs h1 h2 hb).mono ?_
  rintro e w' ⟨S', P', hS', hP', hbl, ⟨hr', rfl⟩ | ⟨hr', v, rfl, ho⟩⟩
  · rw [(serve_iff hS' hP' hb).2 hf.2] at hr'; cases hr'
  · have e1 := hS.unique hS'
    have e2 := hP.unique hP'
    subst e1 e2
    exact ⟨hbl, v, rfl, ho⟩
end
theorem fits_perm {l : List Lt} {ws ws' : List Wt} (hp : ws.Perm ws') (h : fitsP l ws) : fitsP l ws' := by
  obtain ⟨hb, hc⟩ := h
  obtain ⟨h1, h2, h3, h4, h5⟩ := mayB_true hb
  exact ⟨mayB_of h1 (by rw [← hp.length_eq]; exact h2) h3 (fun x hx => h4 x (hp.mem_iff.2 hx)) h5, Fl.Feas.perm hp hc⟩
/-- Where a slice from k on begins. -/
def dropO (A : Option Addr) (k c : Nat) : Option Addr := if c = k then A else A.map (fun a => a.add (k * 3))
theorem dropO_none {A : Option Addr} {k c : Nat} (h : dropO A k c = none) : A = none := by
  unfold dropO at h
  split at h
  · exact h
  · simpa using h
theorem dropO_reads {w : World} {B : Nat} {A : Option Addr} {l : List Wt} {k c : Nat} (h : Lies w B A (wcells l)) (hc : l.length ≤ c) : ∀ a, dropO A k c = some a → ∀ j u, (wcells (l.drop k))[j]? = some u → w.cell? (a.add j) = some u := by
  intro a ha j u hu
  unfold dropO at ha
  split at ha
  · rename_i e
    subst e
    rw [List.drop_of_length_le hc] at hu
    simp [wcells] at hu
  · rw [← wcells_drop, List.getElem?_drop] at hu
    obtain ⟨ad', e, _, hcl⟩ := h.get hu
    subst e
    simp only [Option.map_some, Option.some.injEq] at ha
    subst ha
    rw [addr_add]; exact hcl
theorem takeO_reads {w : World} {B : Nat} {A : Option Addr} {l : List Wt} {k : Nat} (hk : k ≤ l.length) (h : Lies w B A (wcells l)) : ∀ a, A = some a → ∀ j u, (wcells (l.take k))[j]? = some u → w.cell? (a.add j) = some u := by
  intro a ha j u hu
  rw [← wcells_take l k hk] at hu
  rw [List.getElem?_take] at hu
  split at hu
  · obtain ⟨ad', e, _, hcl⟩ := h.get hu
    rw [e] at ha; cases ha; exact hcl
  · cases hu
theorem pick_len1 (x : Int) (n : Nat) (w : World) (h2 : n ≤ 1099511627775) (h3 : -9223372036854775808 ≤ x) (h4 : x ≤ 9223372036854775807) :
    Calls Try.prog 27 #[.int .i64 x, .int .i64 ((n : Int) + 1)] w (SomeBelow (n + 1) w) := pick_any x (n + 1) w (by omega) (by omega) h3 h4
theorem turn_perm (ws : List Wt) (k : Nat) : (ws.drop k ++ ws.take k).Perm ws := by
  have := List.perm_append_comm (l₁ := ws.drop k) (l₂ := ws.take k)
  rwa [List.take_append_drop] at this

set_option maxRecDepth 100000 in
set_option maxHeartbeats 8000000 in
theorem serves_any (v1 v2 v3 : Value) (l : List Lt) (ws : List Wt) (us : List Us) (turn : Int) (w : World) (hv1 : LSl w w.heap.size v1 l) (hv2 : WSl w w.heap.size v2 ws) (hv3 : USl w w.heap.size v3 us) (hs : Sized l) (hsu : SizedU us)
    (hn1 : -9223372036854775808 ≤ turn) (hn2 : turn ≤ 9223372036854775807) :
    Calls Try.prog 6 #[v1, v2, v3, .int .i64 turn] w fun e w' => e = .returned (.bool true) ∧ Below w.heap.size w w' := by
  obtain ⟨A1, c1, rfl, hc11, hc12, hcz1, _⟩ := id hv1
  obtain ⟨A2, c2, rfl, hc21, hc22, hcz2, hl2⟩ := id hv2
  obtain ⟨A3, c3, rfl, hc31, hc32, hcz3, _⟩ := id hv3
  have HV1 := Lib.hid hv1
  have HV2 := Lib.hid hv2
  have HV3 := Lib.hid hv3
  have HL2 := Lib.hid hl2
  have HS : Hid (Sized l) := Lib.hid hs
  have HSU : Hid (SizedU us) := Lib.hid hsu
  clear hv1 hv2 hv3 hs hsu hl2
  go_enter Try.func6, Try.ntmps6
  go_wp2_with fail
  refine (awake_any w).mono ?_
  rintro e w1 ⟨rfl, hb1'⟩
  have HW1 := Lib.hid (HV1.out.at_ hb1')
  have HW2 := Lib.hid (HV2.out.at_ hb1')
  have HW3 := Lib.hid (HV3.out.at_ hb1')
  have HB1 := Lib.hid hb1'
  clear hb1'
  by_cases hS4 : l.length ≤ 40 ∧ ws.length ≤ 60
  · have hsd : decide (l.length ≤ 40 ∧ ws.length ≤ 60) = true := decide_eq_true hS4
    obtain ⟨h40, h60⟩ := hS4
    by_cases h200 : us.length ≤ 200
    · have hd2 : decide (200 < (us.length : Int)) = false := decide_eq_false (by omega)
      by_cases hF : fitsP l ws
      · have KF := Lib.hid (fill_yes (l := l) (ws := ws) (by omega) (by omega) HS.out)
        go_wp2_with (first
          | (go_at_call 10; ((with_reducible refine (small_any _ _ _ _ _ _ _).mono ?_); rintro e w2 ⟨rfl, rfl⟩; rw [hsd]))
          | (go_at_call 13; fail))
        refine (KF.out _ _ _ HW1.out HW2.out hF).mono ?_
        rintro e w2 ⟨hb2', uv, U, q, hsv, rfl, hU'⟩
        have HU : Hid (USl w2 w2.heap.size uv U) := Lib.hid (USl.own hU')
        obtain ⟨Au, cu, rfl, hcu1, hcu2, _⟩ := own_form hU'
        have HSV := Lib.hid hsv
        have hUl : U.length ≤ 2400 := Nat.le_trans hsv.len (Nat.le_trans (Nat.mul_le_mul h60 h40) (by omega))
        have HX1 := Lib.hid (HW1.out.at_ hb2')
        have HX2 := Lib.hid (HW2.out.at_ hb2')
        have HX3 := Lib.hid (HW3.out.at_ hb2')
        have HB2 := Lib.hid (below_two HB1.out hb2')
        have HSZU := Lib.hid (hsv.sized HS.out)
        have KC1 : Hid (∀ v1 v2 v3 W, LSl W W.heap.size v1 l → WSl W W.heap.size v2 ws → USl W W.heap.size v3 us → Calls Try.prog 23 #[v1, v2, v3] W fun e w' => e = .returned (.bool (checkB l ws us)) ∧ Below W.heap.size W w') := Lib.hid (fun v1 v2 v3 W a b c => check_any v1 v2 v3 l ws us W (by omega) (by omega) (by omega) HS.out HSU.out a b c)
        have KC2 : Hid (∀ v1 v2 v3 W, LSl W W.heap.size v1 l → WSl W W.heap.size v2 ws → USl W W.heap.size v3 U → Calls Try.prog 23 #[v1, v2, v3] W fun e w' => e = .returned (.bool true) ∧ Below W.heap.size W w') := Lib.hid (fun v1 v2 v3 W a b c => by rw [← HSV.out.check]; exact check_any v1 v2 v3 l ws U W (by omega) (by omega) (by omega) HS.out HSZU.out.1 a b c)
        clear hd2 hb2' hU' hsv KF HW1 HW2 HW3 HB1
        go_upto_region 6 with (fail)
        go_cut [62] (fun v wx => v = .bool false ∧ Hid (Below w.heap.size w wx) ∧ Hid (USl wx wx.heap.size (.slice Au U.length cu) U))
        case first =>
          cases hcb : checkB l ws us with
          | false =>
            rw [hcb] at KC1
            clear hcb
            go_wp2_with (first
              | (go_at_call 23; ((with_reducible refine (KC1.out _ _ _ _ HX1.out HX2.out HX3.out).mono ?_); rintro e w3 ⟨rfl, hb3'⟩; have HY1 := Lib.hid (HX1.out.at_ hb3'); have HY2 := Lib.hid (HX2.out.at_ hb3'); have HUY := Lib.hid (HU.out.at_ hb3'); have HB3 := Lib.hid (below_two HB2.out hb3'); clear hb3' HX1 HX2 HX3 HB2 HU))
              | (go_at_call 23; ((with_reducible refine (KC2.out _ _ _ _ HY1.out HY2.out HUY.out).mono ?_); rintro e w4 ⟨rfl, hb4'⟩; have HUZ := Lib.hid (HUY.out.at_ hb4'); have HB4 := Lib.hid (below_two HB3.out hb4'); clear hb4')))
            go_meet
            exact ⟨rfl, HB4, HUZ⟩
          | true =>
            rw [hcb] at KC1
            clear hcb
            go_wp2_with (first
              | (go_at_call 23; ((with_reducible refine (KC1.out _ _ _ _ HX1.out HX2.out HX3.out).mono ?_); rintro e w3 ⟨rfl, hb3'⟩; have HY1 := Lib.hid (HX1.out.at_ hb3'); have HY2 := Lib.hid (HX2.out.at_ hb3'); have HUY := Lib.hid (HU.out.at_ hb3'); have HB3 := Lib.hid (below_two HB2.out hb3'); clear hb3' HX1 HX2 HX3 HB2 HU))
              | (go_at_call 23; ((with_reducible refine (KC2.out _ _ _ _ HY1.out HY2.out HUY.out).mono ?_); rintro e w4 ⟨rfl, hb4'⟩; have HUZ := Lib.hid (HUY.out.at_ hb4'); have HB4 := Lib.hid (below_two HB3.out hb4'); clear hb4')))
            go_meet
            exact ⟨rfl, HB4, HUZ⟩
        case rest =>
          clear HU HX1 HX2 HX3 KC1 KC2 HB2
          obtain ⟨rfl, HB3, HU3⟩ := hcut
          obtain ⟨w3, rfl⟩ : ∃ W, W = wc := ⟨_, rfl⟩
          have HY1 : Hid (LSl w3 w3.heap.size (.slice A1 l.length c1) l) := Lib.hid (HV1.out.at_ HB3.out)
          have HY2 : Hid (WSl w3 w3.heap.size (.slice A2 ws.length c2) ws) := Lib.hid (HV2.out.at_ HB3.out)
          have hwk : IntKind.i64.wrap ((ws.length : Int) + 1) = (ws.length : Int) + 1 := by rw [IntKind.wrap_i64]; omega
          go_wp2_with (go_at_call 27; fail)
          refine (pick_len1 turn ws.length w3 (by omega) hn1 hn2).mono ?_
          rintro e w9 ⟨k, hk, rfl, rfl⟩
          obtain ⟨i0, hi0, hz0', hz1', hz2'⟩ := info_parts infoWant
          have I1 := Lib.hid hi0
          have I2 := Lib.hid hz0'
          have I3 := Lib.hid hz1'
          have I4 := Lib.hid hz2'
          have HLs : Hid (Lies w3 w3.heap.size A2 (wcells ws)) := Lib.hid (by obtain ⟨_, _, e, _, _, _, h⟩ := HY2.out; cases e; exact h)
          have HCZ : Hid (A2 = none → ws.length = 0 ∧ c2 = 0) := Lib.hid (fun h => by have := hcz2 h; omega)
          clear hi0 hz0' hz1' hz2' hcz2
          go_wp2_with fail
          refine wp_region_held_drew (S := fun w' => Below w3.heap.size w3 w') (by kernel_rfl) ((Below.refl _ _).drew) (fun hS => ?_)
          refine wpAnyH_take (i := 1) (v := (.slice A2 ws.length c2)) rfl (by kernel_rfl) (by kernel_rfl) (by kernel_rfl) (fun _ _ _ h => h) (Or.inl ⟨by kernel_rfl, fun w' hS' => by go_simp⟩) hS ?_
          refine wpAnyH_take (i := 2) (v := (.int .i64 (k : Int))) rfl (by kernel_rfl) (by kernel_rfl) (by kernel_rfl) (fun _ _ _ h => h) (Or.inl ⟨by kernel_rfl, fun w' hS' => by go_simp⟩) hS ?_
          refine wpAnyH_take (i := 3) (v := (.slice (dropO A2 k c2) (ws.length - k) (c2 - k))) rfl (by kernel_rfl) (by kernel_rfl) (by kernel_rfl) (fun _ _ _ h => h) (Or.inl ⟨by kernel_rfl, fun w' hS' => by go_simp; first | done | (rw [if_pos (by omega)]; rfl)⟩) hS ?_
          refine wpAnyH_take (i := 5) (v := (.slice A2 ws.length c2)) rfl (by kernel_rfl) (by kernel_rfl) (by kernel_rfl) (fun _ _ _ h => h) (Or.inl ⟨by kernel_rfl, fun w' hS' => by go_simp⟩) hS ?_
          refine wpAnyH_take (i := 6) (v := (.int .i64 (k : Int))) rfl (by kernel_rfl) (by kernel_rfl) (by kernel_rfl) (fun _ _ _ h => h) (Or.inl ⟨by kernel_rfl, fun w' hS' => by go_simp⟩) hS ?_
          refine wpAnyH_take (i := 7) (v := (.slice A2 k c2)) rfl (by kernel_rfl) (by kernel_rfl) (by kernel_rfl) (fun _ _ _ h => h) (Or.inl ⟨by kernel_rfl, fun w' hS' => by go_simp; first | done | exact fun h => absurd h (by omega)⟩) hS ?_
          refine wpAnyH_ready (rs := [0]) (by kernel_rfl) (by simp) ?_
          refine AllReadyH.cons rfl (fun K hK => ?_) AllReadyH.nil
          go_simp
          skip
          refine hK.out _ _ (hS.alloc (by simp) _) (fun hS => ?_)
          clear hK K
          have hown0 : ((w3.alloc (Obj.cells #[] 47)).drew).ownsRow w3.heap.size 47 3 (.slice (some ⟨w3.heap.size, 0, none⟩) 0 0) 0 [] := (World.ownsRow_lit w3 #[] 0 (Nat.le_refl _) (by simp [maxLen]) rfl).drew
          refine wpAnyH_ready (rs := [4]) (by kernel_rfl) (by simp) ?_
          refine AllReadyH.cons rfl (fun K hK => ?_) AllReadyH.nil
          refine step_append_any (by rfl) (.tmp 68) (.tmp 71) 23 (by rfl) w3.heap.size 47 i0 _ 3 32 Try.underlying23 I1.out I2.out I3.out I4.out rfl (by decide) _ 0 [] (by simp [Act.eval, Act.put]) hown0 (dropO A2 k c2) (ws.length - k) (c2 - k) (wcells (ws.drop k)) (by simp [Act.eval, Act.put]) (by rw [wcells_length, List.length_drop]) (fun h => by have := HCZ.out (dropO_none h); omega) (dropO_reads (HLs.out.below hS) (by omega)) (wcells_one _) (by unfold maxLen; omega) (by omega) (by simp) ?_
          intro v4 w4 hown4' hg4' hq0
          clear hq0
          rw [Nat.zero_add, List.nil_append] at hown4'
          obtain ⟨A4, c4, rfl, hq1, hq2, hq3⟩ := own_form hown4'
          clear hq1 hq2 hq3
          have hown4 := Lib.hid hown4'
          have hg4 := Lib.hid hg4'.out
          clear hown4' hg4' hown0
          refine hK.out _ _ (hS.grown hg4.out (by simp) (fun j hj => by cases hj; exact Nat.le_refl _)) (fun hS => ?_)
          clear hK K
          refine wpAnyH_ready (rs := [8]) (by kernel_rfl) (by simp) ?_
          refine AllReadyH.cons rfl (fun K hK => ?_) AllReadyH.nil
          refine step_append_any (by rfl) (.tmp 72) (.tmp 75) 23 (by rfl) w3.heap.size 47 i0 _ 3 32 Try.underlying23 I1.out I2.out I3.out I4.out rfl (by decide) _ (ws.length - k) _ (by simp [Act.eval, Act.put]) hown4.out A2 k c2 (wcells (ws.take k)) (by simp [Act.eval, Act.put]) (by rw [wcells_length, List.length_take, Nat.min_eq_left (by omega)]) (fun h => by have := HCZ.out h; omega) (takeO_reads (by omega) (HLs.out.below hS)) (wcells_one _) (by unfold maxLen; omega) (by omega) (by have := hS.size; omega) ?_
          intro v5 w5 hown5' hg5' hq0
          clear hq0
          have hown5 := Lib.hid hown5'
          have hg5 := Lib.hid hg5'.out
          have hlt4 := hown4.out.lt
          clear hown5' hg5'
          refine hK.out _ _ (hS.grown hg5.out (by have := hS.size; omega) (fun j hj => (hlt4 j hj).1)) (fun hS => ?_)
          clear hK K
          refine wpAnyH_take (i := 9) (v := (v5)) rfl (by kernel_rfl) (by kernel_rfl) (by kernel_rfl) (fun _ _ _ h => h) (Or.inl ⟨by kernel_rfl, fun w' hS' => by go_simp⟩) hS ?_
          refine wpAnyH_done (by kernel_rfl) ?_ _
          go_simp
          first | (rename_i hnext; refine hnext _ _ ?_; clear hnext) | (rename_i hnext _; refine hnext _ _ ?_; clear hnext) | (rename_i hnext _ _; refine hnext _ _ ?_; clear hnext) | (rename_i hnext _ _ _; refine hnext _ _ ?_; clear hnext)
          obtain ⟨ot, hot, hpm, hlo⟩ : ∃ ot : List Wt, ws.drop k ++ ws.take k = ot ∧ ot.Perm ws ∧ ot.length = (ws.length - k) + k := ⟨_, rfl, turn_perm ws k, by rw [List.length_append, List.length_take, List.length_drop, Nat.min_eq_left (by omega)]⟩
          have HLE : Hid (WSl w5 w5.heap.size v5 ot) := Lib.hid (WSl.own (by rw [hlo, ← hot, wcells_append]; exact hown5.out))
          have hlo60 : ot.length ≤ 1099511627776 := by omega
          have HPM := Lib.hid hpm
          have hb5' := hS
          clear hown4 hown5 hg4 hg5 hlt4 HLs I1 I2 I3 I4 hot hlo HCZ hpm hS
          have hF2 : fitsP l ot := fits_perm HPM.out.symm hF
          have K2 := Lib.hid (fits_yes hF2 HS.out (by omega) hlo60)
          have KL := Lib.hid (left_yes (l := l) (ws := ws) (by omega) (by omega) HS.out)
          have HT1 := Lib.hid (HY1.out.at_ hb5')
          have HT2 := Lib.hid (HY2.out.at_ hb5')
          have HU5 := Lib.hid (HU3.out.at_ hb5')
          have HB5 := Lib.hid (below_two HB3.out hb5')
          clear hb5' HY1 HY2 HB3 HU3 hF2 hwk
          go_wp2_with (first
            | (go_at_call 18; ((with_reducible refine (K2.out _ _ _ HT1.out HLE.out).mono ?_); rintro e w6 ⟨rfl, hb6'⟩; have HZ1 := Lib.hid (HT1.out.at_ hb6'); have HZ2 := Lib.hid (HT2.out.at_ hb6'); have HU6 := Lib.hid (HU5.out.at_ hb6'); have HB6 := Lib.hid (below_two HB5.out hb6'); clear hb6' HT1 HT2 HB5 HLE HU5))
            | (go_at_call 15; fail))
          refine (KL.out _ _ _ HZ1.out HZ2.out HSV.out).mono ?_
          rintro e w7 ⟨hb7', v7, rfl, hown7⟩
          have HR7 : Hid (LSl w7 w7.heap.size v7 (leftL l q)) := Lib.hid (LSl.own hown7)
          obtain ⟨A7, c7, rfl, hc71, hc72, _⟩ := own_form hown7
          have HG1 := Lib.hid (HZ1.out.at_ hb7')
          have HU7 := Lib.hid (HU6.out.at_ hb7')
          have HB7 := Lib.hid (below_two HB6.out hb7')
          have htot := HSV.out.total
          have hrg := HSV.out.range
          have hll : (leftL l q).length ≤ l.length := by have := leftL_le l q l.length; rwa [List.take_of_length_le (Nat.le_refl _)] at this
          obtain ⟨hq1, hq0⟩ := sumQ_bound (mayB_true hF.1).2.2.1 h40
          have hqL : ∀ x ∈ (leftL l q).map Lt.qty, 0 ≤ x := fun x hx => by
            obtain ⟨y, hy, rfl⟩ := List.mem_map.1 hx
            unfold leftL at hy
            obtain ⟨z, hz, rfl⟩ := List.mem_map.1 hy
            exact (hrg z.id).1
          have hqU : ∀ x ∈ U.map Us.qty, 0 ≤ x := fun x hx => by
            obtain ⟨y, hy, rfl⟩ := List.mem_map.1 hx
            exact (HSZU.out.2 y hy).1
          obtain ⟨L, hL⟩ : ∃ L, leftL l q = L := ⟨_, rfl⟩
          rw [hL] at HR7 htot hll hqL hc71 ⊢
          obtain ⟨SQ, hSQ⟩ : ∃ n, sumQ l = n := ⟨_, rfl⟩
          obtain ⟨SL, hSL⟩ : ∃ n, sumQ L = n := ⟨_, rfl⟩
          obtain ⟨SU, hSU⟩ : ∃ n, sumUs U = n := ⟨_, rfl⟩
          have P1 : Hid (∀ k, 0 ≤ ((l.map Lt.qty).take k).sum ∧ ((l.map Lt.qty).take k).sum ≤ SQ) := Lib.hid (fun k => by rw [← hSQ]; exact sum_take_bound _ k hq0)
          have P2 : Hid (∀ k, 0 ≤ ((L.map Lt.qty).take k).sum ∧ ((L.map Lt.qty).take k).sum ≤ SL) := Lib.hid (fun k => by rw [← hSL]; exact sum_take_bound _ k hqL)
          have P3 : Hid (∀ k, 0 ≤ ((U.map Us.qty).take k).sum ∧ ((U.map Us.qty).take k).sum ≤ SU) := Lib.hid (fun k => by rw [← hSU]; exact sum_take_bound _ k hqU)
          have E1 : Hid (((l.map Lt.qty).take l.length).sum = SQ) := Lib.hid (by rw [List.take_of_length_le (by rw [List.length_map]; exact Nat.le_refl _)]; exact hSQ)
          have E2 : Hid (((L.map Lt.qty).take L.length).sum = SL) := Lib.hid (by rw [List.take_of_length_le (by rw [List.length_map]; exact Nat.le_refl _)]; exact hSL)
          have E3 : Hid (((U.map Us.qty).take U.length).sum = SU) := Lib.hid (by rw [List.take_of_length_le (by rw [List.length_map]; exact Nat.le_refl _)]; exact hSU)
          have HTOT : Hid (SL + SU = SQ) := Lib.hid (by rw [← hSL, ← hSU, ← hSQ]; exact htot)
          rw [hSQ] at hq1
          have HQ1 := Lib.hid hq1
          clear hb7' hown7 HZ1 HZ2 HU6 HB6 htot hrg hq0 hqL hqU hL hSQ hSL hSU hq1 K2 KL HPM HSZU
          go_wp2_with fail
          go_loopw [15, 16] (fun n i wr => ∃ k : Nat, k ≤ l.length ∧ i = .int .i64 k ∧ n = .int .i64 (((l.map Lt.qty).take k).sum) ∧ Hid (Below w7.heap.size w7 wr)) (fun _ i _ => l.length - (intOf i).toNat)
          case atStart => exact ⟨0, Nat.zero_le _, rfl, by simp, Lib.hid (Below.refl _ _)⟩
          case round =>
            obtain ⟨k, hk, rfl, rfl, HBr⟩ := hrel
            by_cases hlt : k < l.length
            · obtain ⟨x, hx⟩ : ∃ x, l[k]? = some x := ⟨_, List.getElem?_eq_getElem hlt⟩
              obtain ⟨_, _, he, _, _, _, hLL⟩ := HG1.out.below HBr.out
              cases he
              obtain ⟨ad, rfl, hab, hc0, hc1', hc2', hc3, hc4, hc5⟩ := hLL.six hx
              have hst := Lib.hid (sum_succ (l := l.map Lt.qty) (k := k) (x := x.qty) (by rw [List.getElem?_map, hx]; rfl))
              have hp := P1.out k
              have hp2 := P1.out (k + 1)
              rw [hst.out] at hp2
              have hq1 := HQ1.out
              generalize ((l.map Lt.qty).take k).sum = sk at hp hp2 hst ⊢
              have hwr : IntKind.i64.wrap (sk + x.qty) = sk + x.qty := by rw [IntKind.wrap_i64]; omega
              clear hx hLL hc0 hc1' hc2' hc3 hc5
              go_wp2
              go_roundw
              case rel => exact ⟨k + 1, by omega, by go_num, by rw [hst.out], HBr⟩
              case measure => simp [intOf]; omega
            · obtain rfl : k = l.length := by omega
              rw [E1.out]
              have HG7 := Lib.hid (HR7.out.at_ HBr.out)
              have HU8 := Lib.hid (HU7.out.at_ HBr.out)
              have HB8 := Lib.hid (below_two HB7.out HBr.out)
              obtain ⟨w8, rfl⟩ : ∃ W, W = wr := ⟨_, rfl⟩
              clear HBr HR7 HU7 HB7 HG1
              go_wp2_with fail
              go_loopw [15, 17] (fun n i wr => ∃ k : Nat, k ≤ L.length ∧ i = .int .i64 k ∧ n = .int .i64 (SQ - ((L.map Lt.qty).take k).sum) ∧ Hid (Below w8.heap.size w8 wr)) (fun _ i _ => L.length - (intOf i).toNat)
              case atStart => exact ⟨0, Nat.zero_le _, rfl, by simp, Lib.hid (Below.refl _ _)⟩
              case round =>
                obtain ⟨k, hk, rfl, rfl, HBr⟩ := hrel
                by_cases hlt : k < L.length
                · obtain ⟨x, hx⟩ : ∃ x, L[k]? = some x := ⟨_, List.getElem?_eq_getElem hlt⟩
                  obtain ⟨_, _, he, _, _, _, hLL⟩ := HG7.out.below HBr.out
                  cases he
                  obtain ⟨ad, rfl, hab, hc0, hc1', hc2', hc3, hc4, hc5⟩ := hLL.six hx
                  have hst := Lib.hid (sum_succ (l := L.map Lt.qty) (k := k) (x := x.qty) (by rw [List.getElem?_map, hx]; rfl))
                  have hp := P2.out k
                  have hp2 := P2.out (k + 1)
                  rw [hst.out] at hp2
                  have hq1 := HQ1.out
                  have htt := HTOT.out
                  have hp3 := P3.out 0
                  generalize ((L.map Lt.qty).take k).sum = sk at hp hp2 hst ⊢
                  have hwr : IntKind.i64.wrap (SQ - sk - x.qty) = SQ - sk - x.qty := by rw [IntKind.wrap_i64]; omega
                  clear hx hLL hc0 hc1' hc2' hc3 hc5 hp3
                  go_wp2
                  go_roundw
                  case rel => exact ⟨k + 1, by omega, by go_num, by rw [hst.out]; congr 1; omega, HBr⟩
                  case measure => simp [intOf]; omega
                · obtain rfl : k = L.length := by omega
                  rw [E2.out]
                  have HU9 := Lib.hid (HU8.out.at_ HBr.out)
                  have HB9 := Lib.hid (below_two HB8.out HBr.out)
                  obtain ⟨w9, rfl⟩ : ∃ W, W = wr := ⟨_, rfl⟩
                  clear HBr HU8 HB8 HG7
                  go_wp2_with fail
                  go_loopw [15, 18] (fun n i wr => ∃ k : Nat, k ≤ U.length ∧ i = .int .i64 k ∧ n = .int .i64 (SQ - SL - ((U.map Us.qty).take k).sum) ∧ Hid (Below w9.heap.size w9 wr)) (fun _ i _ => U.length - (intOf i).toNat)
                  case atStart => exact ⟨0, Nat.zero_le _, rfl, by simp, Lib.hid (Below.refl _ _)⟩
                  case round =>
                    obtain ⟨k, hk, rfl, rfl, HBr⟩ := hrel
                    by_cases hlt : k < U.length
                    · obtain ⟨x, hx⟩ : ∃ x, U[k]? = some x := ⟨_, List.getElem?_eq_getElem hlt⟩
                      obtain ⟨_, _, he, _, _, _, hLL⟩ := HU9.out.below HBr.out
                      cases he
                      obtain ⟨ad, rfl, hab, hc0, hc1', hc2'⟩ := hLL.rowU hx
                      have hst := Lib.hid (sum_succ (l := U.map Us.qty) (k := k) (x := x.qty) (by rw [List.getElem?_map, hx]; rfl))
                      have hp := P3.out k
                      have hp2 := P3.out (k + 1)
                      rw [hst.out] at hp2
                      have hq1 := HQ1.out
                      have htt := HTOT.out
                      have hp0 := P2.out 0
                      generalize ((U.map Us.qty).take k).sum = sk at hp hp2 hst ⊢
                      obtain ⟨D, hD⟩ : ∃ D, SQ - SL = D := ⟨_, rfl⟩
                      rw [hD]
                      have hwr : IntKind.i64.wrap (D - sk - x.qty) = D - sk - x.qty := by rw [IntKind.wrap_i64]; omega
                      clear hx hLL hc0 hc1' hp0
                      go_wp2
                      go_roundw
                      case rel => exact ⟨k + 1, by omega, by go_num, by rw [hst.out]; congr 1; omega, HBr⟩
                      case measure => simp [intOf]; omega
                    · obtain rfl : k = U.length := by omega
                      rw [E3.out]
                      have hzz : SQ - SL - SU = 0 := by have := HTOT.out; omega
                      rw [hzz]
                      go_wp2
                      go_ret
                      exact ⟨rfl, below_two HB9.out HBr.out⟩
      · have KF := Lib.hid (fill_not (l := l) (ws := ws) (by omega) (by omega) HS.out)
        have hcb : checkB l ws us = false := by
          cases h : checkB l ws us with
          | false => rfl
          | true => exact absurd (check_can h) hF
        have KC : Hid (∀ v1 v2 v3 W, LSl W W.heap.size v1 l → WSl W W.heap.size v2 ws → USl W W.heap.size v3 us → Calls Try.prog 23 #[v1, v2, v3] W fun e w' => e = .returned (.bool false) ∧ Below W.heap.size W w') := Lib.hid (fun v1 v2 v3 W a b c => by rw [← hcb]; exact check_any v1 v2 v3 l ws us W (by omega) (by omega) (by omega) HS.out HSU.out a b c)
        clear hcb
        have hwk : IntKind.i64.wrap ((ws.length : Int) + 1) = (ws.length : Int) + 1 := by rw [IntKind.wrap_i64]; omega
        go_wp2_with (first
          | (go_at_call 10; ((with_reducible refine (small_any _ _ _ _ _ _ _).mono ?_); rintro e w2 ⟨rfl, rfl⟩; rw [hsd]))
          | (go_at_call 13; ((with_reducible refine (KF.out _ _ _ HW1.out HW2.out hF).mono ?_); rintro e w2 ⟨rfl, hb2'⟩; have HX1 := Lib.hid (HW1.out.at_ hb2'); have HX2 := Lib.hid (HW2.out.at_ hb2'); have HX3 := Lib.hid (HW3.out.at_ hb2'); have HB2 := Lib.hid (below_two HB1.out hb2'); clear hb2' HW1 HW2 HW3 HB1))
          | (go_at_call 23; ((with_reducible refine (KC.out _ _ _ _ HX1.out HX2.out HX3.out).mono ?_); rintro e w3 ⟨rfl, hb3'⟩; have HY1 := Lib.hid (HX1.out.at_ hb3'); have HY2 := Lib.hid (HX2.out.at_ hb3'); have HB3 := Lib.hid (below_two HB2.out hb3'); clear hb3' HX1 HX2 HX3 HB2))
          | (go_at_call 27; fail))
        refine (pick_len1 turn ws.length w3 (by omega) hn1 hn2).mono ?_
        rintro e w9 ⟨k, hk, rfl, rfl⟩
        obtain ⟨i0, hi0, hz0', hz1', hz2'⟩ := info_parts infoWant
        have I1 := Lib.hid hi0
        have I2 := Lib.hid hz0'
        have I3 := Lib.hid hz1'
        have I4 := Lib.hid hz2'
        have HLs : Hid (Lies w3 w3.heap.size A2 (wcells ws)) := Lib.hid (by obtain ⟨_, _, e, _, _, _, h⟩ := HY2.out; cases e; exact h)
        have HCZ : Hid (A2 = none → ws.length = 0 ∧ c2 = 0) := Lib.hid (fun h => by have := hcz2 h; omega)
        clear hi0 hz0' hz1' hz2' hcz2
        go_wp2_with fail
        refine wp_region_held_drew (S := fun w' => Below w3.heap.size w3 w') (by kernel_rfl) ((Below.refl _ _).drew) (fun hS => ?_)
        refine wpAnyH_take (i := 1) (v := (.slice A2 ws.length c2)) rfl (by kernel_rfl) (by kernel_rfl) (by kernel_rfl) (fun _ _ _ h => h) (Or.inl ⟨by kernel_rfl, fun w' hS' => by go_simp⟩) hS ?_
        refine wpAnyH_take (i := 2) (v := (.int .i64 (k : Int))) rfl (by kernel_rfl) (by kernel_rfl) (by kernel_rfl) (fun _ _ _ h => h) (Or.inl ⟨by kernel_rfl, fun w' hS' => by go_simp⟩) hS ?_
        refine wpAnyH_take (i := 3) (v := (.slice (dropO A2 k c2) (ws.length - k) (c2 - k))) rfl (by kernel_rfl) (by kernel_rfl) (by kernel_rfl) (fun _ _ _ h => h) (Or.inl ⟨by kernel_rfl, fun w' hS' => by go_simp; first | done | (rw [if_pos (by omega)]; rfl)⟩) hS ?_
        refine wpAnyH_take (i := 5) (v := (.slice A2 ws.length c2)) rfl (by kernel_rfl) (by kernel_rfl) (by kernel_rfl) (fun _ _ _ h => h) (Or.inl ⟨by kernel_rfl, fun w' hS' => by go_simp⟩) hS ?_
        refine wpAnyH_take (i := 6) (v := (.int .i64 (k : Int))) rfl (by kernel_rfl) (by kernel_rfl) (by kernel_rfl) (fun _ _ _ h => h) (Or.inl ⟨by kernel_rfl, fun w' hS' => by go_simp⟩) hS ?_
        refine wpAnyH_take (i := 7) (v := (.slice A2 k c2)) rfl (by kernel_rfl) (by kernel_rfl) (by kernel_rfl) (fun _ _ _ h => h) (Or.inl ⟨by kernel_rfl, fun w' hS' => by go_simp; first | done | exact fun h => absurd h (by omega)⟩) hS ?_
        refine wpAnyH_ready (rs := [0]) (by kernel_rfl) (by simp) ?_
        refine AllReadyH.cons rfl (fun K hK => ?_) AllReadyH.nil
        go_simp
        skip
        refine hK.out _ _ (hS.alloc (by simp) _) (fun hS => ?_)
        clear hK K
        have hown0 : ((w3.alloc (Obj.cells #[] 47)).drew).ownsRow w3.heap.size 47 3 (.slice (some ⟨w3.heap.size, 0, none⟩) 0 0) 0 [] := (World.ownsRow_lit w3 #[] 0 (Nat.le_refl _) (by simp [maxLen]) rfl).drew
        refine wpAnyH_ready (rs := [4]) (by kernel_rfl) (by simp) ?_
        refine AllReadyH.cons rfl (fun K hK => ?_) AllReadyH.nil
        refine step_append_any (by rfl) (.tmp 68) (.tmp 71) 23 (by rfl) w3.heap.size 47 i0 _ 3 32 Try.underlying23 I1.out I2.out I3.out I4.out rfl (by decide) _ 0 [] (by simp [Act.eval, Act.put]) hown0 (dropO A2 k c2) (ws.length - k) (c2 - k) (wcells (ws.drop k)) (by simp [Act.eval, Act.put]) (by rw [wcells_length, List.length_drop]) (fun h => by have := HCZ.out (dropO_none h); omega) (dropO_reads (HLs.out.below hS) (by omega)) (wcells_one _) (by unfold maxLen; omega) (by omega) (by simp) ?_
        intro v4 w4 hown4' hg4' hq0
        clear hq0
        rw [Nat.zero_add, List.nil_append] at hown4'
        obtain ⟨A4, c4, rfl, hq1, hq2, hq3⟩ := own_form hown4'
        clear hq1 hq2 hq3
        have hown4 := Lib.hid hown4'
        have hg4 := Lib.hid hg4'.out
        clear hown4' hg4' hown0
        refine hK.out _ _ (hS.grown hg4.out (by simp) (fun j hj => by cases hj; exact Nat.le_refl _)) (fun hS => ?_)
        clear hK K
        refine wpAnyH_ready (rs := [8]) (by kernel_rfl) (by simp) ?_
        refine AllReadyH.cons rfl (fun K hK => ?_) AllReadyH.nil
        refine step_append_any (by rfl) (.tmp 72) (.tmp 75) 23 (by rfl) w3.heap.size 47 i0 _ 3 32 Try.underlying23 I1.out I2.out I3.out I4.out rfl (by decide) _ (ws.length - k) _ (by simp [Act.eval, Act.put]) hown4.out A2 k c2 (wcells (ws.take k)) (by simp [Act.eval, Act.put]) (by rw [wcells_length, List.length_take, Nat.min_eq_left (by omega)]) (fun h => by have := HCZ.out h; omega) (takeO_reads (by omega) (HLs.out.below hS)) (wcells_one _) (by unfold maxLen; omega) (by omega) (by have := hS.size; omega) ?_
        intro v5 w5 hown5' hg5' hq0
        clear hq0
        have hown5 := Lib.hid hown5'
        have hg5 := Lib.hid hg5'.out
        have hlt4 := hown4.out.lt
        clear hown5' hg5'
        refine hK.out _ _ (hS.grown hg5.out (by have := hS.size; omega) (fun j hj => (hlt4 j hj).1)) (fun hS => ?_)
        clear hK K
        refine wpAnyH_take (i := 9) (v := (v5)) rfl (by kernel_rfl) (by kernel_rfl) (by kernel_rfl) (fun _ _ _ h => h) (Or.inl ⟨by kernel_rfl, fun w' hS' => by go_simp⟩) hS ?_
        refine wpAnyH_done (by kernel_rfl) ?_ _
        go_simp
        first | (rename_i hnext; refine hnext _ _ ?_; clear hnext) | (rename_i hnext _; refine hnext _ _ ?_; clear hnext) | (rename_i hnext _ _; refine hnext _ _ ?_; clear hnext) | (rename_i hnext _ _ _; refine hnext _ _ ?_; clear hnext)
        obtain ⟨ot, hot, hpm, hlo⟩ : ∃ ot : List Wt, ws.drop k ++ ws.take k = ot ∧ ot.Perm ws ∧ ot.length = (ws.length - k) + k := ⟨_, rfl, turn_perm ws k, by rw [List.length_append, List.length_take, List.length_drop, Nat.min_eq_left (by omega)]⟩
        have HLE : Hid (WSl w5 w5.heap.size v5 ot) := Lib.hid (WSl.own (by rw [hlo, ← hot, wcells_append]; exact hown5.out))
        have hlo60 : ot.length ≤ 1099511627776 := by omega
        have HPM := Lib.hid hpm
        have hb5' := hS
        clear hown4 hown5 hg4 hg5 hlt4 HLs I1 I2 I3 I4 hot hlo HCZ hpm hS
        have hF2 : ¬ fitsP l ot := fun h => hF (fits_perm HPM.out h)
        have K2 := Lib.hid (fits_not hF2 HS.out (by omega) hlo60)
        have KL := Lib.hid (left_not (l := l) (ws := ws) (by omega) (by omega) HS.out)
        have HT1 := Lib.hid (HY1.out.at_ hb5')
        have HT2 := Lib.hid (HY2.out.at_ hb5')
        have HB5 := Lib.hid (below_two HB3.out hb5')
        clear hb5' HY1 HY2 HB3 hF2 hwk
        go_wp2_with (first
          | (go_at_call 18; ((with_reducible refine (K2.out _ _ _ HT1.out HLE.out).mono ?_); rintro e w6 ⟨rfl, hb6'⟩; have HZ1 := Lib.hid (HT1.out.at_ hb6'); have HZ2 := Lib.hid (HT2.out.at_ hb6'); have HB6 := Lib.hid (below_two HB5.out hb6'); clear hb6' HT1 HT2 HB5 HLE))
          | (go_at_call 15; ((with_reducible refine (KL.out _ _ _ HZ1.out HZ2.out hF).mono ?_); rintro e w7 ⟨rfl, hb7'⟩; have HB7 := Lib.hid (below_two HB6.out hb7'); clear hb7' HB6 HZ1 HZ2)))
        go_ret
        exact ⟨rfl, HB7.out⟩
    · have hd2 : decide (200 < (us.length : Int)) = true := decide_eq_true (by omega)
      go_wp2_with (go_at_call 10; ((with_reducible refine (small_any _ _ _ _ _ _ _).mono ?_); rintro e w2 ⟨rfl, rfl⟩; rw [hsd]))
      go_ret
      exact ⟨rfl, HB1.out⟩
  · have hsd : decide (l.length ≤ 40 ∧ ws.length ≤ 60) = false := decide_eq_false hS4
    clear hS4
    go_wp2_with (go_at_call 10; ((with_reducible refine (small_any _ _ _ _ _ _ _).mono ?_); rintro e w2 ⟨rfl, rfl⟩; rw [hsd]))
    go_ret
    exact ⟨rfl, HB1.out⟩
end Go.Proofs.Ytddnfikjfmfhfaa
end
section
/- The law FlowWhy: whatever lots and wants; the walk. Written by gen_fwhy.py. -/
namespace Go.Proofs.Ytddnfikjfmfhfaa
open Go.ChangeShapes Go.WideShapes Go.ChangeAt Go.RowKit Go.Maps
set_option linter.unusedVariables false
abbrev lotO (r : Lt) : Obj := .cells #[.int .i64 r.id, .string ⟨r.item.toArray⟩, .int .i64 r.fr, .int .i64 r.un, .int .i64 r.qty, .bool r.arr] 42
abbrev wantO (x : Wt) : Obj := .cells #[.string ⟨x.item.toArray⟩, .int .i64 x.day, .int .i64 x.qty] 47
theorem one_lot (w : World) (r : Lt) : LSl (w.alloc (lotO r)) (w.heap.size + 1) (.slice (some ⟨w.heap.size, 0, none⟩) 1 1) [r] :=
  ⟨_, 1, rfl, Nat.le_refl _, by simp [maxLen], (fun h => by cases h), Lies.fresh w _ 42 _ rfl⟩
theorem one_want (w : World) (x : Wt) : WSl (w.alloc (wantO x)) (w.heap.size + 1) (.slice (some ⟨w.heap.size, 0, none⟩) 1 1) [x] :=
  ⟨_, 1, rfl, Nat.le_refl _, by simp [maxLen], (fun h => by cases h), Lies.fresh w _ 47 _ rfl⟩
/-- The lot of one day that can serve the want, and the want of one piece. -/
def probeL (x : Wt) : Lt := ⟨1, x.item, x.day, IntKind.i64.wrap (x.day + 1), 1, false⟩
def probeW (x : Wt) : Wt := ⟨x.item, x.day, 1⟩
theorem probe_right {x : Wt} (h : fitsP [probeL x] [probeW x]) (h1 : 1 ≤ x.qty) (h2 : x.qty ≤ 1125899906842624) : wantB x = true := by
  have hw := (mayB_true h.1).2.2.2.1 (probeW x) (by simp)
  unfold wantB at hw ⊢
  unfold probeW at hw
  simp only [Bool.and_eq_true, decide_eq_true_eq] at hw ⊢
  exact ⟨hw.1, hw.2.1, h1, h2⟩
theorem wnOf_take (ws : List Wt) (k : Nat) : (wnOf ws).take k = wnOf (ws.take k) := by unfold wnOf; rw [List.map_take]
theorem wnOf_succ {ws : List Wt} {k : Nat} {x : Wt} (hx : ws[k]? = some x) : (wnOf ws).take (k + 1) = (wnOf ws).take k ++ [(x, x.qty)] := by
  rw [List.take_add_one]
  have : (wnOf ws)[k]? = some (x, x.qty) := by unfold wnOf; rw [List.getElem?_map, hx]; rfl
  rw [this]; rfl
theorem wnOf_len (ws : List Wt) (k : Nat) (hk : k ≤ ws.length) : ((wnOf ws).take k).length = k := by unfold wnOf; rw [List.length_take, List.length_map, Nat.min_eq_left hk]
theorem wnOf_all (ws : List Wt) : (wnOf ws).take ws.length = wnOf ws := List.take_of_length_le (by unfold wnOf; rw [List.length_map]; exact Nat.le_refl _)
theorem need_step {ws : List Wt} {k : Nat} {x : Wt} {T : Nat → Bool} (hx : ws[k]? = some x) : Fl.needT T ((wnOf ws).take (k + 1)) = Fl.needT T ((wnOf ws).take k) + (if T k = true then x.qty else 0) := by
  rw [wnOf_succ hx, Fl.needT_snoc, wnOf_len ws k (Nat.le_of_lt (List.getElem?_eq_some_iff.1 hx).1)]
theorem meets_step {ws : List Wt} {k : Nat} {x : Wt} {T : Nat → Bool} {y : Lt} (hx : ws[k]? = some x) : Fl.meets servesB y T ((wnOf ws).take (k + 1)) = (Fl.meets servesB y T ((wnOf ws).take k) || (T k && servesB y x)) := by
  rw [wnOf_succ hx, Fl.meets_snoc, wnOf_len ws k (Nat.le_of_lt (List.getElem?_eq_some_iff.1 hx).1)]
theorem have_step {l : List Lt} {wn : List (Wt × Int)} {k : Nat} {y : Lt} {T : Nat → Bool} {q : Int → Int} (hy : l[k]? = some y) : Fl.haveT Lt.id servesB q T wn (l.take (k + 1)) = Fl.haveT Lt.id servesB q T wn (l.take k) + (if Fl.meets servesB y T wn = true then q y.id else 0) := by
  rw [List.take_add_one, hy]
  exact Fl.haveT_snoc q T wn y _
theorem need_bd {ws : List Wt} (h : ∀ x ∈ ws, wantB x = true) (hl : ws.length ≤ 9) (T : Nat → Bool) (k : Nat) : 0 ≤ Fl.needT T ((wnOf ws).take k) ∧ Fl.needT T ((wnOf ws).take k) ≤ 10133099161583616 := by
  have h1 := Fl.needT_bound 1125899906842624 (by omega) ((wnOf ws).take k) T (fun p hp => by
    have hp := List.mem_of_mem_take hp
    unfold wnOf at hp
    obtain ⟨x, hx, rfl⟩ := List.mem_map.1 hp
    have := wantB_parts (h x hx)
    simp only; omega)
  have h2 : ((wnOf ws).take k).length ≤ 9 := by
    have := List.length_take_le' k (wnOf ws)
    unfold wnOf at this ⊢
    rw [List.length_map] at this
    omega
  have h3 : (((wnOf ws).take k).length : Int) * 1125899906842624 ≤ 9 * 1125899906842624 := Int.mul_le_mul_of_nonneg_right (by omega) (by omega)
  omega
theorem have_bd {l : List Lt} (h : ∀ x ∈ l, lrightB x = true) (hl : l.length ≤ 40) (T : Nat → Bool) (wn : List (Wt × Int)) (k : Nat) : 0 ≤ Fl.haveT Lt.id servesB (qtyOf l) T wn (l.take k) ∧ Fl.haveT Lt.id servesB (qtyOf l) T wn (l.take k) ≤ 42949672960 := by
  have h1 := Fl.haveT_bound (id := Lt.id) (sv := servesB) (qtyOf l) 1073741824 (by omega) T wn (l.take k) (fun x hx => qtyOf_range h _)
  have h2 : (l.take k).length ≤ 40 := by have := List.length_take_le' k l; omega
  have h3 : ((l.take k).length : Int) * 1073741824 ≤ 40 * 1073741824 := Int.mul_le_mul_of_nonneg_right (by omega) (by omega)
  omega
theorem bit_int (s k : Nat) : (((s : Int) / 2 ^ k).tmod 2 == 1) = bitOf s k := by
  have e1 : ((s : Int) / 2 ^ k) = ((s / 2 ^ k : Nat) : Int) := by push_cast; rfl
  rw [e1]
  have e2 : (((s / 2 ^ k : Nat) : Int)).tmod 2 = ((s / 2 ^ k % 2 : Nat) : Int) := rfl
  rw [e2]
  unfold bitOf
  have h : s / 2 ^ k % 2 < 2 := Nat.mod_lt _ (by omega)
  by_cases hh : s / 2 ^ k % 2 = 1
  · rw [hh]; rfl
  · have h0 : s / 2 ^ k % 2 = 0 := by omega
    rw [h0]; rfl
theorem two_l1 (w : World) (r : Lt) (x : Wt) : LSl ((w.alloc (lotO r)).alloc (wantO x)).drew ((w.alloc (lotO r)).alloc (wantO x)).drew.heap.size (.slice (some ⟨w.heap.size, 0, none⟩) 1 1) [r] :=
  ((one_lot w r).alloc_ (by simp) (wantO x)).mono (by simp)
theorem two_w1 (w : World) (r : Lt) (x : Wt) : WSl ((w.alloc (lotO r)).alloc (wantO x)).drew ((w.alloc (lotO r)).alloc (wantO x)).drew.heap.size (.slice (some ⟨w.heap.size + 1, 0, none⟩) 1 1) [x] := by
  have h := one_want (w.alloc (lotO r)) x
  simp only [World.size_alloc] at h
  exact h.mono (by simp)
theorem two_l2 (w : World) (r : Lt) (x : Wt) : LSl ((w.alloc (wantO x)).alloc (lotO r)).drew ((w.alloc (wantO x)).alloc (lotO r)).drew.heap.size (.slice (some ⟨w.heap.size + 1, 0, none⟩) 1 1) [r] := by
  have h := one_lot (w.alloc (wantO x)) r
  simp only [World.size_alloc] at h
  exact h.mono (by simp)
theorem two_w2 (w : World) (r : Lt) (x : Wt) : WSl ((w.alloc (wantO x)).alloc (lotO r)).drew ((w.alloc (wantO x)).alloc (lotO r)).drew.heap.size (.slice (some ⟨w.heap.size, 0, none⟩) 1 1) [x] :=
  ((one_want w x).alloc_ (by simp) (lotO r)).mono (by simp)
theorem probe_sized {x : Wt} (h : x.Fits) : Sized [probeL x] := fun y hy => by
  rw [List.mem_singleton.1 hy]
  obtain ⟨h0, h1, h2, h3, h4⟩ := h
  have e : IntKind.i64.wrap (x.day + 1) = (x.day + 1 + 9223372036854775808) % 18446744073709551616 - 9223372036854775808 := IntKind.wrap_i64 _
  unfold probeL Lt.Fits
  simp only
  rw [e]
  refine ⟨by omega, by omega, h0, h1, h2, by omega, by omega, by omega, by omega⟩
/-- The want comes through the probe. -/
def Good (x : Wt) : Prop := fitsP [probeL x] [probeW x] ∧ ¬ x.qty < 1 ∧ ¬ 1125899906842624 < x.qty
end Go.Proofs.Ytddnfikjfmfhfaa
end
