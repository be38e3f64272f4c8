/- Texts of this proof, one behind the other. -/
import Derived.Test.YtddnfikjfmfhfaaF10
import Derived.Test.YtddnfikjfmfhfaaF11
import Derived.Test.YtddnfikjfmfhfaaF12
import Derived.Test.YtddnfikjfmfhfaaF00
section
/- The law FlowServes: whatever lots, wants and uses; the walk. Written by gen_fserves.py. -/
namespace Go.Proofs.Ytddnfikjfmfhfaa
open Go.ChangeShapes Go.WideShapes Go.ChangeAt Go.RowKit Go.Maps
set_option linter.unusedVariables false

/-- The wants are served by these uses; that is left. -/
def Sv (l : List Lt) (ws : List Wt) (U : List Us) (q : Int → Int) : Prop := mayB l ws = true ∧ ∃ S P, Stab l S ∧ Days ws P ∧ (serveRun S ws P (qtyOf l)).2.1 = true ∧ (serveRun S ws P (qtyOf l)).1 = U.map useT ∧ (serveRun S ws P (qtyOf l)).2.2 = q
section
variable {l : List Lt} {ws : List Wt} {U : List Us} {q : Int → Int}
theorem Sv.fits (h : Sv l ws U q) : fitsP l ws := by
  obtain ⟨hb, S, P, hS, hP, hr, _, _⟩ := h
  exact ⟨hb, (serve_iff hS hP hb).1 hr⟩
theorem Sv.check (h : Sv l ws U q) : checkB l ws U = true := by
  obtain ⟨hb, S, P, hS, hP, hr, hU, _⟩ := h
  exact run_check hb hS hP hr hU
theorem Sv.total (h : Sv l ws U q) : sumQ (leftL l q) + sumUs U = sumQ l := by
  obtain ⟨hb, S, P, hS, hP, hr, hU, hq⟩ := h
  have := run_total hb hS hr hU
  rwa [hq] at this
theorem Sv.range (h : Sv l ws U q) : ∀ i, 0 ≤ q i ∧ q i ≤ 1073741824 := by
  obtain ⟨hb, S, P, hS, hP, hr, hU, rfl⟩ := h
  obtain ⟨_, _, hlr, _, _⟩ := mayB_true hb
  intro i
  have h1 := run_range (S := S) (ws := ws) P (qtyOf l) (fun i => (qtyOf_range hlr i).1) i
  have h2 := qtyOf_range hlr i
  omega
theorem Sv.len (h : Sv l ws U q) : U.length ≤ ws.length * l.length := by
  obtain ⟨hb, S, P, hS, hP, hr, hU, rfl⟩ := h
  have h1 := run_len (S := S) (ws := ws) P (qtyOf l)
  rw [hU, List.length_map, hP.perm.length_eq, List.length_range, hS.perm.length_eq] at h1
  exact h1
theorem Sv.sized (h : Sv l ws U q) (hs : Sized l) : SizedU U ∧ ∀ u ∈ U, 0 ≤ u.qty ∧ 0 ≤ u.want ∧ u.want < (ws.length : Int) := by
  obtain ⟨hb, S, P, hS, hP, hr, hU, rfl⟩ := h
  obtain ⟨_, h2, hlr, hwr, hnd⟩ := mayB_true hb
  have key : ∀ u ∈ U, (0 ≤ u.want ∧ u.want < (ws.length : Int)) ∧ (∃ y ∈ l, u.lot = y.id) ∧ 1 ≤ u.qty ∧ u.qty ≤ 1125899906842624 := fun u hu => by
    have hm : useT u ∈ (serveRun S ws P (qtyOf l)).1 := by rw [hU]; exact List.mem_map_of_mem hu
    obtain ⟨⟨p, hp, e1, e2⟩, ⟨y, hy, e3⟩, e4⟩ := run_all P _ _ hm
    have hpl : p < ws.length := by have := hP.perm.mem_iff.1 hp; simpa using this
    have hq : (ws.getD p default).qty ≤ 1125899906842624 := by
      have hmem : ws.getD p default ∈ ws := by rw [List.getD_eq_getElem?_getD, List.getElem?_eq_getElem hpl]; exact List.getElem_mem hpl
      exact (wantB_parts (hwr _ hmem)).2.2
    unfold useT at e1 e2 e3 e4
    simp only at e1 e2 e3 e4
    exact ⟨by omega, ⟨y, hS.perm.mem_iff.1 hy, e3⟩, e4, by omega⟩
  refine ⟨fun u hu => ?_, fun u hu => ?_⟩
  · obtain ⟨h1, ⟨y, hy, h3⟩, h4, h5⟩ := key u hu
    have hf := hs y hy
    unfold Lt.Fits at hf
    unfold Us.Fits
    omega
  · obtain ⟨h1, _, h4, h5⟩ := key u hu
    omega
theorem Sv.unique {U' : List Us} {q' : Int → Int} (h : Sv l ws U q) (k : Sv l ws U' q') : U = U' ∧ q = q' := by
  obtain ⟨hb, S, P, hS, hP, hr, hU, rfl⟩ := h
  obtain ⟨_, S', P', hS', hP', hr', hU', rfl⟩ := k
  have e1 := hS.unique hS'
  have e2 := hP.unique hP'
  subst e1 e2
  exact ⟨useT_inj (hU.symm.trans hU'), rfl⟩
theorem sumQ_bound (hb : ∀ x ∈ l, lrightB x = true) (hl : l.length ≤ 40) : sumQ l ≤ 42949672960 ∧ ∀ x ∈ l.map Lt.qty, 0 ≤ x := by
  have h0 : ∀ x ∈ l.map Lt.qty, 0 ≤ x ∧ x ≤ 1073741824 := fun x hx => by
    obtain ⟨y, hy, rfl⟩ := List.mem_map.1 hx
    have := lright_qty (hb y hy); omega
  have h1 := sum_le_mul (l.map Lt.qty) 1073741824 (fun x hx => (h0 x hx).2)
  rw [List.length_map] at h1
  unfold sumQ
  refine ⟨?_, fun x hx => (h0 x hx).1⟩
  have h2 : (l.length : Int) * 1073741824 ≤ 40 * 1073741824 := Int.mul_le_mul_of_nonneg_right (by omega) (by omega)
  omega
end
section
variable {l : List Lt} {ws : List Wt} (hl : l.length ≤ 1099511627776) (hw : ws.length ≤ 1099511627776) (hs : Sized l) (v1 v2 : Value) (w : World) (h1 : LSl w w.heap.size v1 l) (h2 : WSl w w.heap.size v2 ws)
include hl hw hs h1 h2
theorem fill_not (h : ¬ fitsP l ws) : Calls Try.prog 13 #[v1, v2] w fun e w' => e = .returned (.tuple #[.slice none 0 0, .bool false]) ∧ Below w.heap.size w w' := by
  by_cases hb : mayB l ws = true
  · refine (fill_may v1 v2 l ws w hl hw hs h1 h2 hb).mono ?_
    rintro e w' ⟨S, P, hS, hP, hbl, ⟨_, rfl⟩ | ⟨hr, _⟩⟩
    · exact ⟨rfl, hbl⟩
    · exact absurd ⟨hb, (serve_iff hS hP hb).1 hr⟩ h
  · exact fill_no v1 v2 l ws w hl hw hs h1 h2 (by simpa using hb)
theorem left_not (h : ¬ fitsP l ws) : Calls Try.prog 15 #[v1, v2] w fun e w' => e = .returned (.tuple #[.slice none 0 0, .bool false]) ∧ Below w.heap.size w w' := by
  by_cases hb : mayB l ws = true
  · refine (left_may v1 v2 l ws w hl hw hs h1 h2 hb).mono ?_
    rintro e w' ⟨S, P, hS, hP, hbl, ⟨_, rfl⟩ | ⟨hr, _⟩⟩
    · exact ⟨rfl, hbl⟩
    · exact absurd ⟨hb, (serve_iff hS hP hb).1 hr⟩ h
  · exact left_no v1 v2 l ws w hl hw hs h1 h2 (by simpa using hb)
theorem fill_yes (h : fitsP l ws) : Calls Try.prog 13 #[v1, v2] w fun e w' => Below w.heap.size w w' ∧ ∃ uv U q, Sv l ws U q ∧ e = .returned (.tuple #[uv, .bool true]) ∧ w'.ownsRow w.heap.size 44 3 uv U.length (ucells U) := by
  obtain ⟨hb, hc⟩ := h
  refine (fill_may v1 v2 l ws w hl hw hs h1 h2 hb).mono ?_
  rintro e w' ⟨S, P, hS, hP, hbl, ⟨hr, rfl⟩ | ⟨hr, uv, U, rfl, hU, ho⟩⟩
  · rw [(serve_iff hS hP hb).2 hc] at hr; cases hr
  · exact ⟨hbl, uv, U, _, ⟨hb, S, P, hS, hP, hr, hU, rfl⟩, rfl, ho⟩
theorem left_yes {U : List Us} {q : Int → Int} (h : Sv l ws U q) : Calls Try.prog 15 #[v1, v2] w fun e w' => Below w.heap.size w w' ∧ ∃ v, e = .returned (.tuple #[v, .bool true]) ∧ w'.ownsRow w.heap.size 42 6 v (leftL l q).length (lcells (leftL l q)) := by
  have hf := h.fits
  obtain ⟨hb, S, P, hS, hP, hr, hU, rfl⟩ := h
  refine (left_may v1 v2 l ws w hl hw hs h1 h2 hb).mono ?_
  rintro e w' ⟨S', P', hS', hP', hbl, ⟨hr', rfl⟩ | ⟨hr', v, rfl, ho⟩⟩
  · rw [(serve_iff hS' hP' hb).2 hf.2] at hr'; cases hr'
  · have e1 := hS.unique hS'
    have e2 := hP.unique hP'
    subst e1 e2
    exact ⟨hbl, v, rfl, ho⟩
end
theorem fits_perm {l : List Lt} {ws ws' : List Wt} (hp : ws.Perm ws') (h : fitsP l ws) : fitsP l ws' := by
  obtain ⟨hb, hc⟩ := h
  obtain ⟨h1, h2, h3, h4, h5⟩ := mayB_true hb
  exact ⟨mayB_of h1 (by rw [← hp.length_eq]; exact h2) h3 (fun x hx => h4 x (hp.mem_iff.2 hx)) h5, Fl.Feas.perm hp hc⟩
/-- Where a slice from k on begins. -/
def dropO (A : Option Addr) (k c : Nat) : Option Addr := if c = k then A else A.map (fun a => a.add (k * 3))
theorem dropO_none {A : Option Addr} {k c : Nat} (h : dropO A k c = none) : A = none := by
  unfold dropO at h
  split at h
  · exact h
  · simpa using h
theorem dropO_reads {w : World} {B : Nat} {A : Option Addr} {l : List Wt} {k c : Nat} (h : Lies w B A (wcells l)) (hc : l.length ≤ c) : ∀ a, dropO A k c = some a → ∀ j u, (wcells (l.drop k))[j]? = some u → w.cell? (a.add j) = some u := by
  intro a ha j u hu
  unfold dropO at ha
  split at ha
  · rename_i e
    subst e
    rw [List.drop_of_length_le hc] at hu
    simp [wcells] at hu
  · rw [← wcells_drop, List.getElem?_drop] at hu
    obtain ⟨ad', e, _, hcl⟩ := h.get hu
    subst e
    simp only [Option.map_some, Option.some.injEq] at ha
    subst ha
    rw [addr_add]; exact hcl
theorem takeO_reads {w : World} {B : Nat} {A : Option Addr} {l : List Wt} {k : Nat} (hk : k ≤ l.length) (h : Lies w B A (wcells l)) : ∀ a, A = some a → ∀ j u, (wcells (l.take k))[j]? = some u → w.cell? (a.add j) = some u := by
  intro a ha j u hu
  rw [← wcells_take l k hk] at hu
  rw [List.getElem?_take] at hu
  split at hu
  · obtain ⟨ad', e, _, hcl⟩ := h.get hu
    rw [e] at ha; cases ha; exact hcl
  · cases hu
theorem pick_len1 (x : Int) (n : Nat) (w : World) (h2 : n ≤ 1099511627775) (h3 : -9223372036854775808 ≤ x) (h4 : x ≤ 9223372036854775807) :
    Calls Try.prog 27 #[.int .i64 x, .int .i64 ((n : Int) + 1)] w (SomeBelow (n + 1) w) := pick_any x (n + 1) w (by omega) (by omega) h3 h4
theorem turn_perm (ws : List Wt) (k : Nat) : (ws.drop k ++ ws.take k).Perm ws := by
  have := List.perm_append_comm (l₁ := ws.drop k) (l₂ := ws.take k)
  rwa [List.take_append_drop] at this

set_option maxRecDepth 100000 in
set_option maxHeartbeats 8000000 in
theorem serves_any (v1 v2 v3 : Value) (l : List Lt) (ws : List Wt) (us : List Us) (turn : Int) (w : World) (hv1 : LSl w w.heap.size v1 l) (hv2 : WSl w w.heap.size v2 ws) (hv3 : USl w w.heap.size v3 us) (hs : Sized l) (hsu : SizedU us)
    (hn1 : -9223372036854775808 ≤ turn) (hn2 : turn ≤ 9223372036854775807) :
    Calls Try.prog 6 #[v1, v2, v3, .int .i64 turn] w fun e w' => e = .returned (.bool true) ∧ Below w.heap.size w w' := by
  obtain ⟨A1, c1, rfl, hc11, hc12, hcz1, _⟩ := id hv1
  obtain ⟨A2, c2, rfl, hc21, hc22, hcz2, hl2⟩ := id hv2
  obtain ⟨A3, c3, rfl, hc31, hc32, hcz3, _⟩ := id hv3
  have HV1 := Lib.hid hv1
  have HV2 := Lib.hid hv2
  have HV3 := Lib.hid hv3
  have HL2 := Lib.hid hl2
  have HS : Hid (Sized l) := Lib.hid hs
  have HSU : Hid (SizedU us) := Lib.hid hsu
  clear hv1 hv2 hv3 hs hsu hl2
  go_enter Try.func6, Try.ntmps6
  go_wp2_with fail
  refine (awake_any w).mono ?_
  rintro e w1 ⟨rfl, hb1'⟩
  have HW1 := Lib.hid (HV1.out.at_ hb1')
  have HW2 := Lib.hid (HV2.out.at_ hb1')
  have HW3 := Lib.hid (HV3.out.at_ hb1')
  have HB1 := Lib.hid hb1'
  clear hb1'
  by_cases hS4 : l.length ≤ 40 ∧ ws.length ≤ 60
  · have hsd : decide (l.length ≤ 40 ∧ ws.length ≤ 60) = true := decide_eq_true hS4
    obtain ⟨h40, h60⟩ := hS4
    by_cases h200 : us.length ≤ 200
    · have hd2 : decide (200 < (us.length : Int)) = false := decide_eq_false (by omega)
      by_cases hF : fitsP l ws
      · have KF := Lib.hid (fill_yes (l := l) (ws := ws) (by omega) (by omega) HS.out)
        go_wp2_with (first
          | (go_at_call 10; ((with_reducible refine (small_any _ _ _ _ _ _ _).mono ?_); rintro e w2 ⟨rfl, rfl⟩; rw [hsd]))
          | (go_at_call 13; fail))
        refine (KF.out _ _ _ HW1.out HW2.out hF).mono ?_
        rintro e w2 ⟨hb2', uv, U, q, hsv, rfl, hU'⟩
        have HU : Hid (USl w2 w2.heap.size uv U) := Lib.hid (USl.own hU')
        obtain ⟨Au, cu, rfl, hcu1, hcu2, _⟩ := own_form hU'
        have HSV := Lib.hid hsv
        have hUl : U.length ≤ 2400 := Nat.le_trans hsv.len (Nat.le_trans (Nat.mul_le_mul h60 h40) (by omega))
        have HX1 := Lib.hid (HW1.out.at_ hb2')
        have HX2 := Lib.hid (HW2.out.at_ hb2')
        have HX3 := Lib.hid (HW3.out.at_ hb2')
        have HB2 := Lib.hid (below_two HB1.out hb2')
        have HSZU := Lib.hid (hsv.sized HS.out)
        have KC1 : Hid (∀ v1 v2 v3 W, LSl W W.heap.size v1 l → WSl W W.heap.size v2 ws → USl W W.heap.size v3 us → Calls Try.prog 23 #[v1, v2, v3] W fun e w' => e = .returned (.bool (checkB l ws us)) ∧ Below W.heap.size W w') := Lib.hid (fun v1 v2 v3 W a b c => check_any v1 v2 v3 l ws us W (by omega) (by omega) (by omega) HS.out HSU.out a b c)
        have KC2 : Hid (∀ v1 v2 v3 W, LSl W W.heap.size v1 l → WSl W W.heap.size v2 ws → USl W W.heap.size v3 U → Calls Try.prog 23 #[v1, v2, v3] W fun e w' => e = .returned (.bool true) ∧ Below W.heap.size W w') := Lib.hid (fun v1 v2 v3 W a b c => by rw [← HSV.out.check]; exact check_any v1 v2 v3 l ws U W (by omega) (by omega) (by omega) HS.out HSZU.out.1 a b c)
        clear hd2 hb2' hU' hsv KF HW1 HW2 HW3 HB1
        go_upto_region 6 with (fail)
        go_cut [62] (fun v wx => v = .bool false ∧ Hid (Below w.heap.size w wx) ∧ Hid (USl wx wx.heap.size (.slice Au U.length cu) U))
        case first =>
          cases hcb : checkB l ws us with
          | false =>
            rw [hcb] at KC1
            clear hcb
            go_wp2_with (first
              | (go_at_call 23; ((with_reducible refine (KC1.out _ _ _ _ HX1.out HX2.out HX3.out).mono ?_); rintro e w3 ⟨rfl, hb3'⟩; have HY1 := Lib.hid (HX1.out.at_ hb3'); have HY2 := Lib.hid (HX2.out.at_ hb3'); have HUY := Lib.hid (HU.out.at_ hb3'); have HB3 := Lib.hid (below_two HB2.out hb3'); clear hb3' HX1 HX2 HX3 HB2 HU))
              | (go_at_call 23; ((with_reducible refine (KC2.out _ _ _ _ HY1.out HY2.out HUY.out).mono ?_); rintro e w4 ⟨rfl, hb4'⟩; have HUZ := Lib.hid (HUY.out.at_ hb4'); have HB4 := Lib.hid (below_two HB3.out hb4'); clear hb4')))
            go_meet
            exact ⟨rfl, HB4, HUZ⟩
          | true =>
            rw [hcb] at KC1
            clear hcb
            go_wp2_with (first
              | (go_at_call 23; ((with_reducible refine (KC1.out _ _ _ _ HX1.out HX2.out HX3.out).mono ?_); rintro e w3 ⟨rfl, hb3'⟩; have HY1 := Lib.hid (HX1.out.at_ hb3'); have HY2 := Lib.hid (HX2.out.at_ hb3'); have HUY := Lib.hid (HU.out.at_ hb3'); have HB3 := Lib.hid (below_two HB2.out hb3'); clear hb3' HX1 HX2 HX3 HB2 HU))
              | (go_at_call 23; ((with_reducible refine (KC2.out _ _ _ _ HY1.out HY2.out HUY.out).mono ?_); rintro e w4 ⟨rfl, hb4'⟩; have HUZ := Lib.hid (HUY.out.at_ hb4'); have HB4 := Lib.hid (below_two HB3.out hb4'); clear hb4')))
            go_meet
            exact ⟨rfl, HB4, HUZ⟩
        case rest =>
          clear HU HX1 HX2 HX3 KC1 KC2 HB2
          obtain ⟨rfl, HB3, HU3⟩ := hcut
          obtain ⟨w3, rfl⟩ : ∃ W, W = wc := ⟨_, rfl⟩
          have HY1 : Hid (LSl w3 w3.heap.size (.slice A1 l.length c1) l) := Lib.hid (HV1.out.at_ HB3.out)
          have HY2 : Hid (WSl w3 w3.heap.size (.slice A2 ws.length c2) ws) := Lib.hid (HV2.out.at_ HB3.out)
          have hwk : IntKind.i64.wrap ((ws.length : Int) + 1) = (ws.length : Int) + 1 := by rw [IntKind.wrap_i64]; omega
          go_wp2_with (go_at_call 27; fail)
          refine (pick_len1 turn ws.length w3 (by omega) hn1 hn2).mono ?_
          rintro e w9 ⟨k, hk, rfl, rfl⟩
          obtain ⟨i0, hi0, hz0', hz1', hz2'⟩ := info_parts infoWant
          have I1 := Lib.hid hi0
          have I2 := Lib.hid hz0'
          have I3 := Lib.hid hz1'
          have I4 := Lib.hid hz2'
          have HLs : Hid (Lies w3 w3.heap.size A2 (wcells ws)) := Lib.hid (by obtain ⟨_, _, e, _, _, _, h⟩ := HY2.out; cases e; exact h)
          have HCZ : Hid (A2 = none → ws.length = 0 ∧ c2 = 0) := Lib.hid (fun h => by have := hcz2 h; omega)
          clear hi0 hz0' hz1' hz2' hcz2
          go_wp2_with fail
          refine wp_region_held_drew (S := fun w' => Below w3.heap.size w3 w') (by kernel_rfl) ((Below.refl _ _).drew) (fun hS => ?_)
          refine wpAnyH_take (i := 1) (v := (.slice A2 ws.length c2)) rfl (by kernel_rfl) (by kernel_rfl) (by kernel_rfl) (fun _ _ _ h => h) (Or.inl ⟨by kernel_rfl, fun w' hS' => by go_simp⟩) hS ?_
          refine wpAnyH_take (i := 2) (v := (.int .i64 (k : Int))) rfl (by kernel_rfl) (by kernel_rfl) (by kernel_rfl) (fun _ _ _ h => h) (Or.inl ⟨by kernel_rfl, fun w' hS' => by go_simp⟩) hS ?_
          refine wpAnyH_take (i := 3) (v := (.slice (dropO A2 k c2) (ws.length - k) (c2 - k))) rfl (by kernel_rfl) (by kernel_rfl) (by kernel_rfl) (fun _ _ _ h => h) (Or.inl ⟨by kernel_rfl, fun w' hS' => by go_simp; first | done | (rw [if_pos (by omega)]; rfl)⟩) hS ?_
          refine wpAnyH_take (i := 5) (v := (.slice A2 ws.length c2)) rfl (by kernel_rfl) (by kernel_rfl) (by kernel_rfl) (fun _ _ _ h => h) (Or.inl ⟨by kernel_rfl, fun w' hS' => by go_simp⟩) hS ?_
          refine wpAnyH_take (i := 6) (v := (.int .i64 (k : Int))) rfl (by kernel_rfl) (by kernel_rfl) (by kernel_rfl) (fun _ _ _ h => h) (Or.inl ⟨by kernel_rfl, fun w' hS' => by go_simp⟩) hS ?_
          refine wpAnyH_take (i := 7) (v := (.slice A2 k c2)) rfl (by kernel_rfl) (by kernel_rfl) (by kernel_rfl) (fun _ _ _ h => h) (Or.inl ⟨by kernel_rfl, fun w' hS' => by go_simp; first | done | exact fun h => absurd h (by omega)⟩) hS ?_
          refine wpAnyH_ready (rs := [0]) (by kernel_rfl) (by simp) ?_
          refine AllReadyH.cons rfl (fun K hK => ?_) AllReadyH.nil
          go_simp
          skip
          refine hK.out _ _ (hS.alloc (by simp) _) (fun hS => ?_)
          clear hK K
          have hown0 : ((w3.alloc (Obj.cells #[] 47)).drew).ownsRow w3.heap.size 47 3 (.slice (some ⟨w3.heap.size, 0, none⟩) 0 0) 0 [] := (World.ownsRow_lit w3 #[] 0 (Nat.le_refl _) (by simp [maxLen]) rfl).drew
          refine wpAnyH_ready (rs := [4]) (by kernel_rfl) (by simp) ?_
          refine AllReadyH.cons rfl (fun K hK => ?_) AllReadyH.nil
          refine step_append_any (by rfl) (.tmp 68) (.tmp 71) 23 (by rfl) w3.heap.size 47 i0 _ 3 32 Try.underlying23 I1.out I2.out I3.out I4.out rfl (by decide) _ 0 [] (by simp [Act.eval, Act.put]) hown0 (dropO A2 k c2) (ws.length - k) (c2 - k) (wcells (ws.drop k)) (by simp [Act.eval, Act.put]) (by rw [wcells_length, List.length_drop]) (fun h => by have := HCZ.out (dropO_none h); omega) (dropO_reads (HLs.out.below hS) (by omega)) (wcells_one _) (by unfold maxLen; omega) (by omega) (by simp) ?_
          intro v4 w4 hown4' hg4' hq0
          clear hq0
          rw [Nat.zero_add, List.nil_append] at hown4'
          obtain ⟨A4, c4, rfl, hq1, hq2, hq3⟩ := own_form hown4'
          clear hq1 hq2 hq3
          have hown4 := Lib.hid hown4'
          have hg4 := Lib.hid hg4'.out
          clear hown4' hg4' hown0
          refine hK.out _ _ (hS.grown hg4.out (by simp) (fun j hj => by cases hj; exact Nat.le_refl _)) (fun hS => ?_)
          clear hK K
          refine wpAnyH_ready (rs := [8]) (by kernel_rfl) (by simp) ?_
          refine AllReadyH.cons rfl (fun K hK => ?_) AllReadyH.nil
          refine step_append_any (by rfl) (.tmp 72) (.tmp 75) 23 (by rfl) w3.heap.size 47 i0 _ 3 32 Try.underlying23 I1.out I2.out I3.out I4.out rfl (by decide) _ (ws.length - k) _ (by simp [Act.eval, Act.put]) hown4.out A2 k c2 (wcells (ws.take k)) (by simp [Act.eval, Act.put]) (by rw [wcells_length, List.length_take, Nat.min_eq_left (by omega)]) (fun h => by have := HCZ.out h; omega) (takeO_reads (by omega) (HLs.out.below hS)) (wcells_one _) (by unfold maxLen; omega) (by omega) (by have := hS.size; omega) ?_
          intro v5 w5 hown5' hg5' hq0
          clear hq0
          have hown5 := Lib.hid hown5'
          have hg5 := Lib.hid hg5'.out
          have hlt4 := hown4.out.lt
          clear hown5' hg5'
          refine hK.out _ _ (hS.grown hg5.out (by have := hS.size; omega) (fun j hj => (hlt4 j hj).1)) (fun hS => ?_)
          clear hK K
          refine wpAnyH_take (i := 9) (v := (v5)) rfl (by kernel_rfl) (by kernel_rfl) (by kernel_rfl) (fun _ _ _ h => h) (Or.inl ⟨by kernel_rfl, fun w' hS' => by go_simp⟩) hS ?_
          refine wpAnyH_done (by kernel_rfl) ?_ _
          go_simp
          first | (rename_i hnext; refine hnext _ _ ?_; clear hnext) | (rename_i hnext _; refine hnext _ _ ?_; clear hnext) | (rename_i hnext _ _; refine hnext _ _ ?_; clear hnext) | (rename_i hnext _ _ _; refine hnext _ _ ?_; clear hnext)
          obtain ⟨ot, hot, hpm, hlo⟩ : ∃ ot : List Wt, ws.drop k ++ ws.take k = ot ∧ ot.Perm ws ∧ ot.length = (ws.length - k) + k := ⟨_, rfl, turn_perm ws k, by rw [List.length_append, List.length_take, List.length_drop, Nat.min_eq_left (by omega)]⟩
          have HLE : Hid (WSl w5 w5.heap.size v5 ot) := Lib.hid (WSl.own (by rw [hlo, ← hot, wcells_append]; exact hown5.out))
          have hlo60 : ot.length ≤ 1099511627776 := by omega
          have HPM := Lib.hid hpm
          have hb5' := hS
          clear hown4 hown5 hg4 hg5 hlt4 HLs I1 I2 I3 I4 hot hlo HCZ hpm hS
          have hF2 : fitsP l ot := fits_perm HPM.out.symm hF
          have K2 := Lib.hid (fits_yes hF2 HS.out (by omega) hlo60)
          have KL := Lib.hid (left_yes (l := l) (ws := ws) (by omega) (by omega) HS.out)
          have HT1 := Lib.hid (HY1.out.at_ hb5')
          have HT2 := Lib.hid (HY2.out.at_ hb5')
          have HU5 := Lib.hid (HU3.out.at_ hb5')
          have HB5 := Lib.hid (below_two HB3.out hb5')
          clear hb5' HY1 HY2 HB3 HU3 hF2 hwk
          go_wp2_with (first
            | (go_at_call 18; ((with_reducible refine (K2.out _ _ _ HT1.out HLE.out).mono ?_); rintro e w6 ⟨rfl, hb6'⟩; have HZ1 := Lib.hid (HT1.out.at_ hb6'); have HZ2 := Lib.hid (HT2.out.at_ hb6'); have HU6 := Lib.hid (HU5.out.at_ hb6'); have HB6 := Lib.hid (below_two HB5.out hb6'); clear hb6' HT1 HT2 HB5 HLE HU5))
            | (go_at_call 15; fail))
          refine (KL.out _ _ _ HZ1.out HZ2.out HSV.out).mono ?_
          rintro e w7 ⟨hb7', v7, rfl, hown7⟩
          have HR7 : Hid (LSl w7 w7.heap.size v7 (leftL l q)) := Lib.hid (LSl.own hown7)
          obtain ⟨A7, c7, rfl, hc71, hc72, _⟩ := own_form hown7
          have HG1 := Lib.hid (HZ1.out.at_ hb7')
          have HU7 := Lib.hid (HU6.out.at_ hb7')
          have HB7 := Lib.hid (below_two HB6.out hb7')
          have htot := HSV.out.total
          have hrg := HSV.out.range
          have hll : (leftL l q).length ≤ l.length := by have := leftL_le l q l.length; rwa [List.take_of_length_le (Nat.le_refl _)] at this
          obtain ⟨hq1, hq0⟩ := sumQ_bound (mayB_true hF.1).2.2.1 h40
          have hqL : ∀ x ∈ (leftL l q).map Lt.qty, 0 ≤ x := fun x hx => by
            obtain ⟨y, hy, rfl⟩ := List.mem_map.1 hx
            unfold leftL at hy
            obtain ⟨z, hz, rfl⟩ := List.mem_map.1 hy
            exact (hrg z.id).1
          have hqU : ∀ x ∈ U.map Us.qty, 0 ≤ x := fun x hx => by
            obtain ⟨y, hy, rfl⟩ := List.mem_map.1 hx
            exact (HSZU.out.2 y hy).1
          obtain ⟨L, hL⟩ : ∃ L, leftL l q = L := ⟨_, rfl⟩
          rw [hL] at HR7 htot hll hqL hc71 ⊢
          obtain ⟨SQ, hSQ⟩ : ∃ n, sumQ l = n := ⟨_, rfl⟩
          obtain ⟨SL, hSL⟩ : ∃ n, sumQ L = n := ⟨_, rfl⟩
          obtain ⟨SU, hSU⟩ : ∃ n, sumUs U = n := ⟨_, rfl⟩
          have P1 : Hid (∀ k, 0 ≤ ((l.map Lt.qty).take k).sum ∧ ((l.map Lt.qty).take k).sum ≤ SQ) := Lib.hid (fun k => by rw [← hSQ]; exact sum_take_bound _ k hq0)
          have P2 : Hid (∀ k, 0 ≤ ((L.map Lt.qty).take k).sum ∧ ((L.map Lt.qty).take k).sum ≤ SL) := Lib.hid (fun k => by rw [← hSL]; exact sum_take_bound _ k hqL)
          have P3 : Hid (∀ k, 0 ≤ ((U.map Us.qty).take k).sum ∧ ((U.map Us.qty).take k).sum ≤ SU) := Lib.hid (fun k => by rw [← hSU]; exact sum_take_bound _ k hqU)
          have E1 : Hid (((l.map Lt.qty).take l.length).sum = SQ) := Lib.hid (by rw [List.take_of_length_le (by rw [List.length_map]; exact Nat.le_refl _)]; exact hSQ)
          have E2 : Hid (((L.map Lt.qty).take L.length).sum = SL) := Lib.hid (by rw [List.take_of_length_le (by rw [List.length_map]; exact Nat.le_refl _)]; exact hSL)
          have E3 : Hid (((U.map Us.qty).take U.length).sum = SU) := Lib.hid (by rw [List.take_of_length_le (by rw [List.length_map]; exact Nat.le_refl _)]; exact hSU)
          have HTOT : Hid (SL + SU = SQ) := Lib.hid (by rw [← hSL, ← hSU, ← hSQ]; exact htot)
          rw [hSQ] at hq1
          have HQ1 := Lib.hid hq1
          clear hb7' hown7 HZ1 HZ2 HU6 HB6 htot hrg hq0 hqL hqU hL hSQ hSL hSU hq1 K2 KL HPM HSZU
          go_wp2_with fail
          go_loopw [15, 16] (fun n i wr => ∃ k : Nat, k ≤ l.length ∧ i = .int .i64 k ∧ n = .int .i64 (((l.map Lt.qty).take k).sum) ∧ Hid (Below w7.heap.size w7 wr)) (fun _ i _ => l.length - (intOf i).toNat)
          case atStart => exact ⟨0, Nat.zero_le _, rfl, by simp, Lib.hid (Below.refl _ _)⟩
          case round =>
            obtain ⟨k, hk, rfl, rfl, HBr⟩ := hrel
            by_cases hlt : k < l.length
            · obtain ⟨x, hx⟩ : ∃ x, l[k]? = some x := ⟨_, List.getElem?_eq_getElem hlt⟩
              obtain ⟨_, _, he, _, _, _, hLL⟩ := HG1.out.below HBr.out
              cases he
              obtain ⟨ad, rfl, hab, hc0, hc1', hc2', hc3, hc4, hc5⟩ := hLL.six hx
              have hst := Lib.hid (sum_succ (l := l.map Lt.qty) (k := k) (x := x.qty) (by rw [List.getElem?_map, hx]; rfl))
              have hp := P1.out k
              have hp2 := P1.out (k + 1)
              rw [hst.out] at hp2
              have hq1 := HQ1.out
              generalize ((l.map Lt.qty).take k).sum = sk at hp hp2 hst ⊢
              have hwr : IntKind.i64.wrap (sk + x.qty) = sk + x.qty := by rw [IntKind.wrap_i64]; omega
              clear hx hLL hc0 hc1' hc2' hc3 hc5
              go_wp2
              go_roundw
              case rel => exact ⟨k + 1, by omega, by go_num, by rw [hst.out], HBr⟩
              case measure => simp [intOf]; omega
            · obtain rfl : k = l.length := by omega
              rw [E1.out]
              have HG7 := Lib.hid (HR7.out.at_ HBr.out)
              have HU8 := Lib.hid (HU7.out.at_ HBr.out)
              have HB8 := Lib.hid (below_two HB7.out HBr.out)
              obtain ⟨w8, rfl⟩ : ∃ W, W = wr := ⟨_, rfl⟩
              clear HBr HR7 HU7 HB7 HG1
              go_wp2_with fail
              go_loopw [15, 17] (fun n i wr => ∃ k : Nat, k ≤ L.length ∧ i = .int .i64 k ∧ n = .int .i64 (SQ - ((L.map Lt.qty).take k).sum) ∧ Hid (Below w8.heap.size w8 wr)) (fun _ i _ => L.length - (intOf i).toNat)
              case atStart => exact ⟨0, Nat.zero_le _, rfl, by simp, Lib.hid (Below.refl _ _)⟩
              case round =>
                obtain ⟨k, hk, rfl, rfl, HBr⟩ := hrel
                by_cases hlt : k < L.length
                · obtain ⟨x, hx⟩ : ∃ x, L[k]? = some x := ⟨_, List.getElem?_eq_getElem hlt⟩
                  obtain ⟨_, _, he, _, _, _, hLL⟩ := HG7.out.below HBr.out
                  cases he
                  obtain ⟨ad, rfl, hab, hc0, hc1', hc2', hc3, hc4, hc5⟩ := hLL.six hx
                  have hst := Lib.hid (sum_succ (l := L.map Lt.qty) (k := k) (x := x.qty) (by rw [List.getElem?_map, hx]; rfl))
                  have hp := P2.out k
                  have hp2 := P2.out (k + 1)
                  rw [hst.out] at hp2
                  have hq1 := HQ1.out
                  have htt := HTOT.out
                  have hp3 := P3.out 0
                  generalize ((L.map Lt.qty).take k).sum = sk at hp hp2 hst ⊢
                  have hwr : IntKind.i64.wrap (SQ - sk - x.qty) = SQ - sk - x.qty := by rw [IntKind.wrap_i64]; omega
                  clear hx hLL hc0 hc1' hc2' hc3 hc5 hp3
                  go_wp2
                  go_roundw
                  case rel => exact ⟨k + 1, by omega, by go_num, by rw [hst.out]; congr 1; omega, HBr⟩
                  case measure => simp [intOf]; omega
                · obtain rfl : k = L.length := by omega
                  rw [E2.out]
                  have HU9 := Lib.hid (HU8.out.at_ HBr.out)
                  have HB9 := Lib.hid (below_two HB8.out HBr.out)
                  obtain ⟨w9, rfl⟩ : ∃ W, W = wr := ⟨_, rfl⟩
                  clear HBr HU8 HB8 HG7
                  go_wp2_with fail
                  go_loopw [15, 18] (fun n i wr => ∃ k : Nat, k ≤ U.length ∧ i = .int .i64 k ∧ n = .int .i64 (SQ - SL - ((U.map Us.qty).take k).sum) ∧ Hid (Below w9.heap.size w9 wr)) (fun _ i _ => U.length - (intOf i).toNat)
                  case atStart => exact ⟨0, Nat.zero_le _, rfl, by simp, Lib.hid (Below.refl _ _)⟩
                  case round =>
                    obtain ⟨k, hk, rfl, rfl, HBr⟩ := hrel
                    by_cases hlt : k < U.length
                    · obtain ⟨x, hx⟩ : ∃ x, U[k]? = some x := ⟨_, List.getElem?_eq_getElem hlt⟩
                      obtain ⟨_, _, he, _, _, _, hLL⟩ := HU9.out.below HBr.out
                      cases he
                      obtain ⟨ad, rfl, hab, hc0, hc1', hc2'⟩ := hLL.rowU hx
                      have hst := Lib.hid (sum_succ (l := U.map Us.qty) (k := k) (x := x.qty) (by rw [List.getElem?_map, hx]; rfl))
                      have hp := P3.out k
                      have hp2 := P3.out (k + 1)
                      rw [hst.out] at hp2
                      have hq1 := HQ1.out
                      have htt := HTOT.out
                      have hp0 := P2.out 0
                      generalize ((U.map Us.qty).take k).sum = sk at hp hp2 hst ⊢
                      obtain ⟨D, hD⟩ : ∃ D, SQ - SL = D := ⟨_, rfl⟩
                      rw [hD]
                      have hwr : IntKind.i64.wrap (D - sk - x.qty) = D - sk - x.qty := by rw [IntKind.wrap_i64]; omega
                      clear hx hLL hc0 hc1' hp0
                      go_wp2
                      go_roundw
                      case rel => exact ⟨k + 1, by omega, by go_num, by rw [hst.out]; congr 1; omega, HBr⟩
                      case measure => simp [intOf]; omega
                    · obtain rfl : k = U.length := by omega
                      rw [E3.out]
                      have hzz : SQ - SL - SU = 0 := by have := HTOT.out; omega
                      rw [hzz]
                      go_wp2
                      go_ret
                      exact ⟨rfl, below_two HB9.out HBr.out⟩
      · have KF := Lib.hid (fill_not (l := l) (ws := ws) (by omega) (by omega) HS.out)
        have hcb : checkB l ws us = false := by
          cases h : checkB l ws us with
          | false => rfl
          | true => exact absurd (check_can h) hF
        have KC : Hid (∀ v1 v2 v3 W, LSl W W.heap.size v1 l → WSl W W.heap.size v2 ws → USl W W.heap.size v3 us → Calls Try.prog 23 #[v1, v2, v3] W fun e w' => e = .returned (.bool false) ∧ Below W.heap.size W w') := Lib.hid (fun v1 v2 v3 W a b c => by rw [← hcb]; exact check_any v1 v2 v3 l ws us W (by omega) (by omega) (by omega) HS.out HSU.out a b c)
        clear hcb
        have hwk : IntKind.i64.wrap ((ws.length : Int) + 1) = (ws.length : Int) + 1 := by rw [IntKind.wrap_i64]; omega
        go_wp2_with (first
          | (go_at_call 10; ((with_reducible refine (small_any _ _ _ _ _ _ _).mono ?_); rintro e w2 ⟨rfl, rfl⟩; rw [hsd]))
          | (go_at_call 13; ((with_reducible refine (KF.out _ _ _ HW1.out HW2.out hF).mono ?_); rintro e w2 ⟨rfl, hb2'⟩; have HX1 := Lib.hid (HW1.out.at_ hb2'); have HX2 := Lib.hid (HW2.out.at_ hb2'); have HX3 := Lib.hid (HW3.out.at_ hb2'); have HB2 := Lib.hid (below_two HB1.out hb2'); clear hb2' HW1 HW2 HW3 HB1))
          | (go_at_call 23; ((with_reducible refine (KC.out _ _ _ _ HX1.out HX2.out HX3.out).mono ?_); rintro e w3 ⟨rfl, hb3'⟩; have HY1 := Lib.hid (HX1.out.at_ hb3'); have HY2 := Lib.hid (HX2.out.at_ hb3'); have HB3 := Lib.hid (below_two HB2.out hb3'); clear hb3' HX1 HX2 HX3 HB2))
          | (go_at_call 27; fail))
        refine (pick_len1 turn ws.length w3 (by omega) hn1 hn2).mono ?_
        rintro e w9 ⟨k, hk, rfl, rfl⟩
        obtain ⟨i0, hi0, hz0', hz1', hz2'⟩ := info_parts infoWant
        have I1 := Lib.hid hi0
        have I2 := Lib.hid hz0'
        have I3 := Lib.hid hz1'
        have I4 := Lib.hid hz2'
        have HLs : Hid (Lies w3 w3.heap.size A2 (wcells ws)) := Lib.hid (by obtain ⟨_, _, e, _, _, _, h⟩ := HY2.out; cases e; exact h)
        have HCZ : Hid (A2 = none → ws.length = 0 ∧ c2 = 0) := Lib.hid (fun h => by have := hcz2 h; omega)
        clear hi0 hz0' hz1' hz2' hcz2
        go_wp2_with fail
        refine wp_region_held_drew (S := fun w' => Below w3.heap.size w3 w') (by kernel_rfl) ((Below.refl _ _).drew) (fun hS => ?_)
        refine wpAnyH_take (i := 1) (v := (.slice A2 ws.length c2)) rfl (by kernel_rfl) (by kernel_rfl) (by kernel_rfl) (fun _ _ _ h => h) (Or.inl ⟨by kernel_rfl, fun w' hS' => by go_simp⟩) hS ?_
        refine wpAnyH_take (i := 2) (v := (.int .i64 (k : Int))) rfl (by kernel_rfl) (by kernel_rfl) (by kernel_rfl) (fun _ _ _ h => h) (Or.inl ⟨by kernel_rfl, fun w' hS' => by go_simp⟩) hS ?_
        refine wpAnyH_take (i := 3) (v := (.slice (dropO A2 k c2) (ws.length - k) (c2 - k))) rfl (by kernel_rfl) (by kernel_rfl) (by kernel_rfl) (fun _ _ _ h => h) (Or.inl ⟨by kernel_rfl, fun w' hS' => by go_simp; first | done | (rw [if_pos (by omega)]; rfl)⟩) hS ?_
        refine wpAnyH_take (i := 5) (v := (.slice A2 ws.length c2)) rfl (by kernel_rfl) (by kernel_rfl) (by kernel_rfl) (fun _ _ _ h => h) (Or.inl ⟨by kernel_rfl, fun w' hS' => by go_simp⟩) hS ?_
        refine wpAnyH_take (i := 6) (v := (.int .i64 (k : Int))) rfl (by kernel_rfl) (by kernel_rfl) (by kernel_rfl) (fun _ _ _ h => h) (Or.inl ⟨by kernel_rfl, fun w' hS' => by go_simp⟩) hS ?_
        refine wpAnyH_take (i := 7) (v := (.slice A2 k c2)) rfl (by kernel_rfl) (by kernel_rfl) (by kernel_rfl) (fun _ _ _ h => h) (Or.inl ⟨by kernel_rfl, fun w' hS' => by go_simp; first | done | exact fun h => absurd h (by omega)⟩) hS ?_
        refine wpAnyH_ready (rs := [0]) (by kernel_rfl) (by simp) ?_
        refine AllReadyH.cons rfl (fun K hK => ?_) AllReadyH.nil
        go_simp
        skip
        refine hK.out _ _ (hS.alloc (by simp) _) (fun hS => ?_)
        clear hK K
        have hown0 : ((w3.alloc (Obj.cells #[] 47)).drew).ownsRow w3.heap.size 47 3 (.slice (some ⟨w3.heap.size, 0, none⟩) 0 0) 0 [] := (World.ownsRow_lit w3 #[] 0 (Nat.le_refl _) (by simp [maxLen]) rfl).drew
        refine wpAnyH_ready (rs := [4]) (by kernel_rfl) (by simp) ?_
        refine AllReadyH.cons rfl (fun K hK => ?_) AllReadyH.nil
        refine step_append_any (by rfl) (.tmp 68) (.tmp 71) 23 (by rfl) w3.heap.size 47 i0 _ 3 32 Try.underlying23 I1.out I2.out I3.out I4.out rfl (by decide) _ 0 [] (by simp [Act.eval, Act.put]) hown0 (dropO A2 k c2) (ws.length - k) (c2 - k) (wcells (ws.drop k)) (by simp [Act.eval, Act.put]) (by rw [wcells_length, List.length_drop]) (fun h => by have := HCZ.out (dropO_none h); omega) (dropO_reads (HLs.out.below hS) (by omega)) (wcells_one _) (by unfold maxLen; omega) (by omega) (by simp) ?_
        intro v4 w4 hown4' hg4' hq0
        clear hq0
        rw [Nat.zero_add, List.nil_append] at hown4'
        obtain ⟨A4, c4, rfl, hq1, hq2, hq3⟩ := own_form hown4'
        clear hq1 hq2 hq3
        have hown4 := Lib.hid hown4'
        have hg4 := Lib.hid hg4'.out
        clear hown4' hg4' hown0
        refine hK.out _ _ (hS.grown hg4.out (by simp) (fun j hj => by cases hj; exact Nat.le_refl _)) (fun hS => ?_)
        clear hK K
        refine wpAnyH_ready (rs := [8]) (by kernel_rfl) (by simp) ?_
        refine AllReadyH.cons rfl (fun K hK => ?_) AllReadyH.nil
        refine step_append_any (by rfl) (.tmp 72) (.tmp 75) 23 (by rfl) w3.heap.size 47 i0 _ 3 32 Try.underlying23 I1.out I2.out I3.out I4.out rfl (by decide) _ (ws.length - k) _ (by simp [Act.eval, Act.put]) hown4.out A2 k c2 (wcells (ws.take k)) (by simp [Act.eval, Act.put]) (by rw [wcells_length, List.length_take, Nat.min_eq_left (by omega)]) (fun h => by have := HCZ.out h; omega) (takeO_reads (by omega) (HLs.out.below hS)) (wcells_one _) (by unfold maxLen; omega) (by omega) (by have := hS.size; omega) ?_
        intro v5 w5 hown5' hg5' hq0
        clear hq0
        have hown5 := Lib.hid hown5'
        have hg5 := Lib.hid hg5'.out
        have hlt4 := hown4.out.lt
        clear hown5' hg5'
        refine hK.out _ _ (hS.grown hg5.out (by have := hS.size; omega) (fun j hj => (hlt4 j hj).1)) (fun hS => ?_)
        clear hK K
        refine wpAnyH_take (i := 9) (v := (v5)) rfl (by kernel_rfl) (by kernel_rfl) (by kernel_rfl) (fun _ _ _ h => h) (Or.inl ⟨by kernel_rfl, fun w' hS' => by go_simp⟩) hS ?_
        refine wpAnyH_done (by kernel_rfl) ?_ _
        go_simp
        first | (rename_i hnext; refine hnext _ _ ?_; clear hnext) | (rename_i hnext _; refine hnext _ _ ?_; clear hnext) | (rename_i hnext _ _; refine hnext _ _ ?_; clear hnext) | (rename_i hnext _ _ _; refine hnext _ _ ?_; clear hnext)
        obtain ⟨ot, hot, hpm, hlo⟩ : ∃ ot : List Wt, ws.drop k ++ ws.take k = ot ∧ ot.Perm ws ∧ ot.length = (ws.length - k) + k := ⟨_, rfl, turn_perm ws k, by rw [List.length_append, List.length_take, List.length_drop, Nat.min_eq_left (by omega)]⟩
        have HLE : Hid (WSl w5 w5.heap.size v5 ot) := Lib.hid (WSl.own (by rw [hlo, ← hot, wcells_append]; exact hown5.out))
        have hlo60 : ot.length ≤ 1099511627776 := by omega
        have HPM := Lib.hid hpm
        have hb5' := hS
        clear hown4 hown5 hg4 hg5 hlt4 HLs I1 I2 I3 I4 hot hlo HCZ hpm hS
        have hF2 : ¬ fitsP l ot := fun h => hF (fits_perm HPM.out h)
        have K2 := Lib.hid (fits_not hF2 HS.out (by omega) hlo60)
        have KL := Lib.hid (left_not (l := l) (ws := ws) (by omega) (by omega) HS.out)
        have HT1 := Lib.hid (HY1.out.at_ hb5')
        have HT2 := Lib.hid (HY2.out.at_ hb5')
        have HB5 := Lib.hid (below_two HB3.out hb5')
        clear hb5' HY1 HY2 HB3 hF2 hwk
        go_wp2_with (first
          | (go_at_call 18; ((with_reducible refine (K2.out _ _ _ HT1.out HLE.out).mono ?_); rintro e w6 ⟨rfl, hb6'⟩; have HZ1 := Lib.hid (HT1.out.at_ hb6'); have HZ2 := Lib.hid (HT2.out.at_ hb6'); have HB6 := Lib.hid (below_two HB5.out hb6'); clear hb6' HT1 HT2 HB5 HLE))
          | (go_at_call 15; ((with_reducible refine (KL.out _ _ _ HZ1.out HZ2.out hF).mono ?_); rintro e w7 ⟨rfl, hb7'⟩; have HB7 := Lib.hid (below_two HB6.out hb7'); clear hb7' HB6 HZ1 HZ2)))
        go_ret
        exact ⟨rfl, HB7.out⟩
    · have hd2 : decide (200 < (us.length : Int)) = true := decide_eq_true (by omega)
      go_wp2_with (go_at_call 10; ((with_reducible refine (small_any _ _ _ _ _ _ _).mono ?_); rintro e w2 ⟨rfl, rfl⟩; rw [hsd]))
      go_ret
      exact ⟨rfl, HB1.out⟩
  · have hsd : decide (l.length ≤ 40 ∧ ws.length ≤ 60) = false := decide_eq_false hS4
    clear hS4
    go_wp2_with (go_at_call 10; ((with_reducible refine (small_any _ _ _ _ _ _ _).mono ?_); rintro e w2 ⟨rfl, rfl⟩; rw [hsd]))
    go_ret
    exact ⟨rfl, HB1.out⟩
end Go.Proofs.Ytddnfikjfmfhfaa
end
section
/- The reference's Fill and Left in plain words: which want is next, which lot is least. No walk. -/
namespace Go.Proofs.Ytddnfikjfmfhfaa
set_option linter.unusedVariables false
/-- Among the first i places that are not done: the one of the least day, the first of these; -1, if there is none. -/
def NextAt (ws : List Wt) (D : List Nat) (i : Nat) (kk : Int) : Prop := (kk = -1 ∧ ∀ j, j < i → j ∈ D) ∨ (∃ m, kk = ((m : Nat) : Int) ∧ m < i ∧ m ∉ D ∧ ∀ j, j < i → j ∉ D → dayAt ws m < dayAt ws j ∨ (dayAt ws m = dayAt ws j ∧ m ≤ j))
theorem next_end {ws : List Wt} {P D R : List Nat} {p : Nat} {kk : Int} (hP : Days ws P) (hD : P = D ++ p :: R) (h : NextAt ws D ws.length kk) : kk = (p : Int) := by
  have hnd : P.Nodup := hP.perm.nodup_iff.2 List.nodup_range
  have hmem : ∀ j, j < ws.length ↔ j ∈ P := fun j => by rw [hP.perm.mem_iff, List.mem_range]
  rw [hD, List.nodup_append, List.nodup_cons] at hnd
  have hpD : p ∉ D := fun hd => hnd.2.2 p hd p (by simp) rfl
  have hpl : p < ws.length := (hmem p).2 (by rw [hD]; simp)
  rcases h with ⟨_, h⟩ | ⟨m, rfl, hm, hmD, hmin⟩
  · exact absurd (h p hpl) hpD
  · by_cases e : m = p
    · rw [e]
    · exfalso
      have hmP := (hmem m).1 hm
      rw [hD] at hmP
      rcases List.mem_append.1 hmP with h1 | h1
      · exact hmD h1
      · rcases List.mem_cons.1 h1 with h1 | h1
        · exact e h1
        · have hs := hP.sorted
          rw [hD, List.pairwise_append, List.pairwise_cons] at hs
          have := hs.2.1.1 m h1
          have := hmin p hpl hpD
          omega
theorem next_done {ws : List Wt} {D : List Nat} {i : Nat} {kk : Int} (h : NextAt ws D i kk) (hd : i ∈ D) : NextAt ws D (i + 1) kk := by
  rcases h with ⟨h1, h2⟩ | ⟨m, h1, h2, h3, h4⟩
  · exact .inl ⟨h1, fun j hj => by rcases Nat.lt_succ_iff_lt_or_eq.1 hj with h | h; exact h2 j h; subst h; exact hd⟩
  · exact .inr ⟨m, h1, by omega, h3, fun j hj hjd => by rcases Nat.lt_succ_iff_lt_or_eq.1 hj with h | h; exact h4 j h hjd; subst h; exact absurd hd hjd⟩
theorem next_first {ws : List Wt} {D : List Nat} {i : Nat} (h : NextAt ws D i (-1)) (hd : i ∉ D) : NextAt ws D (i + 1) (i : Int) := by
  rcases h with ⟨h1, h2⟩ | ⟨m, h1, h2, h3, h4⟩
  · exact .inr ⟨i, rfl, Nat.lt_succ_self _, hd, fun j hj hjd => by rcases Nat.lt_succ_iff_lt_or_eq.1 hj with h | h; exact absurd (h2 j h) hjd; subst h; exact .inr ⟨rfl, Nat.le_refl _⟩⟩
  · omega
theorem next_less {ws : List Wt} {D : List Nat} {i m : Nat} (h : NextAt ws D i (m : Int)) (hd : i ∉ D) (hl : dayAt ws i < dayAt ws m) : NextAt ws D (i + 1) (i : Int) := by
  rcases h with ⟨h1, h2⟩ | ⟨m', h1, h2, h3, h4⟩
  · omega
  · obtain rfl : m = m' := by omega
    exact .inr ⟨i, rfl, Nat.lt_succ_self _, hd, fun j hj hjd => by
      rcases Nat.lt_succ_iff_lt_or_eq.1 hj with h | h
      · have := h4 j h hjd; exact .inl (by omega)
      · subst h; exact .inr ⟨rfl, Nat.le_refl _⟩⟩
theorem next_same {ws : List Wt} {D : List Nat} {i m : Nat} (h : NextAt ws D i (m : Int)) (hl : ¬ dayAt ws i < dayAt ws m) : NextAt ws D (i + 1) (m : Int) := by
  rcases h with ⟨h1, h2⟩ | ⟨m', h1, h2, h3, h4⟩
  · omega
  · obtain rfl : m = m' := by omega
    exact .inr ⟨m, rfl, by omega, h3, fun j hj hjd => by
      rcases Nat.lt_succ_iff_lt_or_eq.1 hj with h | h
      · exact h4 j h hjd
      · subst h; omega⟩
/-- Something is left of the lot, and it can serve the want. -/
def elig (q : Int → Int) (w : Wt) (x : Lt) : Prop := 0 < q x.id ∧ servesB x w = true
/-- Among the first j lots that may be used: the least; -1, if there is none. -/
def LeastAt (l : List Lt) (q : Int → Int) (w : Wt) (j : Nat) (kk : Int) : Prop := (kk = -1 ∧ ∀ i x, i < j → l[i]? = some x → ¬ elig q w x) ∨ (∃ m x, kk = ((m : Nat) : Int) ∧ m < j ∧ l[m]? = some x ∧ elig q w x ∧ ∀ i y, i < j → l[i]? = some y → elig q w y → cmpL x y ≤ 0)
theorem cmpL_flip {a b : Lt} (h : ¬ cmpL a b < 0) : cmpL b a ≤ 0 := by
  unfold cmpL at *
  rcases cmpI_cases a.un b.un with ⟨h1, e⟩ | ⟨h1, e⟩ | ⟨h1, e⟩ <;> rcases cmpI_cases b.un a.un with ⟨h2, e2⟩ | ⟨h2, e2⟩ | ⟨h2, e2⟩ <;> rcases cmpI_cases a.id b.id with ⟨h3, e3⟩ | ⟨h3, e3⟩ | ⟨h3, e3⟩ <;> rcases cmpI_cases b.id a.id with ⟨h4, e4⟩ | ⟨h4, e4⟩ | ⟨h4, e4⟩ <;> simp [e, e2, e3, e4] at h ⊢ <;> omega
theorem cmpL_trans_ {a b c : Lt} (h : cmpL a b ≤ 0) (h' : cmpL b c ≤ 0) : cmpL a c ≤ 0 := by
  unfold cmpL at *
  rcases cmpI_cases a.un b.un with ⟨h1, e⟩ | ⟨h1, e⟩ | ⟨h1, e⟩ <;> rcases cmpI_cases b.un c.un with ⟨h2, e2⟩ | ⟨h2, e2⟩ | ⟨h2, e2⟩ <;> rcases cmpI_cases a.un c.un with ⟨h5, e5⟩ | ⟨h5, e5⟩ | ⟨h5, e5⟩ <;> rcases cmpI_cases a.id b.id with ⟨h3, e3⟩ | ⟨h3, e3⟩ | ⟨h3, e3⟩ <;> rcases cmpI_cases b.id c.id with ⟨h4, e4⟩ | ⟨h4, e4⟩ | ⟨h4, e4⟩ <;> rcases cmpI_cases a.id c.id with ⟨h6, e6⟩ | ⟨h6, e6⟩ | ⟨h6, e6⟩ <;> simp [e, e2, e3, e4, e5, e6] at h h' ⊢ <;> omega
theorem cmpL_same {a b : Lt} (h : cmpL a b ≤ 0) (h' : cmpL b a ≤ 0) : a.id = b.id := by
  unfold cmpL at *
  rcases cmpI_cases a.un b.un with ⟨h1, e⟩ | ⟨h1, e⟩ | ⟨h1, e⟩ <;> rcases cmpI_cases b.un a.un with ⟨h2, e2⟩ | ⟨h2, e2⟩ | ⟨h2, e2⟩ <;> rcases cmpI_cases a.id b.id with ⟨h3, e3⟩ | ⟨h3, e3⟩ | ⟨h3, e3⟩ <;> rcases cmpI_cases b.id a.id with ⟨h4, e4⟩ | ⟨h4, e4⟩ | ⟨h4, e4⟩ <;> simp [e, e2, e3, e4] at h h' ⊢ <;> omega
section
variable {l : List Lt} {q : Int → Int} {w : Wt} {j : Nat} {kk : Int} {y : Lt}
theorem least_no (h : LeastAt l q w j kk) (hy : l[j]? = some y) (hn : ¬ elig q w y) : LeastAt l q w (j + 1) kk := by
  rcases h with ⟨h1, h2⟩ | ⟨m, x, h1, h2, h3, h4, h5⟩
  · exact .inl ⟨h1, fun i x hi hx => by rcases Nat.lt_succ_iff_lt_or_eq.1 hi with h | h; exact h2 i x h hx; subst h; rw [hy] at hx; cases hx; exact hn⟩
  · exact .inr ⟨m, x, h1, by omega, h3, h4, fun i z hi hz he => by rcases Nat.lt_succ_iff_lt_or_eq.1 hi with h | h; exact h5 i z h hz he; subst h; rw [hy] at hz; cases hz; exact absurd he hn⟩
theorem cmpL_self (x : Lt) : cmpL x x ≤ 0 := by
  unfold cmpL
  rcases cmpI_cases x.un x.un with ⟨h1, e⟩ | ⟨h1, e⟩ | ⟨h1, e⟩ <;> rcases cmpI_cases x.id x.id with ⟨h3, e3⟩ | ⟨h3, e3⟩ | ⟨h3, e3⟩ <;> simp [e, e3] <;> omega
theorem least_first (h : LeastAt l q w j (-1)) (hy : l[j]? = some y) (hn : elig q w y) : LeastAt l q w (j + 1) (j : Int) := by
  rcases h with ⟨h1, h2⟩ | ⟨m, x, h1, h2, h3, h4, h5⟩
  · exact .inr ⟨j, y, rfl, Nat.lt_succ_self _, hy, hn, fun i z hi hz he => by rcases Nat.lt_succ_iff_lt_or_eq.1 hi with h | h; exact absurd he (h2 i z h hz); subst h; rw [hy] at hz; cases hz; exact cmpL_self _⟩
  · omega
theorem least_less {m : Nat} {x : Lt} (h : LeastAt l q w j (m : Int)) (hx : l[m]? = some x) (hy : l[j]? = some y) (hn : elig q w y) (hc : cmpL y x < 0) : LeastAt l q w (j + 1) (j : Int) := by
  rcases h with ⟨h1, h2⟩ | ⟨m', x', h1, h2, h3, h4, h5⟩
  · omega
  · obtain rfl : m = m' := by omega
    rw [hx] at h3; cases h3
    exact .inr ⟨j, y, rfl, Nat.lt_succ_self _, hy, hn, fun i z hi hz he => by
      rcases Nat.lt_succ_iff_lt_or_eq.1 hi with h | h
      · exact cmpL_trans_ (Int.le_of_lt hc) (h5 i z h hz he)
      · subst h; rw [hy] at hz; cases hz; exact cmpL_self _⟩
theorem least_same {m : Nat} {x : Lt} (h : LeastAt l q w j (m : Int)) (hx : l[m]? = some x) (hy : l[j]? = some y) (hc : ¬ cmpL y x < 0) : LeastAt l q w (j + 1) (m : Int) := by
  rcases h with ⟨h1, h2⟩ | ⟨m', x', h1, h2, h3, h4, h5⟩
  · omega
  · obtain rfl : m = m' := by omega
    rw [hx] at h3; cases h3
    exact .inr ⟨m, x, rfl, by omega, hx, h4, fun i z hi hz he => by
      rcases Nat.lt_succ_iff_lt_or_eq.1 hi with h | h
      · exact h5 i z h hz he
      · subst h; rw [hy] at hz; cases hz; exact cmpL_flip hc⟩
theorem least_lt {m : Nat} (h : LeastAt l q w j (m : Int)) : m < j := by
  rcases h with ⟨h1, h2⟩ | ⟨m', x', h1, h2, h3, h4, h5⟩ <;> omega
end
theorem takeG_none (p : Int) (w : Wt) : ∀ (S : List Lt) (n : Int) (q : Int → Int), (n ≤ 0 ∨ ∀ x ∈ S, ¬ elig q w x) → Fl.takeG Lt.id servesB p w S n q = ([], n, q)
  | [], n, q, _ => rfl
  | x :: r, n, q, h => by
    unfold Fl.takeG
    rw [if_neg]
    · exact takeG_none p w r n q (h.imp id (fun h y hy => h y (by simp [hy])))
    · rintro ⟨h1, h2, h3⟩
      rcases h with h | h
      · omega
      · exact h x (by simp) ⟨h2, h3⟩
theorem takeG_skip (p : Int) (w : Wt) : ∀ (A S : List Lt) (n : Int) (q : Int → Int), (∀ x ∈ A, ¬ elig q w x) → Fl.takeG Lt.id servesB p w (A ++ S) n q = Fl.takeG Lt.id servesB p w S n q
  | [], S, n, q, _ => rfl
  | x :: A, S, n, q, h => by
    simp only [List.cons_append]
    conv => lhs; unfold Fl.takeG
    rw [if_neg]
    · exact takeG_skip p w A S n q (fun y hy => h y (by simp [hy]))
    · rintro ⟨h1, h2, h3⟩
      exact h x (by simp) ⟨h2, h3⟩
theorem takeG_first {S A B : List Lt} {z : Lt} {q : Int → Int} {w : Wt} {n t : Int} (p : Int) (hn : (S.map Lt.id).Nodup) (hS : S = A ++ z :: B) (hA : ∀ x ∈ A, ¬ elig q w x) (hz : elig q w z) (h0 : 0 < n) (ht : min n (q z.id) = t) :
    Fl.takeG Lt.id servesB p w S n q = ((p, z.id, t) :: (Fl.takeG Lt.id servesB p w S (n - t) (Fl.bmp q z.id (-t))).1, (Fl.takeG Lt.id servesB p w S (n - t) (Fl.bmp q z.id (-t))).2) := by
  have hz1 := hz.1
  have e : Fl.takeG Lt.id servesB p w S (n - t) (Fl.bmp q z.id (-t)) = Fl.takeG Lt.id servesB p w B (n - t) (Fl.bmp q z.id (-t)) := by
    by_cases hnt : n - t ≤ 0
    · rw [takeG_none p w S _ _ (.inl hnt), takeG_none p w B _ _ (.inl hnt)]
    · rw [hS, takeG_skip p w A _ _ _ (fun x hx he => hA x hx ⟨by
        have h1 := he.1
        rw [hS, List.map_append, List.map_cons, List.nodup_append] at hn
        have hne : x.id ≠ z.id := fun e => hn.2.2 _ (List.mem_map_of_mem hx) z.id (by simp) e
        rwa [Fl.bmp_other _ _ _ _ hne] at h1, he.2⟩)]
      conv => lhs; unfold Fl.takeG
      rw [if_neg]
      rintro ⟨_, h2, _⟩
      rw [Fl.bmp_same] at h2
      omega
  rw [e]
  conv => lhs; rw [hS]; rw [takeG_skip p w A _ _ _ hA]; unfold Fl.takeG
  rw [if_pos ⟨h0, hz.1, hz.2⟩, ht]
/-- The least of all is the first that may be used, in the order of use. -/
theorem least_end {l S : List Lt} {q : Int → Int} {w : Wt} {m : Nat} {x : Lt} (hS : Stab l S) (hn : (l.map Lt.id).Nodup) (h : LeastAt l q w l.length (m : Int)) (hx : l[m]? = some x) : ∃ A B, S = A ++ x :: B ∧ (∀ y ∈ A, ¬ elig q w y) ∧ elig q w x := by
  rcases h with ⟨h1, h2⟩ | ⟨m', x', h1, h2, h3, h4, h5⟩
  · omega
  · obtain rfl : m = m' := by omega
    rw [hx] at h3; cases h3
    have hmin : ∀ y ∈ S, elig q w y → cmpL x y ≤ 0 := fun y hy he => by
      obtain ⟨i, hi⟩ := List.getElem?_of_mem (hS.perm.mem_iff.1 hy)
      exact h5 i y (List.getElem?_eq_some_iff.1 hi).1 hi he
    have hxS : x ∈ S := hS.perm.mem_iff.2 (List.mem_of_getElem? hx)
    obtain ⟨A, B, e⟩ := List.append_of_mem hxS
    refine ⟨A, B, e, fun y hy he => ?_, h4⟩
    have hyS : y ∈ S := by rw [e]; simp [hy]
    have c1 := hmin y hyS he
    have c2 : cmpL y x ≤ 0 := by
      have hp := hS.pairs
      rw [e, List.pairwise_append] at hp
      exact hp.2.2 y hy x (by simp)
    have hid := cmpL_same c1 c2
    have hnS : (S.map Lt.id).Nodup := (hS.perm.map Lt.id).nodup_iff.2 hn
    rw [e, List.map_append, List.map_cons, List.nodup_append] at hnS
    exact hnS.2.2 y.id (List.mem_map_of_mem hy) x.id (by simp) hid.symm
theorem least_none {l S : List Lt} {q : Int → Int} {w : Wt} (hS : Stab l S) (h : LeastAt l q w l.length (-1)) : ∀ y ∈ S, ¬ elig q w y := by
  rcases h with ⟨h1, h2⟩ | ⟨m', x', h1, h2, h3, h4, h5⟩
  · intro y hy
    obtain ⟨i, hi⟩ := List.getElem?_of_mem (hS.perm.mem_iff.1 hy)
    exact h2 i y (List.getElem?_eq_some_iff.1 hi).1 hi
  · omega
/-- What has been taken, what is still to be taken. -/
def Taking (S : List Lt) (p : Int) (w : Wt) (n0 : Int) (q0 : Int → Int) (n : Int) (q : Int → Int) (V : List Us) : Prop :=
  Fl.takeG Lt.id servesB p w S n0 q0 = (V.map useT ++ (Fl.takeG Lt.id servesB p w S n q).1, (Fl.takeG Lt.id servesB p w S n q).2)
theorem taking_start (S : List Lt) (p : Int) (w : Wt) (n0 : Int) (q0 : Int → Int) : Taking S p w n0 q0 n0 q0 [] := by unfold Taking; simp
theorem Taking.step {S A B : List Lt} {p : Int} {w : Wt} {n0 n t : Int} {q0 q : Int → Int} {V : List Us} {z : Lt} (h : Taking S p w n0 q0 n q V) (hn : (S.map Lt.id).Nodup) (hS : S = A ++ z :: B) (hA : ∀ x ∈ A, ¬ elig q w x) (hz : elig q w z) (h0 : 0 < n) (ht : min n (q z.id) = t) :
    Taking S p w n0 q0 (n - t) (Fl.bmp q z.id (-t)) (V ++ [⟨p, z.id, t⟩]) := by
  unfold Taking at h ⊢
  rw [h, takeG_first p hn hS hA hz h0 ht]
  simp [useT]
theorem Taking.end_ {S : List Lt} {p : Int} {w : Wt} {n0 n : Int} {q0 q : Int → Int} {V : List Us} (h : Taking S p w n0 q0 n q V) (hs : n ≤ 0 ∨ ∀ x ∈ S, ¬ elig q w x) : Fl.takeG Lt.id servesB p w S n0 q0 = (V.map useT, n, q) := by
  unfold Taking at h
  rw [h, takeG_none p w S n q hs]; simp
/-- Places that are done, as a row of yes and no. -/
def doneL (n : Nat) (D : List Nat) : List Bool := (List.range n).map (fun j => decide (j ∈ D))
theorem doneL_get {n : Nat} {D : List Nat} {j : Nat} (h : j < n) : (doneL n D)[j]? = some (decide (j ∈ D)) := by unfold doneL; rw [List.getElem?_map, List.getElem?_range h]; rfl
theorem doneL_set {n : Nat} {D : List Nat} {p : Nat} (h : p < n) : (doneL n D).set p true = doneL n (D ++ [p]) := by
  apply List.ext_getElem?
  intro i
  rw [List.getElem?_set]
  by_cases hi : i < n
  · rw [doneL_get hi, doneL_get hi]
    by_cases e : p = i
    · subst e
      rw [if_pos rfl, if_pos (by unfold doneL; simpa using h)]
      simp
    · rw [if_neg e]
      have : (i ∈ D ++ [p]) ↔ i ∈ D := by simp; intro h; exact absurd h.symm e
      rw [decide_eq_decide.2 this]
  · have h1 : (doneL n D)[i]? = none := List.getElem?_eq_none (by unfold doneL; simp; omega)
    have h2 : (doneL n (D ++ [p]))[i]? = none := List.getElem?_eq_none (by unfold doneL; simp; omega)
    rw [if_neg (by intro e; subst e; exact hi h), h1, h2]
/-! ### what is left -/
def usedOf (U : List Us) (i : Int) : Int := ((U.filter (fun u => decide (u.lot = i))).map Us.qty).sum
theorem usedOf_snoc (U : List Us) (u : Us) (i : Int) : usedOf (U ++ [u]) i = usedOf U i + (if u.lot = i then u.qty else 0) := by
  unfold usedOf
  rw [List.filter_append, List.map_append, List.sum_append]
  by_cases h : u.lot = i <;> simp [h]
def usedT (T : List (Int × Int × Int)) (i : Int) : Int := ((T.filter (fun t => decide (t.2.1 = i))).map (fun t => t.2.2)).sum
theorem usedT_append (A B : List (Int × Int × Int)) (i : Int) : usedT (A ++ B) i = usedT A i + usedT B i := by
  unfold usedT; rw [List.filter_append, List.map_append, List.sum_append]
theorem usedT_us (U : List Us) (i : Int) : usedT (U.map useT) i = usedOf U i := by
  induction U with
  | nil => rfl
  | cons u r ih =>
    unfold usedT usedOf at *
    simp only [List.map_cons, List.filter_cons, useT]
    by_cases h : u.lot = i
    · simp [h]; exact ih
    · simp [h]; exact ih
theorem takeG_used (p : Int) (w : Wt) (i : Int) : ∀ (S : List Lt) (n : Int) (q : Int → Int), (Fl.takeG Lt.id servesB p w S n q).2.2 i + usedT (Fl.takeG Lt.id servesB p w S n q).1 i = q i
  | [], n, q => by simp [Fl.takeG, usedT]
  | x :: r, n, q => by
    unfold Fl.takeG
    split
    · have ih := takeG_used p w i r (n - min n (q x.id)) (Fl.bmp q x.id (-(min n (q x.id))))
      have e : usedT ((p, x.id, min n (q x.id)) :: (Fl.takeG Lt.id servesB p w r (n - min n (q x.id)) (Fl.bmp q x.id (-(min n (q x.id))))).1) i = (if x.id = i then min n (q x.id) else 0) + usedT (Fl.takeG Lt.id servesB p w r (n - min n (q x.id)) (Fl.bmp q x.id (-(min n (q x.id))))).1 i := by
        unfold usedT
        rw [List.filter_cons]
        by_cases h : x.id = i <;> simp [h]
      simp only
      rw [e]
      by_cases h : x.id = i
      · subst h
        rw [Fl.bmp_same] at ih
        rw [if_pos rfl]; omega
      · rw [Fl.bmp_other _ _ _ _ (fun e => h e.symm)] at ih
        rw [if_neg h]; omega
    · exact takeG_used p w i r n q
theorem run_used {S : List Lt} {ws : List Wt} (i : Int) : ∀ (P : List Nat) (q : Int → Int), (serveRun S ws P q).2.1 = true → (serveRun S ws P q).2.2 i + usedT (serveRun S ws P q).1 i = q i
  | [], q, _ => by simp [serveRun, atPlaces, Fl.runG, usedT]
  | p :: P, q, hr => by
    unfold serveRun atPlaces at hr ⊢
    rw [List.map_cons] at hr ⊢
    unfold Fl.runG at hr ⊢
    split at hr
    · rename_i hz
      rw [if_pos hz, usedT_append]
      have h1 := takeG_used (p : Int) (ws.getD p default) i S (ws.getD p default).qty q
      have h2 := run_used (S := S) (ws := ws) i P _ hr
      unfold serveRun atPlaces at h2
      simp only at h2 ⊢
      omega
    · cases hr
theorem Sv.left {l : List Lt} {ws : List Wt} {U : List Us} {q : Int → Int} (h : Sv l ws U q) (i : Int) : q i = qtyOf l i - usedOf U i := by
  obtain ⟨hb, S, P, hS, hP, hr, hU, rfl⟩ := h
  have := run_used (S := S) (ws := ws) i P (qtyOf l) hr
  rw [hU, usedT_us] at this
  omega
theorem usedOf_take {U : List Us} (h : ∀ u ∈ U, 0 ≤ u.qty) (i : Int) (k : Nat) : 0 ≤ usedOf (U.take k) i ∧ usedOf (U.take k) i ≤ usedOf U i := by
  have key : ∀ V : List Us, (∀ u ∈ V, 0 ≤ u.qty) → 0 ≤ usedOf V i := by
    intro V
    induction V with
    | nil => intro _; simp [usedOf]
    | cons u r ih =>
      intro hV
      have := ih (fun z hz => hV z (by simp [hz]))
      have hu := hV u (by simp)
      unfold usedOf at *
      rw [List.filter_cons]
      split
      · simp only [List.map_cons, List.sum_cons]; omega
      · exact this
  have e : usedOf U i = usedOf (U.take k) i + usedOf (U.drop k) i := by
    conv => lhs; rw [← List.take_append_drop k U]
    unfold usedOf; rw [List.filter_append, List.map_append, List.sum_append]
  have h1 := key (U.take k) (fun u hu => h u (List.mem_of_mem_take hu))
  have h2 := key (U.drop k) (fun u hu => h u (List.mem_of_mem_drop hu))
  omega
end Go.Proofs.Ytddnfikjfmfhfaa
end
