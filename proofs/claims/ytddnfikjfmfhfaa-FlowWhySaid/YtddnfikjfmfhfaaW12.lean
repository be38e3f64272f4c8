/- Texts of this proof, one behind the other. -/
import Derived.Laws.StructEq
import Derived.Deep.QuietTactic
import Derived.BigQuiet
import Derived.Shelf.SlSortCmp.QuietGrown
import Derived.Test.YtddnfikjfmfhfaaW10
import Derived.Test.YtddnfikjfmfhfaaW11
import Derived.Test.YtddnfikjfmfhfaaW03
import Derived.Test.YtddnfikjfmfhfaaW09
section
/- The law FlowServes: whatever lots, wants and uses; the walk. Written by gen_fserves.py. -/
namespace Go.Proofs.Ytddnfikjfmfhfaa
open Go.ChangeShapes Go.WideShapes Go.ChangeAt Go.RowKit Go.Maps
set_option linter.unusedVariables false

/-- The wants are served by these uses; that is left. -/
def Sv (l : List Lt) (ws : List Wt) (U : List Us) (q : Int → Int) : Prop := mayB l ws = true ∧ ∃ S P, Stab l S ∧ Days ws P ∧ (serveRun S ws P (qtyOf l)).2.1 = true ∧ (serveRun S ws P (qtyOf l)).1 = U.map useT ∧ (serveRun S ws P (qtyOf l)).2.2 = q
section
variable {l : List Lt} {ws : List Wt} {U : List Us} {q : Int → Int}
theorem Sv.fits (h : Sv l ws U q) : fitsP l ws := by
  obtain ⟨hb, S, P, hS, hP, hr, _, _⟩ := h
  exact ⟨hb, (serve_iff hS hP hb).1 hr⟩
theorem Sv.check (h : Sv l ws U q) : checkB l ws U = true := by
  obtain ⟨hb, S, P, hS, hP, hr, hU, _⟩ := h
  exact run_check hb hS hP hr hU
theorem Sv.total (h : Sv l ws U q) : sumQ (leftL l q) + sumUs U = sumQ l := by
  obtain ⟨hb, S, P, hS, hP, hr, hU, hq⟩ := h
  have := run_total hb hS hr hU
  rwa [hq] at this
theorem Sv.range (h : Sv l ws U q) : ∀ i, 0 ≤ q i ∧ q i ≤ 1073741824 := by
  obtain ⟨hb, S, P, hS, hP, hr, hU, rfl⟩ := h
  obtain ⟨_, _, hlr, _, _⟩ := mayB_true hb
  intro i
  have h1 := run_range (S := S) (ws := ws) P (qtyOf l) (fun i => (qtyOf_range hlr i).1) i
  have h2 := qtyOf_range hlr i
  omega
theorem Sv.len (h : Sv l ws U q) : U.length ≤ ws.length * l.length := by
  obtain ⟨hb, S, P, hS, hP, hr, hU, rfl⟩ := h
  have h1 := run_len (S := S) (ws := ws) P (qtyOf l)
  rw [hU, List.length_map, hP.perm.length_eq, List.length_range, hS.perm.length_eq] at h1
  exact h1
theorem Sv.sized (h : Sv l ws U q) (hs : Sized l) : SizedU U ∧ ∀ u ∈ U, 0 ≤ u.qty ∧ 0 ≤ u.want ∧ u.want < (ws.length : Int) := by
  obtain ⟨hb, S, P, hS, hP, hr, hU, rfl⟩ := h
  obtain ⟨_, h2, hlr, hwr, hnd⟩ := mayB_true hb
  have key : ∀ u ∈ U, (0 ≤ u.want ∧ u.want < (ws.length : Int)) ∧ (∃ y ∈ l, u.lot = y.id) ∧ 1 ≤ u.qty ∧ u.qty ≤ 1125899906842624 := fun u hu => by
    have hm : useT u ∈ (serveRun S ws P (qtyOf l)).1 := by rw [hU]; exact List.mem_map_of_mem hu
    obtain ⟨⟨p, hp, e1, e2⟩, ⟨y, hy, e3⟩, e4⟩ := run_all P _ _ hm
    have hpl : p < ws.length := by have := hP.perm.mem_iff.1 hp; simpa using this
    have hq : (ws.getD p default).qty ≤ 1125899906842624 := by
      have hmem : ws.getD p default ∈ ws := by rw [List.getD_eq_getElem?_getD, List.getElem?_eq_getElem hpl]; exact List.getElem_mem hpl
      exact (wantB_parts (hwr _ hmem)).2.2
    unfold useT at e1 e2 e3 e4
    simp only at e1 e2 e3 e4
    exact ⟨by omega, ⟨y, hS.perm.mem_iff.1 hy, e3⟩, e4, by omega⟩
  refine ⟨fun u hu => ?_, fun u hu => ?_⟩
  · obtain ⟨h1, ⟨y, hy, h3⟩, h4, h5⟩ := key u hu
    have hf := hs y hy
    unfold Lt.Fits at hf
    unfold Us.Fits
    omega
  · obtain ⟨h1, _, h4, h5⟩ := key u hu
    omega
theorem Sv.unique {U' : List Us} {q' : Int → Int} (h : Sv l ws U q) (k : Sv l ws U' q') : U = U' ∧ q = q' := by
  obtain ⟨hb, S, P, hS, hP, hr, hU, rfl⟩ := h
  obtain ⟨_, S', P', hS', hP', hr', hU', rfl⟩ := k
  have e1 := hS.unique hS'
  have e2 := hP.unique hP'
  subst e1 e2
  exact ⟨useT_inj (hU.symm.trans hU'), rfl⟩
theorem sumQ_bound (hb : ∀ x ∈ l, lrightB x = true) (hl : l.length ≤ 40) : sumQ l ≤ 42949672960 ∧ ∀ x ∈ l.map Lt.qty, 0 ≤ x := by
  have h0 : ∀ x ∈ l.map Lt.qty, 0 ≤ x ∧ x ≤ 1073741824 := fun x hx => by
    obtain ⟨y, hy, rfl⟩ := List.mem_map.1 hx
    have := lright_qty (hb y hy); omega
  have h1 := sum_le_mul (l.map Lt.qty) 1073741824 (fun x hx => (h0 x hx).2)
  rw [List.length_map] at h1
  unfold sumQ
  refine ⟨?_, fun x hx => (h0 x hx).1⟩
  have h2 : (l.length : Int) * 1073741824 ≤ 40 * 1073741824 := Int.mul_le_mul_of_nonneg_right (by omega) (by omega)
  omega
end
section
variable {l : List Lt} {ws : List Wt} (hl : l.length ≤ 1099511627776) (hw : ws.length ≤ 1099511627776) (hs : Sized l) (v1 v2 : Value) (w : World) (h1 : LSl w w.heap.size v1 l) (h2 : WSl w w.heap.size v2 ws)
include hl hw hs h1 h2
theorem fill_not (h : ¬ fitsP l ws) : Calls Try.prog 13 #[v1, v2] w fun e w' => e = .returned (.tuple #[.slice none 0 0, .bool false]) ∧ Below w.heap.size w w' := by
  by_cases hb : mayB l ws = true
  · refine (fill_may v1 v2 l ws w hl hw hs h1 h2 hb).mono ?_
    rintro e w' ⟨S, P, hS, hP, hbl, ⟨_, rfl⟩ | ⟨hr, _⟩⟩
    · exact ⟨rfl, hbl⟩
    · exact absurd ⟨hb, (serve_iff hS hP hb).1 hr⟩ h
  · exact fill_no v1 v2 l ws w hl hw hs h1 h2 (by simpa using hb)
theorem left_not (h : ¬ fitsP l ws) : Calls Try.prog 15 #[v1, v2] w fun e w' => e = .returned (.tuple #[.slice none 0 0, .bool false]) ∧ Below w.heap.size w w' := by
  by_cases hb : mayB l ws = true
  · refine (left_may v1 v2 l ws w hl hw hs h1 h2 hb).mono ?_
    rintro e w' ⟨S, P, hS, hP, hbl, ⟨_, rfl⟩ | ⟨hr, _⟩⟩
    · exact ⟨rfl, hbl⟩
    · exact absurd ⟨hb, (serve_iff hS hP hb).1 hr⟩ h
  · exact left_no v1 v2 l ws w hl hw hs h1 h2 (by simpa using hb)
theorem fill_yes (h : fitsP l ws) : Calls Try.prog 13 #[v1, v2] w fun e w' => Below w.heap.size w w' ∧ ∃ uv U q, Sv l ws U q ∧ e = .returned (.tuple #[uv, .bool true]) ∧ w'.ownsRow w.heap.size 44 3 uv U.length (ucells U) := by
  obtain ⟨hb, hc⟩ := h
  refine (fill_may v1 v2 l ws w hl hw hs h1 h2 hb).mono ?_
  rintro e w' ⟨S, P, hS, hP, hbl, ⟨hr, rfl⟩ | ⟨hr, uv, U, rfl, hU, ho⟩⟩
  · rw [(serve_iff hS hP hb).2 hc] at hr; cases hr
  · exact ⟨hbl, uv, U, _, ⟨hb, S, P, hS, hP, hr, hU, rfl⟩, rfl, ho⟩
theorem left_yes {U : List Us} {q : Int → Int} (h : Sv l ws U q) : Calls Try.prog 15 #[v1, v2] w fun e w' => Below w.heap.size w w' ∧ ∃ v, e = .returned (.tuple #[v, .bool true]) ∧ w'.ownsRow w.heap.size 42 6 v (leftL l q).length (lcells (leftL l q)) := by
  have hf := h.fits
  obtain ⟨hb, S, P, hS, hP, hr, hU, rfl⟩ := h
  refine (left_may v1 v2 l ws w hl hw hs h1 h2 hb).mono ?_
  rintro e w' ⟨S', P', hS', hP', hbl, ⟨hr', rfl⟩ | ⟨hr', v, rfl, ho⟩⟩
  · rw [(serve_iff hS' hP' hb).2 hf.2] at hr'; cases hr'
  · have e1 := hS.unique hS'
    have e2 := hP.unique hP'
    subst e1 e2
    exact ⟨hbl, v, rfl, ho⟩
end
theorem fits_perm {l : List Lt} {ws ws' : List Wt} (hp : ws.Perm ws') (h : fitsP l ws) : fitsP l ws' := by
  obtain ⟨hb, hc⟩ := h
  obtain ⟨h1, h2, h3, h4, h5⟩ := mayB_true hb
  exact ⟨mayB_of h1 (by rw [← hp.length_eq]; exact h2) h3 (fun x hx => h4 x (hp.mem_iff.2 hx)) h5, Fl.Feas.perm hp hc⟩
/-- Where a slice from k on begins. -/
def dropO (A : Option Addr) (k c : Nat) : Option Addr := if c = k then A else A.map (fun a => a.add (k * 3))
theorem dropO_none {A : Option Addr} {k c : Nat} (h : dropO A k c = none) : A = none := by
  unfold dropO at h
  split at h
  · exact h
  · simpa using h
theorem dropO_reads {w : World} {B : Nat} {A : Option Addr} {l : List Wt} {k c : Nat} (h : Lies w B A (wcells l)) (hc : l.length ≤ c) : ∀ a, dropO A k c = some a → ∀ j u, (wcells (l.drop k))[j]? = some u → w.cell? (a.add j) = some u := by
  intro a ha j u hu
  unfold dropO at ha
  split at ha
  · rename_i e
    subst e
    rw [List.drop_of_length_le hc] at hu
    simp [wcells] at hu
  · rw [← wcells_drop, List.getElem?_drop] at hu
    obtain ⟨ad', e, _, hcl⟩ := h.get hu
    subst e
    simp only [Option.map_some, Option.some.injEq] at ha
    subst ha
    rw [addr_add]; exact hcl
theorem takeO_reads {w : World} {B : Nat} {A : Option Addr} {l : List Wt} {k : Nat} (hk : k ≤ l.length) (h : Lies w B A (wcells l)) : ∀ a, A = some a → ∀ j u, (wcells (l.take k))[j]? = some u → w.cell? (a.add j) = some u := by
  intro a ha j u hu
  rw [← wcells_take l k hk] at hu
  rw [List.getElem?_take] at hu
  split at hu
  · obtain ⟨ad', e, _, hcl⟩ := h.get hu
    rw [e] at ha; cases ha; exact hcl
  · cases hu
theorem pick_len1 (x : Int) (n : Nat) (w : World) (h2 : n ≤ 1099511627775) (h3 : -9223372036854775808 ≤ x) (h4 : x ≤ 9223372036854775807) :
    Calls Try.prog 27 #[.int .i64 x, .int .i64 ((n : Int) + 1)] w (SomeBelow (n + 1) w) := pick_any x (n + 1) w (by omega) (by omega) h3 h4
theorem turn_perm (ws : List Wt) (k : Nat) : (ws.drop k ++ ws.take k).Perm ws := by
  have := List.perm_append_comm (l₁ := ws.drop k) (l₂ := ws.take k)
  rwa [List.take_append_drop] at this

set_option maxRecDepth 100000 in
set_option maxHeartbeats 8000000 in
theorem serves_any (v1 v2 v3 : Value) (l : List Lt) (ws : List Wt) (us : List Us) (turn : Int) (w : World) (hv1 : LSl w w.heap.size v1 l) (hv2 : WSl w w.heap.size v2 ws) (hv3 : USl w w.heap.size v3 us) (hs : Sized l) (hsu : SizedU us)
    (hn1 : -9223372036854775808 ≤ turn) (hn2 : turn ≤ 9223372036854775807) :
    Calls Try.prog 6 #[v1, v2, v3, .int .i64 turn] w fun e w' => e = .returned (.bool true) ∧ Below w.heap.size w w' := by
  obtain ⟨A1, c1, rfl, hc11, hc12, hcz1, _⟩ := id hv1
  obtain ⟨A2, c2, rfl, hc21, hc22, hcz2, hl2⟩ := id hv2
  obtain ⟨A3, c3, rfl, hc31, hc32, hcz3, _⟩ := id hv3
  have HV1 := Lib.hid hv1
  have HV2 := Lib.hid hv2
  have HV3 := Lib.hid hv3
  have HL2 := Lib.hid hl2
  have HS : Hid (Sized l) := Lib.hid hs
  have HSU : Hid (SizedU us) := Lib.hid hsu
  clear hv1 hv2 hv3 hs hsu hl2
  go_enter Try.func6, Try.ntmps6
  go_wp2_with fail
  refine (awake_any w).mono ?_
  rintro e w1 ⟨rfl, hb1'⟩
  have HW1 := Lib.hid (HV1.out.at_ hb1')
  have HW2 := Lib.hid (HV2.out.at_ hb1')
  have HW3 := Lib.hid (HV3.out.at_ hb1')
  have HB1 := Lib.hid hb1'
  clear hb1'
  by_cases hS4 : l.length ≤ 40 ∧ ws.length ≤ 60
  · have hsd : decide (l.length ≤ 40 ∧ ws.length ≤ 60) = true := decide_eq_true hS4
    obtain ⟨h40, h60⟩ := hS4
    by_cases h200 : us.length ≤ 200
    · have hd2 : decide (200 < (us.length : Int)) = false := decide_eq_false (by omega)
      by_cases hF : fitsP l ws
      · have KF := Lib.hid (fill_yes (l := l) (ws := ws) (by omega) (by omega) HS.out)
        go_wp2_with (first
          | (go_at_call 10; ((with_reducible refine (small_any _ _ _ _ _ _ _).mono ?_); rintro e w2 ⟨rfl, rfl⟩; rw [hsd]))
          | (go_at_call 13; fail))
        refine (KF.out _ _ _ HW1.out HW2.out hF).mono ?_
        rintro e w2 ⟨hb2', uv, U, q, hsv, rfl, hU'⟩
        have HU : Hid (USl w2 w2.heap.size uv U) := Lib.hid (USl.own hU')
        obtain ⟨Au, cu, rfl, hcu1, hcu2, _⟩ := own_form hU'
        have HSV := Lib.hid hsv
        have hUl : U.length ≤ 2400 := Nat.le_trans hsv.len (Nat.le_trans (Nat.mul_le_mul h60 h40) (by omega))
        have HX1 := Lib.hid (HW1.out.at_ hb2')
        have HX2 := Lib.hid (HW2.out.at_ hb2')
        have HX3 := Lib.hid (HW3.out.at_ hb2')
        have HB2 := Lib.hid (below_two HB1.out hb2')
        have HSZU := Lib.hid (hsv.sized HS.out)
        have KC1 : Hid (∀ v1 v2 v3 W, LSl W W.heap.size v1 l → WSl W W.heap.size v2 ws → USl W W.heap.size v3 us → Calls Try.prog 23 #[v1, v2, v3] W fun e w' => e = .returned (.bool (checkB l ws us)) ∧ Below W.heap.size W w') := Lib.hid (fun v1 v2 v3 W a b c => check_any v1 v2 v3 l ws us W (by omega) (by omega) (by omega) HS.out HSU.out a b c)
        have KC2 : Hid (∀ v1 v2 v3 W, LSl W W.heap.size v1 l → WSl W W.heap.size v2 ws → USl W W.heap.size v3 U → Calls Try.prog 23 #[v1, v2, v3] W fun e w' => e = .returned (.bool true) ∧ Below W.heap.size W w') := Lib.hid (fun v1 v2 v3 W a b c => by rw [← HSV.out.check]; exact check_any v1 v2 v3 l ws U W (by omega) (by omega) (by omega) HS.out HSZU.out.1 a b c)
        clear hd2 hb2' hU' hsv KF HW1 HW2 HW3 HB1
        go_upto_region 6 with (fail)
        go_cut [62] (fun v wx => v = .bool false ∧ Hid (Below w.heap.size w wx) ∧ Hid (USl wx wx.heap.size (.slice Au U.length cu) U))
        case first =>
          cases hcb : checkB l ws us with
          | false =>
            rw [hcb] at KC1
            clear hcb
            go_wp2_with (first
              | (go_at_call 23; ((with_reducible refine (KC1.out _ _ _ _ HX1.out HX2.out HX3.out).mono ?_); rintro e w3 ⟨rfl, hb3'⟩; have HY1 := Lib.hid (HX1.out.at_ hb3'); have HY2 := Lib.hid (HX2.out.at_ hb3'); have HUY := Lib.hid (HU.out.at_ hb3'); have HB3 := Lib.hid (below_two HB2.out hb3'); clear hb3' HX1 HX2 HX3 HB2 HU))
              | (go_at_call 23; ((with_reducible refine (KC2.out _ _ _ _ HY1.out HY2.out HUY.out).mono ?_); rintro e w4 ⟨rfl, hb4'⟩; have HUZ := Lib.hid (HUY.out.at_ hb4'); have HB4 := Lib.hid (below_two HB3.out hb4'); clear hb4')))
            go_meet
            exact ⟨rfl, HB4, HUZ⟩
          | true =>
            rw [hcb] at KC1
            clear hcb
            go_wp2_with (first
              | (go_at_call 23; ((with_reducible refine (KC1.out _ _ _ _ HX1.out HX2.out HX3.out).mono ?_); rintro e w3 ⟨rfl, hb3'⟩; have HY1 := Lib.hid (HX1.out.at_ hb3'); have HY2 := Lib.hid (HX2.out.at_ hb3'); have HUY := Lib.hid (HU.out.at_ hb3'); have HB3 := Lib.hid (below_two HB2.out hb3'); clear hb3' HX1 HX2 HX3 HB2 HU))
              | (go_at_call 23; ((with_reducible refine (KC2.out _ _ _ _ HY1.out HY2.out HUY.out).mono ?_); rintro e w4 ⟨rfl, hb4'⟩; have HUZ := Lib.hid (HUY.out.at_ hb4'); have HB4 := Lib.hid (below_two HB3.out hb4'); clear hb4')))
            go_meet
            exact ⟨rfl, HB4, HUZ⟩
        case rest =>
          clear HU HX1 HX2 HX3 KC1 KC2 HB2
          obtain ⟨rfl, HB3, HU3⟩ := hcut
          obtain ⟨w3, rfl⟩ : ∃ W, W = wc := ⟨_, rfl⟩
          have HY1 : Hid (LSl w3 w3.heap.size (.slice A1 l.length c1) l) := Lib.hid (HV1.out.at_ HB3.out)
          have HY2 : Hid (WSl w3 w3.heap.size (.slice A2 ws.length c2) ws) := Lib.hid (HV2.out.at_ HB3.out)
          have hwk : IntKind.i64.wrap ((ws.length : Int) + 1) = (ws.length : Int) + 1 := by rw [IntKind.wrap_i64]; omega
          go_wp2_with (go_at_call 27; fail)
          refine (pick_len1 turn ws.length w3 (by omega) hn1 hn2).mono ?_
          rintro e w9 ⟨k, hk, rfl, rfl⟩
          obtain ⟨i0, hi0, hz0', hz1', hz2'⟩ := info_parts infoWant
          have I1 := Lib.hid hi0
          have I2 := Lib.hid hz0'
          have I3 := Lib.hid hz1'
          have I4 := Lib.hid hz2'
          have HLs : Hid (Lies w3 w3.heap.size A2 (wcells ws)) := Lib.hid (by obtain ⟨_, _, e, _, _, _, h⟩ := HY2.out; cases e; exact h)
          have HCZ : Hid (A2 = none → ws.length = 0 ∧ c2 = 0) := Lib.hid (fun h => by have := hcz2 h; omega)
          clear hi0 hz0' hz1' hz2' hcz2
          go_wp2_with fail
          refine wp_region_held_drew (S := fun w' => Below w3.heap.size w3 w') (by kernel_rfl) ((Below.refl _ _).drew) (fun hS => ?_)
          refine wpAnyH_take (i := 1) (v := (.slice A2 ws.length c2)) rfl (by kernel_rfl) (by kernel_rfl) (by kernel_rfl) (fun _ _ _ h => h) (Or.inl ⟨by kernel_rfl, fun w' hS' => by go_simp⟩) hS ?_
          refine wpAnyH_take (i := 2) (v := (.int .i64 (k : Int))) rfl (by kernel_rfl) (by kernel_rfl) (by kernel_rfl) (fun _ _ _ h => h) (Or.inl ⟨by kernel_rfl, fun w' hS' => by go_simp⟩) hS ?_
          refine wpAnyH_take (i := 3) (v := (.slice (dropO A2 k c2) (ws.length - k) (c2 - k))) rfl (by kernel_rfl) (by kernel_rfl) (by kernel_rfl) (fun _ _ _ h => h) (Or.inl ⟨by kernel_rfl, fun w' hS' => by go_simp; first | done | (rw [if_pos (by omega)]; rfl)⟩) hS ?_
          refine wpAnyH_take (i := 5) (v := (.slice A2 ws.length c2)) rfl (by kernel_rfl) (by kernel_rfl) (by kernel_rfl) (fun _ _ _ h => h) (Or.inl ⟨by kernel_rfl, fun w' hS' => by go_simp⟩) hS ?_
          refine wpAnyH_take (i := 6) (v := (.int .i64 (k : Int))) rfl (by kernel_rfl) (by kernel_rfl) (by kernel_rfl) (fun _ _ _ h => h) (Or.inl ⟨by kernel_rfl, fun w' hS' => by go_simp⟩) hS ?_
          refine wpAnyH_take (i := 7) (v := (.slice A2 k c2)) rfl (by kernel_rfl) (by kernel_rfl) (by kernel_rfl) (fun _ _ _ h => h) (Or.inl ⟨by kernel_rfl, fun w' hS' => by go_simp; first | done | exact fun h => absurd h (by omega)⟩) hS ?_
          refine wpAnyH_ready (rs := [0]) (by kernel_rfl) (by simp) ?_
          refine AllReadyH.cons rfl (fun K hK => ?_) AllReadyH.nil
          go_simp
          skip
          refine hK.out _ _ (hS.alloc (by simp) _) (fun hS => ?_)
          clear hK K
          have hown0 : ((w3.alloc (Obj.cells #[] 47)).drew).ownsRow w3.heap.size 47 3 (.slice (some ⟨w3.heap.size, 0, none⟩) 0 0) 0 [] := (World.ownsRow_lit w3 #[] 0 (Nat.le_refl _) (by simp [maxLen]) rfl).drew
          refine wpAnyH_ready (rs := [4]) (by kernel_rfl) (by simp) ?_
          refine AllReadyH.cons rfl (fun K hK => ?_) AllReadyH.nil
          refine step_append_any (by rfl) (.tmp 68) (.tmp 71) 23 (by rfl) w3.heap.size 47 i0 _ 3 32 Try.underlying23 I1.out I2.out I3.out I4.out rfl (by decide) _ 0 [] (by simp [Act.eval]) hown0 (dropO A2 k c2) (ws.length - k) (c2 - k) (wcells (ws.drop k)) (by simp [Act.eval]) (by rw [wcells_length, List.length_drop]) (fun h => by have := HCZ.out (dropO_none h); omega) (dropO_reads (HLs.out.below hS) (by omega)) (wcells_one _) (by unfold maxLen; omega) (by omega) (by simp) ?_
          intro v4 w4 hown4' hg4' hq0
          clear hq0
          rw [Nat.zero_add, List.nil_append] at hown4'
          obtain ⟨A4, c4, rfl, hq1, hq2, hq3⟩ := own_form hown4'
          clear hq1 hq2 hq3
          have hown4 := Lib.hid hown4'
          have hg4 := Lib.hid hg4'.out
          clear hown4' hg4' hown0
          refine hK.out _ _ (hS.grown hg4.out (by simp) (fun j hj => by cases hj; exact Nat.le_refl _)) (fun hS => ?_)
          clear hK K
          refine wpAnyH_ready (rs := [8]) (by kernel_rfl) (by simp) ?_
          refine AllReadyH.cons rfl (fun K hK => ?_) AllReadyH.nil
          refine step_append_any (by rfl) (.tmp 72) (.tmp 75) 23 (by rfl) w3.heap.size 47 i0 _ 3 32 Try.underlying23 I1.out I2.out I3.out I4.out rfl (by decide) _ (ws.length - k) _ (by simp [Act.eval, Act.put]) hown4.out A2 k c2 (wcells (ws.take k)) (by simp [Act.eval, Act.put]) (by rw [wcells_length, List.length_take, Nat.min_eq_left (by omega)]) (fun h => by have := HCZ.out h; omega) (takeO_reads (by omega) (HLs.out.below hS)) (wcells_one _) (by unfold maxLen; omega) (by omega) (by have := hS.size; omega) ?_
          intro v5 w5 hown5' hg5' hq0
          clear hq0
          have hown5 := Lib.hid hown5'
          have hg5 := Lib.hid hg5'.out
          have hlt4 := hown4.out.lt
          clear hown5' hg5'
          refine hK.out _ _ (hS.grown hg5.out (by have := hS.size; omega) (fun j hj => (hlt4 j hj).1)) (fun hS => ?_)
          clear hK K
          refine wpAnyH_take (i := 9) (v := (v5)) rfl (by kernel_rfl) (by kernel_rfl) (by kernel_rfl) (fun _ _ _ h => h) (Or.inl ⟨by kernel_rfl, fun w' hS' => by go_simp⟩) hS ?_
          refine wpAnyH_done (by kernel_rfl) ?_ _
          go_simp
          first | (rename_i hnext; refine hnext _ _ ?_; clear hnext) | (rename_i hnext _; refine hnext _ _ ?_; clear hnext) | (rename_i hnext _ _; refine hnext _ _ ?_; clear hnext) | (rename_i hnext _ _ _; refine hnext _ _ ?_; clear hnext)
          obtain ⟨ot, hot, hpm, hlo⟩ : ∃ ot : List Wt, ws.drop k ++ ws.take k = ot ∧ ot.Perm ws ∧ ot.length = (ws.length - k) + k := ⟨_, rfl, turn_perm ws k, by rw [List.length_append, List.length_take, List.length_drop, Nat.min_eq_left (by omega)]⟩
          have HLE : Hid (WSl w5 w5.heap.size v5 ot) := Lib.hid (WSl.own (by rw [hlo, ← hot, wcells_append]; exact hown5.out))
          have hlo60 : ot.length ≤ 1099511627776 := by omega
          have HPM := Lib.hid hpm
          have hb5' := hS
          clear hown4 hown5 hg4 hg5 hlt4 HLs I1 I2 I3 I4 hot hlo HCZ hpm hS
          have hF2 : fitsP l ot := fits_perm HPM.out.symm hF
          have K2 := Lib.hid (fits_yes hF2 HS.out (by omega) hlo60)
          have KL := Lib.hid (left_yes (l := l) (ws := ws) (by omega) (by omega) HS.out)
          have HT1 := Lib.hid (HY1.out.at_ hb5')
          have HT2 := Lib.hid (HY2.out.at_ hb5')
          have HU5 := Lib.hid (HU3.out.at_ hb5')
          have HB5 := Lib.hid (below_two HB3.out hb5')
          clear hb5' HY1 HY2 HB3 HU3 hF2 hwk
          go_wp2_with (first
            | (go_at_call 18; ((with_reducible refine (K2.out _ _ _ HT1.out HLE.out).mono ?_); rintro e w6 ⟨rfl, hb6'⟩; have HZ1 := Lib.hid (HT1.out.at_ hb6'); have HZ2 := Lib.hid (HT2.out.at_ hb6'); have HU6 := Lib.hid (HU5.out.at_ hb6'); have HB6 := Lib.hid (below_two HB5.out hb6'); clear hb6' HT1 HT2 HB5 HLE HU5))
            | (go_at_call 15; fail))
          refine (KL.out _ _ _ HZ1.out HZ2.out HSV.out).mono ?_
          rintro e w7 ⟨hb7', v7, rfl, hown7⟩
          have HR7 : Hid (LSl w7 w7.heap.size v7 (leftL l q)) := Lib.hid (LSl.own hown7)
          obtain ⟨A7, c7, rfl, hc71, hc72, _⟩ := own_form hown7
          have HG1 := Lib.hid (HZ1.out.at_ hb7')
          have HU7 := Lib.hid (HU6.out.at_ hb7')
          have HB7 := Lib.hid (below_two HB6.out hb7')
          have htot := HSV.out.total
          have hrg := HSV.out.range
          have hll : (leftL l q).length ≤ l.length := by have := leftL_le l q l.length; rwa [List.take_of_length_le (Nat.le_refl _)] at this
          obtain ⟨hq1, hq0⟩ := sumQ_bound (mayB_true hF.1).2.2.1 h40
          have hqL : ∀ x ∈ (leftL l q).map Lt.qty, 0 ≤ x := fun x hx => by
            obtain ⟨y, hy, rfl⟩ := List.mem_map.1 hx
            unfold leftL at hy
            obtain ⟨z, hz, rfl⟩ := List.mem_map.1 hy
            exact (hrg z.id).1
          have hqU : ∀ x ∈ U.map Us.qty, 0 ≤ x := fun x hx => by
            obtain ⟨y, hy, rfl⟩ := List.mem_map.1 hx
            exact (HSZU.out.2 y hy).1
          obtain ⟨L, hL⟩ : ∃ L, leftL l q = L := ⟨_, rfl⟩
          rw [hL] at HR7 htot hll hqL hc71 ⊢
          obtain ⟨SQ, hSQ⟩ : ∃ n, sumQ l = n := ⟨_, rfl⟩
          obtain ⟨SL, hSL⟩ : ∃ n, sumQ L = n := ⟨_, rfl⟩
          obtain ⟨SU, hSU⟩ : ∃ n, sumUs U = n := ⟨_, rfl⟩
          have P1 : Hid (∀ k, 0 ≤ ((l.map Lt.qty).take k).sum ∧ ((l.map Lt.qty).take k).sum ≤ SQ) := Lib.hid (fun k => by rw [← hSQ]; exact sum_take_bound _ k hq0)
          have P2 : Hid (∀ k, 0 ≤ ((L.map Lt.qty).take k).sum ∧ ((L.map Lt.qty).take k).sum ≤ SL) := Lib.hid (fun k => by rw [← hSL]; exact sum_take_bound _ k hqL)
          have P3 : Hid (∀ k, 0 ≤ ((U.map Us.qty).take k).sum ∧ ((U.map Us.qty).take k).sum ≤ SU) := Lib.hid (fun k => by rw [← hSU]; exact sum_take_bound _ k hqU)
          have E1 : Hid (((l.map Lt.qty).take l.length).sum = SQ) := Lib.hid (by rw [List.take_of_length_le (by rw [List.length_map]; exact Nat.le_refl _)]; exact hSQ)
          have E2 : Hid (((L.map Lt.qty).take L.length).sum = SL) := Lib.hid (by rw [List.take_of_length_le (by rw [List.length_map]; exact Nat.le_refl _)]; exact hSL)
          have E3 : Hid (((U.map Us.qty).take U.length).sum = SU) := Lib.hid (by rw [List.take_of_length_le (by rw [List.length_map]; exact Nat.le_refl _)]; exact hSU)
          have HTOT : Hid (SL + SU = SQ) := Lib.hid (by rw [← hSL, ← hSU, ← hSQ]; exact htot)
          rw [hSQ] at hq1
          have HQ1 := Lib.hid hq1
          clear hb7' hown7 HZ1 HZ2 HU6 HB6 htot hrg hq0 hqL hqU hL hSQ hSL hSU hq1 K2 KL HPM HSZU
          go_wp2_with fail
          go_loopw [15, 16] (fun n i wr => ∃ k : Nat, k ≤ l.length ∧ i = .int .i64 k ∧ n = .int .i64 (((l.map Lt.qty).take k).sum) ∧ Hid (Below w7.heap.size w7 wr)) (fun _ i _ => l.length - (intOf i).toNat)
          case atStart => exact ⟨0, Nat.zero_le _, rfl, by simp, Lib.hid (Below.refl _ _)⟩
          case round =>
            obtain ⟨k, hk, rfl, rfl, HBr⟩ := hrel
            by_cases hlt : k < l.length
            · obtain ⟨x, hx⟩ : ∃ x, l[k]? = some x := ⟨_, List.getElem?_eq_getElem hlt⟩
              obtain ⟨_, _, he, _, _, _, hLL⟩ := HG1.out.below HBr.out
              cases he
              obtain ⟨ad, rfl, hab, hc0, hc1', hc2', hc3, hc4, hc5⟩ := hLL.six hx
              have hst := Lib.hid (sum_succ (l := l.map Lt.qty) (k := k) (x := x.qty) (by rw [List.getElem?_map, hx]; rfl))
              have hp := P1.out k
              have hp2 := P1.out (k + 1)
              rw [hst.out] at hp2
              have hq1 := HQ1.out
              generalize ((l.map Lt.qty).take k).sum = sk at hp hp2 hst ⊢
              have hwr : IntKind.i64.wrap (sk + x.qty) = sk + x.qty := by rw [IntKind.wrap_i64]; omega
              clear hx hLL hc0 hc1' hc2' hc3 hc5
              go_wp2
              go_roundw
              case rel => exact ⟨k + 1, by omega, by go_num, by rw [hst.out], HBr⟩
              case measure => simp [intOf]; omega
            · obtain rfl : k = l.length := by omega
              rw [E1.out]
              have HG7 := Lib.hid (HR7.out.at_ HBr.out)
              have HU8 := Lib.hid (HU7.out.at_ HBr.out)
              have HB8 := Lib.hid (below_two HB7.out HBr.out)
              obtain ⟨w8, rfl⟩ : ∃ W, W = wr := ⟨_, rfl⟩
              clear HBr HR7 HU7 HB7 HG1
              go_wp2_with fail
              go_loopw [15, 17] (fun n i wr => ∃ k : Nat, k ≤ L.length ∧ i = .int .i64 k ∧ n = .int .i64 (SQ - ((L.map Lt.qty).take k).sum) ∧ Hid (Below w8.heap.size w8 wr)) (fun _ i _ => L.length - (intOf i).toNat)
              case atStart => exact ⟨0, Nat.zero_le _, rfl, by simp, Lib.hid (Below.refl _ _)⟩
              case round =>
                obtain ⟨k, hk, rfl, rfl, HBr⟩ := hrel
                by_cases hlt : k < L.length
                · obtain ⟨x, hx⟩ : ∃ x, L[k]? = some x := ⟨_, List.getElem?_eq_getElem hlt⟩
                  obtain ⟨_, _, he, _, _, _, hLL⟩ := HG7.out.below HBr.out
                  cases he
                  obtain ⟨ad, rfl, hab, hc0, hc1', hc2', hc3, hc4, hc5⟩ := hLL.six hx
                  have hst := Lib.hid (sum_succ (l := L.map Lt.qty) (k := k) (x := x.qty) (by rw [List.getElem?_map, hx]; rfl))
                  have hp := P2.out k
                  have hp2 := P2.out (k + 1)
                  rw [hst.out] at hp2
                  have hq1 := HQ1.out
                  have htt := HTOT.out
                  have hp3 := P3.out 0
                  generalize ((L.map Lt.qty).take k).sum = sk at hp hp2 hst ⊢
                  have hwr : IntKind.i64.wrap (SQ - sk - x.qty) = SQ - sk - x.qty := by rw [IntKind.wrap_i64]; omega
                  clear hx hLL hc0 hc1' hc2' hc3 hc5 hp3
                  go_wp2
                  go_roundw
                  case rel => exact ⟨k + 1, by omega, by go_num, by rw [hst.out]; congr 1; omega, HBr⟩
                  case measure => simp [intOf]; omega
                · obtain rfl : k = L.length := by omega
                  rw [E2.out]
                  have HU9 := Lib.hid (HU8.out.at_ HBr.out)
                  have HB9 := Lib.hid (below_two HB8.out HBr.out)
                  obtain ⟨w9, rfl⟩ : ∃ W, W = wr := ⟨_, rfl⟩
                  clear HBr HU8 HB8 HG7
                  go_wp2_with fail
                  go_loopw [15, 18] (fun n i wr => ∃ k : Nat, k ≤ U.length ∧ i = .int .i64 k ∧ n = .int .i64 (SQ - SL - ((U.map Us.qty).take k).sum) ∧ Hid (Below w9.heap.size w9 wr)) (fun _ i _ => U.length - (intOf i).toNat)
                  case atStart => exact ⟨0, Nat.zero_le _, rfl, by simp, Lib.hid (Below.refl _ _)⟩
                  case round =>
                    obtain ⟨k, hk, rfl, rfl, HBr⟩ := hrel
                    by_cases hlt : k < U.length
                    · obtain ⟨x, hx⟩ : ∃ x, U[k]? = some x := ⟨_, List.getElem?_eq_getElem hlt⟩
                      obtain ⟨_, _, he, _, _, _, hLL⟩ := HU9.out.below HBr.out
                      cases he
                      obtain ⟨ad, rfl, hab, hc0, hc1', hc2'⟩ := hLL.rowU hx
                      have hst := Lib.hid (sum_succ (l := U.map Us.qty) (k := k) (x := x.qty) (by rw [List.getElem?_map, hx]; rfl))
                      have hp := P3.out k
                      have hp2 := P3.out (k + 1)
                      rw [hst.out] at hp2
                      have hq1 := HQ1.out
                      have htt := HTOT.out
                      have hp0 := P2.out 0
                      generalize ((U.map Us.qty).take k).sum = sk at hp hp2 hst ⊢
                      obtain ⟨D, hD⟩ : ∃ D, SQ - SL = D := ⟨_, rfl⟩
                      rw [hD]
                      have hwr : IntKind.i64.wrap (D - sk - x.qty) = D - sk - x.qty := by rw [IntKind.wrap_i64]; omega
                      clear hx hLL hc0 hc1' hp0
                      go_wp2
                      go_roundw
                      case rel => exact ⟨k + 1, by omega, by go_num, by rw [hst.out]; congr 1; omega, HBr⟩
                      case measure => simp [intOf]; omega
                    · obtain rfl : k = U.length := by omega
                      rw [E3.out]
                      have hzz : SQ - SL - SU = 0 := by have := HTOT.out; omega
                      rw [hzz]
                      go_wp2
                      go_ret
                      exact ⟨rfl, below_two HB9.out HBr.out⟩
      · have KF := Lib.hid (fill_not (l := l) (ws := ws) (by omega) (by omega) HS.out)
        have hcb : checkB l ws us = false := by
          cases h : checkB l ws us with
          | false => rfl
          | true => exact absurd (check_can h) hF
        have KC : Hid (∀ v1 v2 v3 W, LSl W W.heap.size v1 l → WSl W W.heap.size v2 ws → USl W W.heap.size v3 us → Calls Try.prog 23 #[v1, v2, v3] W fun e w' => e = .returned (.bool false) ∧ Below W.heap.size W w') := Lib.hid (fun v1 v2 v3 W a b c => by rw [← hcb]; exact check_any v1 v2 v3 l ws us W (by omega) (by omega) (by omega) HS.out HSU.out a b c)
        clear hcb
        have hwk : IntKind.i64.wrap ((ws.length : Int) + 1) = (ws.length : Int) + 1 := by rw [IntKind.wrap_i64]; omega
        go_wp2_with (first
          | (go_at_call 10; ((with_reducible refine (small_any _ _ _ _ _ _ _).mono ?_); rintro e w2 ⟨rfl, rfl⟩; rw [hsd]))
          | (go_at_call 13; ((with_reducible refine (KF.out _ _ _ HW1.out HW2.out hF).mono ?_); rintro e w2 ⟨rfl, hb2'⟩; have HX1 := Lib.hid (HW1.out.at_ hb2'); have HX2 := Lib.hid (HW2.out.at_ hb2'); have HX3 := Lib.hid (HW3.out.at_ hb2'); have HB2 := Lib.hid (below_two HB1.out hb2'); clear hb2' HW1 HW2 HW3 HB1))
          | (go_at_call 23; ((with_reducible refine (KC.out _ _ _ _ HX1.out HX2.out HX3.out).mono ?_); rintro e w3 ⟨rfl, hb3'⟩; have HY1 := Lib.hid (HX1.out.at_ hb3'); have HY2 := Lib.hid (HX2.out.at_ hb3'); have HB3 := Lib.hid (below_two HB2.out hb3'); clear hb3' HX1 HX2 HX3 HB2))
          | (go_at_call 27; fail))
        refine (pick_len1 turn ws.length w3 (by omega) hn1 hn2).mono ?_
        rintro e w9 ⟨k, hk, rfl, rfl⟩
        obtain ⟨i0, hi0, hz0', hz1', hz2'⟩ := info_parts infoWant
        have I1 := Lib.hid hi0
        have I2 := Lib.hid hz0'
        have I3 := Lib.hid hz1'
        have I4 := Lib.hid hz2'
        have HLs : Hid (Lies w3 w3.heap.size A2 (wcells ws)) := Lib.hid (by obtain ⟨_, _, e, _, _, _, h⟩ := HY2.out; cases e; exact h)
        have HCZ : Hid (A2 = none → ws.length = 0 ∧ c2 = 0) := Lib.hid (fun h => by have := hcz2 h; omega)
        clear hi0 hz0' hz1' hz2' hcz2
        go_wp2_with fail
        refine wp_region_held_drew (S := fun w' => Below w3.heap.size w3 w') (by kernel_rfl) ((Below.refl _ _).drew) (fun hS => ?_)
        refine wpAnyH_take (i := 1) (v := (.slice A2 ws.length c2)) rfl (by kernel_rfl) (by kernel_rfl) (by kernel_rfl) (fun _ _ _ h => h) (Or.inl ⟨by kernel_rfl, fun w' hS' => by go_simp⟩) hS ?_
        refine wpAnyH_take (i := 2) (v := (.int .i64 (k : Int))) rfl (by kernel_rfl) (by kernel_rfl) (by kernel_rfl) (fun _ _ _ h => h) (Or.inl ⟨by kernel_rfl, fun w' hS' => by go_simp⟩) hS ?_
        refine wpAnyH_take (i := 3) (v := (.slice (dropO A2 k c2) (ws.length - k) (c2 - k))) rfl (by kernel_rfl) (by kernel_rfl) (by kernel_rfl) (fun _ _ _ h => h) (Or.inl ⟨by kernel_rfl, fun w' hS' => by go_simp; first | done | (rw [if_pos (by omega)]; rfl)⟩) hS ?_
        refine wpAnyH_take (i := 5) (v := (.slice A2 ws.length c2)) rfl (by kernel_rfl) (by kernel_rfl) (by kernel_rfl) (fun _ _ _ h => h) (Or.inl ⟨by kernel_rfl, fun w' hS' => by go_simp⟩) hS ?_
        refine wpAnyH_take (i := 6) (v := (.int .i64 (k : Int))) rfl (by kernel_rfl) (by kernel_rfl) (by kernel_rfl) (fun _ _ _ h => h) (Or.inl ⟨by kernel_rfl, fun w' hS' => by go_simp⟩) hS ?_
        refine wpAnyH_take (i := 7) (v := (.slice A2 k c2)) rfl (by kernel_rfl) (by kernel_rfl) (by kernel_rfl) (fun _ _ _ h => h) (Or.inl ⟨by kernel_rfl, fun w' hS' => by go_simp; first | done | exact fun h => absurd h (by omega)⟩) hS ?_
        refine wpAnyH_ready (rs := [0]) (by kernel_rfl) (by simp) ?_
        refine AllReadyH.cons rfl (fun K hK => ?_) AllReadyH.nil
        go_simp
        skip
        refine hK.out _ _ (hS.alloc (by simp) _) (fun hS => ?_)
        clear hK K
        have hown0 : ((w3.alloc (Obj.cells #[] 47)).drew).ownsRow w3.heap.size 47 3 (.slice (some ⟨w3.heap.size, 0, none⟩) 0 0) 0 [] := (World.ownsRow_lit w3 #[] 0 (Nat.le_refl _) (by simp [maxLen]) rfl).drew
        refine wpAnyH_ready (rs := [4]) (by kernel_rfl) (by simp) ?_
        refine AllReadyH.cons rfl (fun K hK => ?_) AllReadyH.nil
        refine step_append_any (by rfl) (.tmp 68) (.tmp 71) 23 (by rfl) w3.heap.size 47 i0 _ 3 32 Try.underlying23 I1.out I2.out I3.out I4.out rfl (by decide) _ 0 [] (by simp [Act.eval]) hown0 (dropO A2 k c2) (ws.length - k) (c2 - k) (wcells (ws.drop k)) (by simp [Act.eval]) (by rw [wcells_length, List.length_drop]) (fun h => by have := HCZ.out (dropO_none h); omega) (dropO_reads (HLs.out.below hS) (by omega)) (wcells_one _) (by unfold maxLen; omega) (by omega) (by simp) ?_
        intro v4 w4 hown4' hg4' hq0
        clear hq0
        rw [Nat.zero_add, List.nil_append] at hown4'
        obtain ⟨A4, c4, rfl, hq1, hq2, hq3⟩ := own_form hown4'
        clear hq1 hq2 hq3
        have hown4 := Lib.hid hown4'
        have hg4 := Lib.hid hg4'.out
        clear hown4' hg4' hown0
        refine hK.out _ _ (hS.grown hg4.out (by simp) (fun j hj => by cases hj; exact Nat.le_refl _)) (fun hS => ?_)
        clear hK K
        refine wpAnyH_ready (rs := [8]) (by kernel_rfl) (by simp) ?_
        refine AllReadyH.cons rfl (fun K hK => ?_) AllReadyH.nil
        refine step_append_any (by rfl) (.tmp 72) (.tmp 75) 23 (by rfl) w3.heap.size 47 i0 _ 3 32 Try.underlying23 I1.out I2.out I3.out I4.out rfl (by decide) _ (ws.length - k) _ (by simp [Act.eval, Act.put]) hown4.out A2 k c2 (wcells (ws.take k)) (by simp [Act.eval, Act.put]) (by rw [wcells_length, List.length_take, Nat.min_eq_left (by omega)]) (fun h => by have := HCZ.out h; omega) (takeO_reads (by omega) (HLs.out.below hS)) (wcells_one _) (by unfold maxLen; omega) (by omega) (by have := hS.size; omega) ?_
        intro v5 w5 hown5' hg5' hq0
        clear hq0
        have hown5 := Lib.hid hown5'
        have hg5 := Lib.hid hg5'.out
        have hlt4 := hown4.out.lt
        clear hown5' hg5'
        refine hK.out _ _ (hS.grown hg5.out (by have := hS.size; omega) (fun j hj => (hlt4 j hj).1)) (fun hS => ?_)
        clear hK K
        refine wpAnyH_take (i := 9) (v := (v5)) rfl (by kernel_rfl) (by kernel_rfl) (by kernel_rfl) (fun _ _ _ h => h) (Or.inl ⟨by kernel_rfl, fun w' hS' => by go_simp⟩) hS ?_
        refine wpAnyH_done (by kernel_rfl) ?_ _
        go_simp
        first | (rename_i hnext; refine hnext _ _ ?_; clear hnext) | (rename_i hnext _; refine hnext _ _ ?_; clear hnext) | (rename_i hnext _ _; refine hnext _ _ ?_; clear hnext) | (rename_i hnext _ _ _; refine hnext _ _ ?_; clear hnext)
        obtain ⟨ot, hot, hpm, hlo⟩ : ∃ ot : List Wt, ws.drop k ++ ws.take k = ot ∧ ot.Perm ws ∧ ot.length = (ws.length - k) + k := ⟨_, rfl, turn_perm ws k, by rw [List.length_append, List.length_take, List.length_drop, Nat.min_eq_left (by omega)]⟩
        have HLE : Hid (WSl w5 w5.heap.size v5 ot) := Lib.hid (WSl.own (by rw [hlo, ← hot, wcells_append]; exact hown5.out))
        have hlo60 : ot.length ≤ 1099511627776 := by omega
        have HPM := Lib.hid hpm
        have hb5' := hS
        clear hown4 hown5 hg4 hg5 hlt4 HLs I1 I2 I3 I4 hot hlo HCZ hpm hS
        have hF2 : ¬ fitsP l ot := fun h => hF (fits_perm HPM.out h)
        have K2 := Lib.hid (fits_not hF2 HS.out (by omega) hlo60)
        have KL := Lib.hid (left_not (l := l) (ws := ws) (by omega) (by omega) HS.out)
        have HT1 := Lib.hid (HY1.out.at_ hb5')
        have HT2 := Lib.hid (HY2.out.at_ hb5')
        have HB5 := Lib.hid (below_two HB3.out hb5')
        clear hb5' HY1 HY2 HB3 hF2 hwk
        go_wp2_with (first
          | (go_at_call 18; ((with_reducible refine (K2.out _ _ _ HT1.out HLE.out).mono ?_); rintro e w6 ⟨rfl, hb6'⟩; have HZ1 := Lib.hid (HT1.out.at_ hb6'); have HZ2 := Lib.hid (HT2.out.at_ hb6'); have HB6 := Lib.hid (below_two HB5.out hb6'); clear hb6' HT1 HT2 HB5 HLE))
          | (go_at_call 15; ((with_reducible refine (KL.out _ _ _ HZ1.out HZ2.out hF).mono ?_); rintro e w7 ⟨rfl, hb7'⟩; have HB7 := Lib.hid (below_two HB6.out hb7'); clear hb7' HB6 HZ1 HZ2)))
        go_ret
        exact ⟨rfl, HB7.out⟩
    · have hd2 : decide (200 < (us.length : Int)) = true := decide_eq_true (by omega)
      go_wp2_with (go_at_call 10; ((with_reducible refine (small_any _ _ _ _ _ _ _).mono ?_); rintro e w2 ⟨rfl, rfl⟩; rw [hsd]))
      go_ret
      exact ⟨rfl, HB1.out⟩
  · have hsd : decide (l.length ≤ 40 ∧ ws.length ≤ 60) = false := decide_eq_false hS4
    clear hS4
    go_wp2_with (go_at_call 10; ((with_reducible refine (small_any _ _ _ _ _ _ _).mono ?_); rintro e w2 ⟨rfl, rfl⟩; rw [hsd]))
    go_ret
    exact ⟨rfl, HB1.out⟩
end Go.Proofs.Ytddnfikjfmfhfaa
end
section
/- Wants of one item that want more than there is: no walk. -/
namespace Go.Proofs.Ytddnfikjfmfhfaa
set_option linter.unusedVariables false
namespace Fl
section
variable {α γ : Type} {id : α → Int} {sv : α → γ → Bool}
theorem needT_snoc : ∀ (wn : List (γ × Int)) (T : Nat → Bool) (p : γ × Int), needT T (wn ++ [p]) = needT T wn + (if T wn.length = true then p.2 else 0)
  | [], T, p => by simp [needT]
  | a :: r, T, p => by
    simp only [List.cons_append, needT, List.length_cons]
    rw [needT_snoc r (fun i => T (i + 1)) p]
    omega
theorem meets_snoc (l : α) : ∀ (wn : List (γ × Int)) (T : Nat → Bool) (p : γ × Int), meets sv l T (wn ++ [p]) = (meets sv l T wn || (T wn.length && sv l p.1))
  | [], T, p => by simp [meets]
  | a :: r, T, p => by
    simp only [List.cons_append, meets, List.length_cons]
    rw [meets_snoc l r (fun i => T (i + 1)) p, Bool.or_assoc]
theorem haveT_snoc (q : Int → Int) (T : Nat → Bool) (wn : List (γ × Int)) (x : α) : ∀ (ls : List α), haveT id sv q T wn (ls ++ [x]) = haveT id sv q T wn ls + (if meets sv x T wn = true then q (id x) else 0)
  | [] => by simp [haveT]
  | a :: r => by
    simp only [List.cons_append, haveT]
    rw [haveT_snoc q T wn x r]
    omega
theorem needT_bound (M : Int) (hM : 0 ≤ M) : ∀ (wn : List (γ × Int)) (T : Nat → Bool), (∀ p ∈ wn, 0 ≤ p.2 ∧ p.2 ≤ M) → 0 ≤ needT T wn ∧ needT T wn ≤ wn.length * M
  | [], T, _ => by simp [needT]
  | a :: r, T, h => by
    have ih := needT_bound M hM r (fun i => T (i + 1)) (fun p hp => h p (by simp [hp]))
    have ha := h a (by simp)
    simp only [needT, List.length_cons]
    have e : ((r.length + 1 : Nat) : Int) * M = r.length * M + M := by push_cast; rw [Int.add_mul, Int.one_mul]
    rw [e]
    split <;> omega
theorem haveT_bound (q : Int → Int) (M : Int) (hM : 0 ≤ M) (T : Nat → Bool) (wn : List (γ × Int)) : ∀ (ls : List α), (∀ x ∈ ls, 0 ≤ q (id x) ∧ q (id x) ≤ M) → 0 ≤ haveT id sv q T wn ls ∧ haveT id sv q T wn ls ≤ ls.length * M
  | [], _ => by simp [haveT]
  | a :: r, h => by
    have ih := haveT_bound q M hM T wn r (fun p hp => h p (by simp [hp]))
    have ha := h a (by simp)
    simp only [haveT, List.length_cons]
    have e : ((r.length + 1 : Nat) : Int) * M = r.length * M + M := by push_cast; rw [Int.add_mul, Int.one_mul]
    rw [e]
    split <;> omega
theorem meets_mem (l : α) : ∀ (wn : List (γ × Int)) (T : Nat → Bool), meets sv l T wn = true → ∃ (i : Nat) (p : γ × Int), T i = true ∧ wn[i]? = some p ∧ sv l p.1 = true
  | [], T, h => by simp [meets] at h
  | a :: r, T, h => by
    simp only [meets, Bool.or_eq_true, Bool.and_eq_true] at h
    rcases h with h | h
    · exact ⟨0, a, h.1, rfl, h.2⟩
    · obtain ⟨i, p, h1, h2, h3⟩ := meets_mem l r _ h
      exact ⟨i + 1, p, h1, h2, h3⟩
theorem haveT_split (q : Int → Int) (A B : Nat → Bool) (wn : List (γ × Int)) : ∀ (ls : List α), (∀ x ∈ ls, ¬ (meets sv x A wn = true ∧ meets sv x B wn = true)) → haveT id sv q (fun i => A i || B i) wn ls = haveT id sv q A wn ls + haveT id sv q B wn ls
  | [], _ => by simp [haveT]
  | a :: r, h => by
    have ih := haveT_split q A B wn r (fun p hp => h p (by simp [hp]))
    have ha := h a (by simp)
    simp only [haveT]
    rw [ih, meets_or]
    cases h1 : meets sv a A wn <;> cases h2 : meets sv a B wn
    · simp
    · simp; omega
    · simp; omega
    · exact absurd ⟨h1, h2⟩ ha
end
end Fl
/-- How many of the first n are in the set. -/
def cnt (T : Nat → Bool) : Nat → Nat
  | 0 => 0
  | k + 1 => cnt T k + (if T k = true then 1 else 0)
theorem cnt_le {A T : Nat → Bool} (h : ∀ i, A i = true → T i = true) : ∀ n, cnt A n ≤ cnt T n
  | 0 => Nat.le_refl _
  | k + 1 => by
    have := cnt_le h k
    have hk := h k
    simp only [cnt]
    cases ha : A k
    · simp; omega
    · rw [hk ha]; simp; omega
theorem cnt_lt {A T : Nat → Bool} (h : ∀ i, A i = true → T i = true) {i0 : Nat} (h1 : T i0 = true) (h2 : A i0 = false) : ∀ n, i0 < n → cnt A n < cnt T n
  | 0, h => absurd h (by omega)
  | k + 1, hk => by
    simp only [cnt]
    by_cases e : i0 = k
    · subst e
      have := cnt_le h i0
      rw [h1, h2]; simp; omega
    · have := cnt_lt h h1 h2 k (by omega)
      have hh := h k
      cases ha : A k
      · simp; omega
      · rw [hh ha]; simp; omega
/-- Those of one item. -/
def OneItem (ws : List Wt) (T : Nat → Bool) : Prop := ∀ i j x y, T i = true → T j = true → ws[i]? = some x → ws[j]? = some y → x.item = y.item
def wnOf (ws : List Wt) : List (Wt × Int) := ws.map (fun w => (w, w.qty))
theorem one_item {l : List Lt} {ws : List Wt} {q : Int → Int} (hq : ∀ x ∈ l, 0 ≤ q x.id) : ∀ (m : Nat) (T : Nat → Bool), cnt T ws.length ≤ m → Fl.haveT Lt.id servesB q T (wnOf ws) l < Fl.needT T (wnOf ws) →
    ∃ A, OneItem ws A ∧ Fl.haveT Lt.id servesB q A (wnOf ws) l < Fl.needT A (wnOf ws) := by
  intro m
  induction m with
  | zero =>
    intro T hc h
    exact ⟨T, fun i j x y hi hj hx hy => by
      exfalso
      have hil := (List.getElem?_eq_some_iff.1 hx).1
      have : cnt (fun _ => false) ws.length < cnt T ws.length := cnt_lt (fun i h => by simp at h) hi rfl _ hil
      omega, h⟩
  | succ m ih =>
    intro T hc h
    by_cases ho : OneItem ws T
    · exact ⟨T, ho, h⟩
    · obtain ⟨i0, x0, hi0, hx0⟩ : ∃ i0 x0, T i0 = true ∧ ws[i0]? = some x0 := by
        refine Classical.byContradiction fun hn => ho (fun i j x y hi hj hx hy => absurd ⟨i, x, hi, hx⟩ hn)
      obtain ⟨A, hA⟩ : ∃ A : Nat → Bool, A = fun i => T i && decide ((ws.getD i default).item = x0.item) := ⟨_, rfl⟩
      obtain ⟨B, hB⟩ : ∃ B : Nat → Bool, B = fun i => T i && !decide ((ws.getD i default).item = x0.item) := ⟨_, rfl⟩
      have hor : (fun i => A i || B i) = T := by
        funext i; rw [hA, hB]; simp only; cases T i <;> cases decide ((ws.getD i default).item = x0.item) <;> rfl
      have hand : ∀ i, (A i && B i) = false := fun i => by
        rw [hA, hB]; simp only; cases T i <;> cases decide ((ws.getD i default).item = x0.item) <;> rfl
      have hgd : ∀ i (x : Wt), ws[i]? = some x → ws.getD i default = x := fun i x hx => by rw [List.getD_eq_getElem?_getD, hx]; rfl
      have hget : ∀ i (p : Wt × Int), (wnOf ws)[i]? = some p → ws[i]? = some p.1 := fun i p hp => by
        unfold wnOf at hp
        rw [List.getElem?_map] at hp
        cases hw : ws[i]? with
        | none => rw [hw] at hp; simp at hp
        | some w => rw [hw] at hp; simp at hp; rw [← hp]
      have hn := Fl.needT_mod A B (wnOf ws)
      rw [hor, Fl.needT_none _ _ hand] at hn
      have hs := Fl.haveT_split (id := Lt.id) (sv := servesB) q A B (wnOf ws) l (fun x hx ⟨ha, hb⟩ => by
        obtain ⟨i, p, a1, a2, a3⟩ := Fl.meets_mem x _ _ ha
        obtain ⟨j, r, b1, b2, b3⟩ := Fl.meets_mem x _ _ hb
        have e1 := hget i p a2
        have e2 := hget j r b2
        rw [hA] at a1
        rw [hB] at b1
        simp only [Bool.and_eq_true, decide_eq_true_eq, Bool.not_eq_true', decide_eq_false_iff_not] at a1 b1
        rw [hgd i _ e1] at a1
        rw [hgd j _ e2] at b1
        unfold servesB at a3 b3
        simp only [Bool.and_eq_true, decide_eq_true_eq] at a3 b3
        exact b1.2 (by rw [← b3.1, a3.1, a1.2]))
      rw [hor] at hs
      rw [hs] at h
      by_cases ha : Fl.haveT Lt.id servesB q A (wnOf ws) l < Fl.needT A (wnOf ws)
      · refine ⟨A, fun i j x y hi hj hx hy => ?_, ha⟩
        rw [hA] at hi hj
        simp only [Bool.and_eq_true, decide_eq_true_eq] at hi hj
        rw [hgd i x hx] at hi
        rw [hgd j y hy] at hj
        rw [hi.2, hj.2]
      · have hil := (List.getElem?_eq_some_iff.1 hx0).1
        have hlt : cnt B ws.length < cnt T ws.length := cnt_lt (fun i hi => by rw [hB] at hi; simp only [Bool.and_eq_true] at hi; exact hi.1) hi0 (by rw [hB]; simp only; rw [hgd i0 x0 hx0]; simp) _ hil
        exact ih B (by omega) (by omega)
/-- The set as a number. -/
def setOf (T : Nat → Bool) : Nat → Nat
  | 0 => 0
  | k + 1 => (if T k = true then 2 ^ k else 0) + setOf T k
def bitOf (s i : Nat) : Bool := decide (s / 2 ^ i % 2 = 1)
theorem setOf_lt (T : Nat → Bool) : ∀ n, setOf T n < 2 ^ n
  | 0 => by simp [setOf]
  | k + 1 => by
    have := setOf_lt T k
    simp only [setOf]
    rw [Nat.pow_succ]
    split <;> omega
theorem bit_setOf (T : Nat → Bool) : ∀ n i, i < n → bitOf (setOf T n) i = T i
  | 0, i, h => absurd h (by omega)
  | k + 1, i, h => by
    have hb : ∀ s, bitOf s i = s.testBit i := fun s => by unfold bitOf; rw [Nat.testBit_eq_decide_div_mod_eq]
    have hlt := setOf_lt T k
    rw [hb]
    simp only [setOf]
    by_cases e : i = k
    · subst e
      by_cases ht : T i = true
      · rw [if_pos ht, Nat.testBit_two_pow_add_eq, Nat.testBit_lt_two_pow hlt, ht]; rfl
      · rw [if_neg ht, Nat.zero_add, Nat.testBit_lt_two_pow hlt]; simpa using ht
    · have ih := bit_setOf T k i (by omega)
      rw [hb] at ih
      by_cases ht : T k = true
      · rw [if_pos ht, Nat.testBit_two_pow_add_gt (by omega), ih]
      · rw [if_neg ht, Nat.zero_add, ih]
theorem setOf_pos (T : Nat → Bool) : ∀ n i, i < n → T i = true → 1 ≤ setOf T n
  | 0, i, h, _ => absurd h (by omega)
  | k + 1, i, h, ht => by
    simp only [setOf]
    by_cases e : i = k
    · subst e
      rw [if_pos ht]
      have : 0 < 2 ^ i := Nat.pos_of_ne_zero (by simp)
      omega
    · have := setOf_pos T k i (by omega) ht
      omega
/-- The last item of the set, among the first wants, and whether all are of one. -/
def oneF (ws : List Wt) (T : Nat → Bool) : Nat → List UInt8 × Bool
  | 0 => ([], true)
  | k + 1 => if T k = true then ((ws.getD k default).item, (oneF ws T k).2 && (decide ((oneF ws T k).1 = []) || decide ((oneF ws T k).1 = (ws.getD k default).item))) else oneF ws T k
theorem oneF_yes {ws : List Wt} {T : Nat → Bool} (h : OneItem ws T) : ∀ k, k ≤ ws.length → (oneF ws T k).2 = true ∧ ((oneF ws T k).1 = [] ∨ ∃ i x, T i = true ∧ ws[i]? = some x ∧ (oneF ws T k).1 = x.item)
  | 0, _ => ⟨rfl, .inl rfl⟩
  | k + 1, hk => by
    obtain ⟨h1, h2⟩ := oneF_yes h k (by omega)
    have hx : ws[k]? = some (ws.getD k default) := by rw [List.getD_eq_getElem?_getD, List.getElem?_eq_getElem (show k < ws.length by omega)]; rfl
    simp only [oneF]
    split
    · rename_i ht
      refine ⟨?_, .inr ⟨k, _, ht, hx, rfl⟩⟩
      rw [h1, Bool.true_and]
      rcases h2 with h2 | ⟨i, x, hi, hxi, he⟩
      · rw [h2]; simp
      · rw [he, h i k x _ hi ht hxi hx]; simp
    · exact ⟨h1, h2⟩
/-- This set of wants is of one item, and wants more than there is. -/
def Viol (l : List Lt) (ws : List Wt) (s : Nat) : Prop := (oneF ws (bitOf s) ws.length).2 = true ∧ Fl.haveT Lt.id servesB (qtyOf l) (bitOf s) (wnOf ws) l < Fl.needT (bitOf s) (wnOf ws)
theorem needT_congr {γ : Type} : ∀ (wn : List (γ × Int)) (A B : Nat → Bool), (∀ i, i < wn.length → A i = B i) → Fl.needT A wn = Fl.needT B wn
  | [], A, B, _ => rfl
  | a :: r, A, B, h => by
    simp only [Fl.needT]
    rw [needT_congr r (fun i => A (i + 1)) (fun i => B (i + 1)) (fun i hi => h (i + 1) (by simp; omega)), h 0 (by simp)]
theorem meets_congr {α γ : Type} {sv : α → γ → Bool} (l : α) : ∀ (wn : List (γ × Int)) (A B : Nat → Bool), (∀ i, i < wn.length → A i = B i) → Fl.meets sv l A wn = Fl.meets sv l B wn
  | [], A, B, _ => rfl
  | a :: r, A, B, h => by
    simp only [Fl.meets]
    rw [meets_congr l r (fun i => A (i + 1)) (fun i => B (i + 1)) (fun i hi => h (i + 1) (by simp; omega)), h 0 (by simp)]
theorem haveT_congr {α γ : Type} {id : α → Int} {sv : α → γ → Bool} {q : Int → Int} (wn : List (γ × Int)) (A B : Nat → Bool) (h : ∀ i, i < wn.length → A i = B i) : ∀ ls : List α, Fl.haveT id sv q A wn ls = Fl.haveT id sv q B wn ls
  | [] => rfl
  | a :: r => by simp only [Fl.haveT]; rw [haveT_congr wn A B h r, meets_congr a wn A B h]
theorem oneF_congr {ws : List Wt} {A B : Nat → Bool} (h : ∀ i, i < ws.length → A i = B i) : ∀ k, k ≤ ws.length → oneF ws A k = oneF ws B k
  | 0, _ => rfl
  | k + 1, hk => by simp only [oneF]; rw [oneF_congr h k (by omega), h k (by omega)]
theorem why_some {l : List Lt} {ws : List Wt} (hb : mayB l ws = true) (hf : ¬ fitsP l ws) : ∃ s, 1 ≤ s ∧ s < 2 ^ ws.length ∧ Viol l ws s := by
  obtain ⟨_, _, hlr, hwr, hnd⟩ := mayB_true hb
  have hq : ∀ x ∈ l, 0 ≤ qtyOf l x.id := fun x hx => (qtyOf_range hlr _).1
  have hnc : ¬ CanAll l (qtyOf l) ws := fun h => hf ⟨hb, h⟩
  unfold CanAll at hnc
  rw [Fl.feas_iff_hall hnd hq (fun w hw => by have := (wantB_parts (hwr w hw)).2.1; omega)] at hnc
  obtain ⟨T, hT⟩ : ∃ T : Nat → Bool, ¬ Fl.needT T (wnOf ws) ≤ Fl.haveT Lt.id servesB (qtyOf l) T (wnOf ws) l := Classical.byContradiction fun hn => hnc (fun T => Classical.byContradiction fun h => hn ⟨T, h⟩)
  obtain ⟨A, hA, hlt⟩ := one_item (l := l) (ws := ws) (q := qtyOf l) hq _ T (Nat.le_refl _) (by omega)
  have hbits : ∀ i, i < ws.length → bitOf (setOf A ws.length) i = A i := fun i hi => bit_setOf A ws.length i hi
  have hwl : (wnOf ws).length = ws.length := List.length_map _
  have hsel : ∃ i, i < ws.length ∧ A i = true := by
    refine Classical.byContradiction fun hn => ?_
    have hz : ∀ i, i < (wnOf ws).length → A i = (fun _ => false) i := fun i hi => by
      cases h : A i with
      | false => rfl
      | true => exact absurd ⟨i, by omega, h⟩ hn
    rw [needT_congr _ _ _ hz, Fl.needT_none _ _ (fun _ => rfl)] at hlt
    have := Fl.haveT_nonneg (id := Lt.id) (sv := servesB) (qtyOf l) A (wnOf ws) hq
    omega
  obtain ⟨i, hi, hai⟩ := hsel
  refine ⟨setOf A ws.length, setOf_pos A _ i hi hai, setOf_lt A _, ?_, ?_⟩
  · rw [oneF_congr hbits _ (Nat.le_refl _)]
    exact (oneF_yes hA _ (Nat.le_refl _)).1
  · rw [haveT_congr _ _ _ (fun i hi => hbits i (by omega)), needT_congr _ _ _ (fun i hi => hbits i (by omega))]
    exact hlt
end Go.Proofs.Ytddnfikjfmfhfaa
end
section
/- storemankit.SameLots: are two lists of lots the same? storemanlaw04.count. -/
namespace Go.Proofs.Ytddnfikjfmfhfaa
open Go.ChangeShapes Go.WideShapes Go.ChangeAt Go.RowKit
set_option linter.unusedVariables false

theorem str_eq (a b : List UInt8) : ((⟨a.toArray⟩ : ByteArray).toList == (⟨b.toArray⟩ : ByteArray).toList) = decide (a = b) := by
  rw [ByteArray.toList_eq, ByteArray.toList_eq]
  by_cases h : a = b <;> simp [h]
theorem eq_win (f u f' u' : Int) (w : World) (n : Nat) : (Op.equalIn (n + 2) 40 (.agg #[.int .i64 f, .int .i64 u]) (.agg #[.int .i64 f', .int .i64 u'])).run Try.prog w = .ok (decide (f = f' ∧ u = u')) w := by
  have u2 := Try.underlying3
  have a2 := Try.isAgg3
  have z2 := Try.sizeOf3
  have hS : Try.prog.underlying 40 = some (.struct (Try.prog.fieldsOf 40)) := by kernel_rfl
  have hp : Try.prog.stoodInHeld 40 = false := by kernel_rfl
  rw [run_equalIn_agg w (n + 1) 40 _ _ hS hp]
  simp only [Program.fieldsOf, Try.underlying40]
  go_simp
  by_cases h1 : f = f' <;> by_cases h2 : u = u' <;> simp [h1, h2]
theorem lot_iff (x y : Lt) : x = y ↔ x.id = y.id ∧ x.item = y.item ∧ x.fr = y.fr ∧ x.un = y.un ∧ x.qty = y.qty ∧ x.arr = y.arr :=
  ⟨fun h => by subst h; exact ⟨rfl, rfl, rfl, rfl, rfl, rfl⟩, fun h => Lt.ext_ h.1 h.2.1 h.2.2.1 h.2.2.2.1 h.2.2.2.2.1 h.2.2.2.2.2⟩
theorem dec_lot (x y : Lt) : decide (x = y) = decide (x.id = y.id ∧ x.item = y.item ∧ x.fr = y.fr ∧ x.un = y.un ∧ x.qty = y.qty ∧ x.arr = y.arr) := by congr 1; exact propext (lot_iff x y)
theorem eq_lot (x y : Lt) (w : World) : (Op.equalIn 10000 42 (aggL x) (aggL y)).run Try.prog w = .ok (decide (x = y)) w := by
  have u2 := Try.underlying2
  have a2 := Try.isAgg2
  have z2 := Try.sizeOf2
  have u3 := Try.underlying3
  have a3 := Try.isAgg3
  have z3 := Try.sizeOf3
  have u4 := Try.underlying4
  have a4 := Try.isAgg4
  have z4 := Try.sizeOf4
  have u9 := Try.underlying9
  have a9 := Try.isAgg9
  have z9 := Try.sizeOf9
  have a5 := Try.isAgg40
  have z5 := Try.sizeOf40
  have hS : Try.prog.underlying 42 = some (.struct (Try.prog.fieldsOf 42)) := by kernel_rfl
  have hp : Try.prog.stoodInHeld 42 = false := by kernel_rfl
  have hw := fun f u f' u' w => eq_win f u f' u' w 9997
  rw [show (10000 : Nat) = 9999 + 1 from rfl, run_equalIn_agg w 9999 42 _ _ hS hp]
  simp only [Program.fieldsOf, Try.underlying42]
  go_simp
  have e := dec_lot x y
  rw [e]
  clear hw hS hp u2 a2 z2 u3 a3 z3 u4 a4 z4 u9 a9 z9 a5 z5 e
  by_cases h1 : x.id = y.id
  · by_cases h2 : x.item = y.item
    · by_cases h3 : x.fr = y.fr
      · by_cases h4 : x.un = y.un
        · by_cases h5 : x.qty = y.qty <;> by_cases h6 : x.arr = y.arr <;> simp [h1, h2, h3, h4, h5, h6]
        · simp [h1, h2, h3, h4]
      · simp [h1, h2, h3]
    · simp [h1, h2]
  · simp [h1]
theorem eql_lot (x y : Lt) (w : World) : (binOp .eql 42 (aggL x) (aggL y)).run Try.prog w = .ok (.bool (decide (x = y))) w := by
  rw [run_eql_struct, eq_lot]; rfl
theorem neq_lot (x y : Lt) (w : World) : (binOp .neq 42 (aggL x) (aggL y)).run Try.prog w = .ok (.bool (!decide (x = y))) w := by
  rw [run_neq_struct, eq_lot]; rfl

def sameB (l m : List Lt) : Bool := decide (l = m)
theorem LSl.six {w : World} {B : Nat} {A : Option Addr} {n c : Nat} {l : List Lt} (h : LSl w B (.slice A n c) l) {k : Nat} {x : Lt} (hk : l[k]? = some x) : ∃ ad, A = some ad ∧ ad.block < B ∧ Six w (ad.add (k * 6)) x := by
  obtain ⟨A', c', hv, _, _, _, hl⟩ := h
  injection hv with hA
  subst hA
  exact hl.six hk
/-- A comparison of two lots' values, told once. -/
def CmpRun (b : Bool) (x y : Lt) : Prop := ∀ w, (binOp .neq 42 (.agg #[.int .i64 x.id, .string ⟨x.item.toArray⟩, .int .i64 x.fr, .int .i64 x.un, .int .i64 x.qty, .bool x.arr]) (.agg #[.int .i64 y.id, .string ⟨y.item.toArray⟩, .int .i64 y.fr, .int .i64 y.un, .int .i64 y.qty, .bool y.arr])).run Try.prog w = .ok (.bool b) w

set_option maxHeartbeats 1000000 in
theorem same_any (l m : List Lt) (v1 v2 : Value) (w : World) (h1 : LSl w w.heap.size v1 l) (h2 : LSl w w.heap.size v2 m) (hl : l.length ≤ 1099511627776) (hm : m.length ≤ 1099511627776) :
    Calls Try.prog 19 #[v1, v2] w fun e w' => e = .returned (.bool (sameB l m)) ∧ Below w.heap.size w w' := by
  obtain ⟨A, c, rfl, hc1, hc2, _, hl1⟩ := id h1
  obtain ⟨A', c', rfl, hc1', hc2', _, hl1'⟩ := id h2
  have HV1 := Lib.hid h1
  have HV2 := Lib.hid h2
  clear h1 h2 hl1 hl1'
  by_cases hlen : l.length = m.length
  · have hle1 : l.length ≤ m.length := by omega
    have hle2 : m.length ≤ l.length := by omega
    have hb1 : ((l.length : Int) == (m.length : Int)) = true := by simp [hlen]
    have hb2 : ((l.length : Int) != (m.length : Int)) = false := by simp [hlen]
    have HLEN := Lib.hid hlen
    clear hlen
    go_enter Try.func19, Try.ntmps19
    go_wp2
    clear hb1 hb2
    go_loopw [5] (fun i wr => ∃ k : Nat, k ≤ l.length ∧ i = .int .i64 k ∧ Hid (Below w.heap.size w wr) ∧ Hid (l.take k = m.take k)) (fun i _ => l.length - (intOf i).toNat)
    case atStart => exact ⟨0, Nat.zero_le _, rfl, Lib.hid (Below.refl _ _), Lib.hid rfl⟩
    case round =>
      obtain ⟨k, hk, rfl, HB, HTK⟩ := hrel
      by_cases hlt : k < l.length
      · obtain ⟨x, hx⟩ : ∃ x, l[k]? = some x := ⟨_, List.getElem?_eq_getElem hlt⟩
        obtain ⟨y, hy⟩ : ∃ y, m[k]? = some y := ⟨_, List.getElem?_eq_getElem (by omega)⟩
        obtain ⟨ap, hap, _, hp0, hp1, hp2, hp3, hp4, hp5⟩ := (HV1.out.below HB.out).six hx
        obtain ⟨aq, haq, _, hq0, hq1, hq2, hq3, hq4, hq5⟩ := (HV2.out.below HB.out).six hy
        subst hap haq
        have HX := Lib.hid hx
        have HY := Lib.hid hy
        clear hx hy
        have hltm : k < m.length := by omega
        by_cases hxy : x = y
        · have hne : CmpRun false x y := fun w => by have := neq_lot x y w; simp only [hxy, decide_true, Bool.not_true] at this ⊢; exact this
          unfold CmpRun at hne
          have HXY := Lib.hid hxy
          clear hxy
          go_wp2
          go_quiet (fail)
          go_wp2
          go_roundw
          case rel => exact ⟨k + 1, by omega, by go_num, Lib.hid (below_draws HB.out _), Lib.hid (by rw [List.take_add_one, List.take_add_one, HTK.out, HX.out, HY.out, HXY.out])⟩
          case measure => simp [intOf]; omega
        · have hne : CmpRun true x y := fun w => by have := neq_lot x y w; rw [decide_eq_false hxy] at this; exact this
          unfold CmpRun at hne
          have HXY := Lib.hid hxy
          clear hxy
          go_wp2
          go_quiet (fail)
          go_wp2
          go_ret
          refine ⟨ret_bool ?_, below_draws HB.out _⟩
          symm
          simp only [sameB, decide_eq_false_iff_not]
          intro e
          subst e
          exact HXY.out (Option.some.inj (HX.out.symm.trans HY.out))
      · obtain rfl : k = l.length := by omega
        go_wp2
        go_ret
        refine ⟨ret_bool ?_, HB.out⟩
        have h := HTK.out
        rw [List.take_of_length_le (Nat.le_refl _), List.take_of_length_le (by omega)] at h
        simp [sameB, h]
  · have hb1 : ((l.length : Int) == (m.length : Int)) = false := by simp; omega
    have hb2 : ((l.length : Int) != (m.length : Int)) = true := by simp; omega
    have HLEN := Lib.hid hlen
    clear hlen
    go_enter Try.func19, Try.ntmps19
    go_wp2
    go_ret
    refine ⟨ret_bool ?_, Below.refl _ _⟩
    symm
    simp only [sameB, decide_eq_false_iff_not]
    rintro rfl
    exact HLEN.out rfl
theorem same_yes (l : List Lt) (v1 v2 : Value) (w : World) (h1 : LSl w w.heap.size v1 l) (h2 : LSl w w.heap.size v2 l) (hl : l.length ≤ 1099511627776) :
    Calls Try.prog 19 #[v1, v2] w fun e w' => e = .returned (.bool true) ∧ Below w.heap.size w w' := by
  refine (same_any l l v1 v2 w h1 h2 hl hl).mono ?_
  rintro e w' ⟨rfl, hb⟩
  exact ⟨ret_bool (by simp [sameB]), hb⟩
end Go.Proofs.Ytddnfikjfmfhfaa
end
section
/- storemankit.mark; are two wants, are two uses the same. Written by gen_flent.py. -/
namespace Go.Proofs.Ytddnfikjfmfhfaa
open Go.ChangeShapes Go.WideShapes Go.ChangeAt Go.RowKit Go.Sort
set_option linter.unusedVariables false
theorem mark_any (k i : Int) (w : World) (h0 : 0 ≤ k) (h1 : k ≤ 1000000) (h2 : 0 ≤ i) (h3 : i ≤ 1099511627776) :
    Calls Try.prog 46 #[.int .i64 k, .int .i64 i] w fun e w' => e = .returned (.int .i64 (1000003 * (k + 7) + i)) ∧ w = w' := by
  go_enter Try.func46, Try.ntmps46
  go_wp2
  go_ret
  exact ⟨rfl, rfl⟩
theorem below_grow {B : Nat} {a w : World} (h : Go.RowKit.Below B a w) (hB : B ≤ w.heap.size) (n : Nat) (os : Array Obj) : Go.RowKit.Below B a (grow (w.drewN n) os) :=
  ⟨h.os, h.tape, h.output, by have := h.size; simp only [size_grow]; show a.heap.size ≤ w.heap.size + os.size; omega, fun k hk => (heap_grow_old (w.drewN n) os (show k < w.heap.size by omega)).trans (h.block k hk)⟩
theorem U_iff (x y : Us) : x = y ↔ x.want = y.want ∧ x.lot = y.lot ∧ x.qty = y.qty :=
  ⟨fun h => by subst h; exact ⟨rfl, rfl, rfl⟩, fun h => Us.ext_ h.1 h.2.1 h.2.2⟩
theorem dec_U (x y : Us) : decide (x = y) = decide (x.want = y.want ∧ x.lot = y.lot ∧ x.qty = y.qty) := by congr 1; exact propext (U_iff x y)
theorem eq_U (x y : Us) (w : World) : (Op.equalIn 10000 44 (.agg #[.int .i64 x.want, .int .i64 x.lot, .int .i64 x.qty]) (.agg #[.int .i64 y.want, .int .i64 y.lot, .int .i64 y.qty])).run Try.prog w = .ok (decide (x = y)) w := by
  have u2 := Try.underlying2
  have a2 := Try.isAgg2
  have z2 := Try.sizeOf2
  have u3 := Try.underlying3
  have a3 := Try.isAgg3
  have z3 := Try.sizeOf3
  have hS : Try.prog.underlying 44 = some (.struct (Try.prog.fieldsOf 44)) := by kernel_rfl
  have hp : Try.prog.stoodInHeld 44 = false := by kernel_rfl
  rw [show (10000 : Nat) = 9999 + 1 from rfl, run_equalIn_agg w 9999 44 _ _ hS hp]
  simp only [Program.fieldsOf, Try.underlying44]
  go_simp
  have e := dec_U x y
  rw [e]
  clear hS hp e
  by_cases h1 : x.want = y.want
  · by_cases h2 : x.lot = y.lot
    · by_cases h3 : x.qty = y.qty <;> simp [h1, h2, h3]
    · simp [h1, h2]
  · simp [h1]
theorem eql_U (x y : Us) (w : World) : (binOp .eql 44 (.agg #[.int .i64 x.want, .int .i64 x.lot, .int .i64 x.qty]) (.agg #[.int .i64 y.want, .int .i64 y.lot, .int .i64 y.qty])).run Try.prog w = .ok (.bool (decide (x = y))) w := by
  rw [run_eql_struct, eq_U]; rfl
theorem neq_U (x y : Us) (w : World) : (binOp .neq 44 (.agg #[.int .i64 x.want, .int .i64 x.lot, .int .i64 x.qty]) (.agg #[.int .i64 y.want, .int .i64 y.lot, .int .i64 y.qty])).run Try.prog w = .ok (.bool (!decide (x = y))) w := by
  rw [run_neq_struct, eq_U]; rfl
theorem W_iff (x y : Wt) : x = y ↔ x.item = y.item ∧ x.day = y.day ∧ x.qty = y.qty :=
  ⟨fun h => by subst h; exact ⟨rfl, rfl, rfl⟩, fun h => Wt.ext_ h.1 h.2.1 h.2.2⟩
theorem dec_W (x y : Wt) : decide (x = y) = decide (x.item = y.item ∧ x.day = y.day ∧ x.qty = y.qty) := by congr 1; exact propext (W_iff x y)
theorem eq_W (x y : Wt) (w : World) : (Op.equalIn 10000 47 (.agg #[.string ⟨x.item.toArray⟩, .int .i64 x.day, .int .i64 x.qty]) (.agg #[.string ⟨y.item.toArray⟩, .int .i64 y.day, .int .i64 y.qty])).run Try.prog w = .ok (decide (x = y)) w := by
  have u2 := Try.underlying2
  have a2 := Try.isAgg2
  have z2 := Try.sizeOf2
  have u3 := Try.underlying3
  have a3 := Try.isAgg3
  have z3 := Try.sizeOf3
  have u9 := Try.underlying9
  have a9 := Try.isAgg9
  have z9 := Try.sizeOf9
  have hS : Try.prog.underlying 47 = some (.struct (Try.prog.fieldsOf 47)) := by kernel_rfl
  have hp : Try.prog.stoodInHeld 47 = false := by kernel_rfl
  rw [show (10000 : Nat) = 9999 + 1 from rfl, run_equalIn_agg w 9999 47 _ _ hS hp]
  simp only [Program.fieldsOf, Try.underlying47]
  go_simp
  have e := dec_W x y
  rw [e]
  clear hS hp e
  by_cases h1 : x.item = y.item
  · by_cases h2 : x.day = y.day
    · by_cases h3 : x.qty = y.qty <;> simp [h1, h2, h3]
    · simp [h1, h2]
  · simp [h1]
theorem eql_W (x y : Wt) (w : World) : (binOp .eql 47 (.agg #[.string ⟨x.item.toArray⟩, .int .i64 x.day, .int .i64 x.qty]) (.agg #[.string ⟨y.item.toArray⟩, .int .i64 y.day, .int .i64 y.qty])).run Try.prog w = .ok (.bool (decide (x = y))) w := by
  rw [run_eql_struct, eq_W]; rfl
theorem neq_W (x y : Wt) (w : World) : (binOp .neq 47 (.agg #[.string ⟨x.item.toArray⟩, .int .i64 x.day, .int .i64 x.qty]) (.agg #[.string ⟨y.item.toArray⟩, .int .i64 y.day, .int .i64 y.qty])).run Try.prog w = .ok (.bool (!decide (x = y))) w := by
  rw [run_neq_struct, eq_W]; rfl
end Go.Proofs.Ytddnfikjfmfhfaa
end
section
/- window.Right, window.Has: what they leave, exactly. Written by gen_fhas.py. -/
namespace Go.Proofs.Ytddnfikjfmfhfaa
open Go.ChangeShapes Go.WideShapes Go.ChangeAt Go.RowKit Go.Sort
set_option linter.unusedVariables false
abbrev winO (f u : Int) : Obj := .cells #[.int .i64 f, .int .i64 u] 40
set_option maxHeartbeats 2000000 in
theorem wright_x (f u : Int) (w : World) : Calls Try.prog 45 #[.agg #[.int .i64 f, .int .i64 u]] w fun e w' => e = .returned (.bool (wrightB f u)) ∧ w.alloc (winO f u) = w' := by
  by_cases h0 : 0 ≤ f
  ·
    by_cases h1 : f ≤ u
    ·
      by_cases h2 : u ≤ 4001
      ·
        have d0 : decide (0 ≤ f) = true := decide_eq_true h0
        have d1 : decide (f ≤ u) = true := decide_eq_true h1
        have d2 : decide (u ≤ 4001) = true := decide_eq_true h2
        have hv : wrightB f u = true := by unfold wrightB; simp; omega
        rw [hv]
        clear hv
        go_enter Try.func45, Try.ntmps45
        go_wp2_with (fail)
        go_ret
        exact ⟨rfl, rfl⟩
      ·
        have d0 : decide (0 ≤ f) = true := decide_eq_true h0
        have d1 : decide (f ≤ u) = true := decide_eq_true h1
        have d2 : decide (u ≤ 4001) = false := decide_eq_false h2
        have hv : wrightB f u = false := by unfold wrightB; simp; omega
        rw [hv]
        clear hv
        go_enter Try.func45, Try.ntmps45
        go_wp2_with (fail)
        go_ret
        exact ⟨rfl, rfl⟩
    ·
      have d0 : decide (0 ≤ f) = true := decide_eq_true h0
      have d1 : decide (f ≤ u) = false := decide_eq_false h1
      have hv : wrightB f u = false := by unfold wrightB; simp; omega
      rw [hv]
      clear hv
      go_enter Try.func45, Try.ntmps45
      go_wp2_with (fail)
      go_ret
      exact ⟨rfl, rfl⟩
  ·
    have d0 : decide (0 ≤ f) = false := decide_eq_false h0
    have hv : wrightB f u = false := by unfold wrightB; simp; omega
    rw [hv]
    clear hv
    go_enter Try.func45, Try.ntmps45
    go_wp2_with (fail)
    go_ret
    exact ⟨rfl, rfl⟩
theorem wright_xb (b : Bool) (f u : Int) (w : World) (h : wrightB f u = b) : Calls Try.prog 45 #[.agg #[.int .i64 f, .int .i64 u]] w fun e w' => e = .returned (.bool b) ∧ w.alloc (winO f u) = w' := by
  rw [← h]; exact wright_x f u w
set_option maxHeartbeats 2000000 in
theorem has_x (f u day : Int) (w : World) : Calls Try.prog 28 #[.agg #[.int .i64 f, .int .i64 u], .int .i64 day] w fun e w' => e = .returned (.bool (hasB f u day)) ∧ (w.alloc (winO f u)).alloc (winO f u) = w' := by
  by_cases h0 : wrightB f u = true
  ·
    by_cases h1 : f ≤ day
    ·
      by_cases h2 : day < u
      ·
        have H0 : Hid (wrightB f u = true) := Lib.hid (by simpa using h0)
        have d1 : decide (f ≤ day) = true := decide_eq_true h1
        have d2 : decide (day < u) = true := decide_eq_true h2
        have hv : hasB f u day = true := by have hw := H0.out; unfold wrightB at hw; simp at hw; unfold hasB; simp; omega
        rw [hv]
        clear hv h0
        go_enter Try.func28, Try.ntmps28
        go_wp2_with (go_at_call 45; ((with_reducible refine (wright_xb _ f u _ H0.out).mono ?_); rintro e w1 ⟨rfl, rfl⟩))
        go_ret
        exact ⟨rfl, rfl⟩
      ·
        have H0 : Hid (wrightB f u = true) := Lib.hid (by simpa using h0)
        have d1 : decide (f ≤ day) = true := decide_eq_true h1
        have d2 : decide (day < u) = false := decide_eq_false h2
        have hv : hasB f u day = false := by have hw := H0.out; unfold wrightB at hw; simp at hw; unfold hasB; simp; omega
        rw [hv]
        clear hv h0
        go_enter Try.func28, Try.ntmps28
        go_wp2_with (go_at_call 45; ((with_reducible refine (wright_xb _ f u _ H0.out).mono ?_); rintro e w1 ⟨rfl, rfl⟩))
        go_ret
        exact ⟨rfl, rfl⟩
    ·
      have H0 : Hid (wrightB f u = true) := Lib.hid (by simpa using h0)
      have d1 : decide (f ≤ day) = false := decide_eq_false h1
      have hv : hasB f u day = false := by have hw := H0.out; unfold wrightB at hw; simp at hw; unfold hasB; simp; omega
      rw [hv]
      clear hv h0
      go_enter Try.func28, Try.ntmps28
      go_wp2_with (go_at_call 45; ((with_reducible refine (wright_xb _ f u _ H0.out).mono ?_); rintro e w1 ⟨rfl, rfl⟩))
      go_ret
      exact ⟨rfl, rfl⟩
  ·
    have H0 : Hid (wrightB f u = false) := Lib.hid (by simpa using h0)
    have hv : hasB f u day = false := by have hw := H0.out; unfold wrightB at hw; simp at hw; unfold hasB; simp; omega
    rw [hv]
    clear hv h0
    go_enter Try.func28, Try.ntmps28
    go_wp2_with (go_at_call 45; ((with_reducible refine (wright_xb _ f u _ H0.out).mono ?_); rintro e w1 ⟨rfl, rfl⟩))
    go_ret
    exact ⟨rfl, rfl⟩
theorem has_grown (b : Bool) (f u day : Int) (w : World) (n : Nat) (os : Array Obj) (h : hasB f u day = b) :
    Calls Try.prog 28 #[.agg #[.int .i64 f, .int .i64 u], .int .i64 day] (grow (w.drewN n) os) fun e w'' => e = .returned (.bool b) ∧ ∃ p : GrownBy, w'' = grow (w.drewN p.n) p.os := by
  subst h
  exact Calls.grown_of ((has_x f u day _).mono fun e w' ⟨he, hw⟩ => ⟨he, 0, #[winO f u, winO f u], by rw [← hw, alloc_eq_grow, alloc_eq_grow, grow_grow]; rfl⟩)
end Go.Proofs.Ytddnfikjfmfhfaa
end
