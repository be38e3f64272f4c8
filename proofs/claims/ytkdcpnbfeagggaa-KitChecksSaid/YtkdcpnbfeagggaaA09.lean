/- Texts of this proof, one behind the other. -/
import Derived.Deep.QuietTactic
import Derived.BigQuiet
import Derived.Shelf.SlSortCmp.QuietGrown
import Derived.Deep.RegionHeld3
import Derived.Deep.DeepCutAuto
import Derived.Test.YtkdcpnbfeagggaaA08
import Derived.Test.YtkdcpnbfeagggaaA06
import Derived.Test.YtkdcpnbfeagggaaA03
section
/- storemanref07.Check. -/
namespace Go.Proofs.Ytkdcpnbfeagggaa
namespace Kt
open Go.ChangeShapes Go.WideShapes Go.ChangeAt Go.RowKit Go.Maps Go.Shelf
set_option linter.unusedVariables false
/-- Worlds that hold all below B: the class for regions that draw, with callees that lay blocks. -/
structure BelowBy (B : Nat) (w : World) where
  W : World
  below : Go.RowKit.Below B w W
instance BelowBy.some {B : Nat} {w : World} : Nonempty (BelowBy B w) := ⟨⟨w, Below.refl _ _⟩⟩
theorem wp_region_quiet_below (B : Nat) {P : Program} {id : Nat} {Q : Exit → Act → World → Prop} {a : Act} {w : World} {l : List Oper} (hm : P.follows .mixedOrders = true) (hB : Region.lexB .any l.toArray = true)
    (h : wpQuiet P l.toArray (fun w' => ∃ p : BelowBy B w, w' = p.W) (fun a' => ∀ w', (∃ p : BelowBy B w, w' = p.W) → Q .normal a' w') l a) : (Code.region id l.toArray true).wp P Q a w :=
  wp_region_quiet (C := fun w' => ∃ p : BelowBy B w, w' = p.W) hm hB ⟨⟨_, (Below.refl _ _).drew⟩, rfl⟩ (by simpa using h)
theorem rright_below {B : Nat} {wr : World} {c : List UInt8} {b : Bool} (hr : Cd.rightL c = b) (p : BelowBy B wr) : Calls Try.prog 19 #[.string ⟨c.toArray⟩] p.W fun e w' => e = .returned (.bool b) ∧ ∃ q : BelowBy B wr, w' = q.W :=
  (Cd.rright_any ⟨c.toArray⟩ p.W).mono (fun e w' ⟨he, hw⟩ => ⟨by rw [he]; exact Cd.ret_bool hr, p, hw.symm⟩)
theorem rshape_below {wr : World} {x : Iv} {b : Bool} (hr : (keptB x.it || kitB x.it) = b) (h : ISub wr wr.heap.size x) (hn : x.it.parts.length ≤ 1048576) (p : BelowBy wr.heap.size wr) : Calls Try.prog 20 #[aggI x] p.W fun e w' => e = .returned (.bool b) ∧ ∃ q : BelowBy wr.heap.size wr, w' = q.W :=
  (rshape_any x wr.heap.size p.W p.below.size (h.below p.below) (by omega)).mono (fun e w' ⟨he, hw⟩ => ⟨by rw [he, hr], ⟨w', p.below.trans (hw.mono p.below.size)⟩, rfl⟩)
theorem closedI_no {L : List It} {x : It} {p : Pt} (hx : x ∈ L) (hp : p ∈ x.parts) (h : p.1 ∉ L.map (·.code)) : closedI L = false := by
  unfold closedI
  rw [List.all_eq_false]
  refine ⟨x, hx, ?_⟩
  rw [Bool.not_eq_true, List.all_eq_false]
  exact ⟨p, hp, fun h' => h ((lastI_isSome L p.1).1 h')⟩
theorem closedI_yes {L : List It} (h : ∀ x ∈ L, ∀ p ∈ x.parts, p.1 ∈ L.map (·.code)) : closedI L = true := by
  unfold closedI
  rw [List.all_eq_true]
  intro x hx
  rw [List.all_eq_true]
  exact fun p hp => (lastI_isSome L p.1).2 (h x hx p hp)
def depsI (L : List It) : List Nat := L.map (fun x => (depI L x.code).getD 0)
theorem deps_none {L : List It} {k : Nat} (h : (depsI L)[k]? = some 0) : L.all (fun x => (depI L x.code).isSome) = false := by
  unfold depsI at h
  rw [List.getElem?_map] at h
  cases hx : L[k]? with
  | none => rw [hx] at h; cases h
  | some x =>
    rw [hx] at h
    simp only [Option.map_some, Option.some.injEq] at h
    rw [List.all_eq_false]
    refine ⟨x, List.mem_of_getElem? hx, ?_⟩
    cases hd : depI L x.code with
    | none => simp
    | some e =>
      have := (depI_dp hd).pos
      rw [hd] at h
      simp only [Option.getD_some] at h
      omega
theorem deps_all {L : List It} (h : ∀ j d : Nat, (depsI L)[j]? = some d → d ≠ 0) : L.all (fun x => (depI L x.code).isSome) = true := by
  rw [List.all_eq_true]
  intro x hx
  obtain ⟨j, hj⟩ := List.getElem?_of_mem hx
  have h1 := h j ((depI L x.code).getD 0) (by unfold depsI; rw [List.getElem?_map, hj]; rfl)
  cases hd : depI L x.code with
  | none => rw [hd] at h1; simp at h1
  | some e => rfl
theorem deps_over {L : List It} {k d : Nat} (h : (depsI L)[k]? = some d) (h8 : 8 < d) : L.any (fun x => decide (8 < (depI L x.code).getD 0)) = true := by
  unfold depsI at h
  rw [List.getElem?_map] at h
  cases hx : L[k]? with
  | none => rw [hx] at h; cases h
  | some x =>
    rw [hx] at h
    simp only [Option.map_some, Option.some.injEq] at h
    rw [List.any_eq_true]
    exact ⟨x, List.mem_of_getElem? hx, decide_eq_true (by omega)⟩
theorem deps_under {L : List It} (h : ∀ j d : Nat, (depsI L)[j]? = some d → d ≤ 8) : L.any (fun x => decide (8 < (depI L x.code).getD 0)) = false := by
  rw [List.any_eq_false]
  intro x hx
  obtain ⟨j, hj⟩ := List.getElem?_of_mem hx
  have h1 := h j ((depI L x.code).getD 0) (by unfold depsI; rw [List.getElem?_map, hj]; rfl)
  simp only [decide_eq_true_eq]
  omega
set_option maxRecDepth 100000 in
set_option maxHeartbeats 4000000 in
theorem rcheck_any (v : Value) (l : List Iv) (w : World) (hv : ISl w w.heap.size v l) (hs : SizedI l) (hlen : l.length ≤ 1048576) : Calls Try.prog 8 #[v] w fun e w' => e = .returned (.int .i64 (checkM (l.map (·.it)))) ∧ Go.RowKit.Below w.heap.size w w' := by
  obtain ⟨cm, hcm⟩ : ∃ cm, checkM (l.map (·.it)) = cm := ⟨_, rfl⟩
  rw [hcm]
  obtain ⟨⟨A, c, rfl, hc1, hc2, hcz, _⟩, _⟩ := id hv
  have HVV := Lib.hid hv
  have HS := Lib.hid hs
  obtain ⟨n, hn⟩ : ∃ n, l.length = n := ⟨_, rfl⟩
  obtain ⟨L, hL⟩ : ∃ L, l.map (·.it) = L := ⟨_, rfl⟩
  have HLN : Hid (L.length = n) := Lib.hid (by rw [← hL, List.length_map, hn])
  have HV : Hid (ISl w w.heap.size (.slice A n c) l) := Lib.hid (by rw [← hn]; exact hv)
  rw [hL] at hcm
  unfold checkM at hcm
  rw [HLN.out] at hcm
  rw [hn] at hlen hc1 ⊢
  have HN := Lib.hid hn
  have HL := Lib.hid hL
  clear HVV hv hs hn hL
  go_enter Try.func8, Try.ntmps8
  by_cases h60 : n ≤ 60
  · rw [if_neg (by omega)] at hcm
    have HCM := Lib.hid hcm
    clear hcm
    go_wp2
    go_loopw [3] (fun i wr => ∃ k : Nat, k ≤ n ∧ i = .int .i64 k ∧ Hid (∀ j, j < k → shapeAt L j = true) ∧ Hid (Go.RowKit.Below w.heap.size w wr)) (fun i _ => n - (intOf i).toNat)
    case atStart => exact ⟨0, Nat.zero_le _, rfl, Lib.hid (by omega), Lib.hid (Below.refl _ _)⟩
    case round =>
      obtain ⟨k, hk, rfl, HF, HB⟩ := hrel
      by_cases hlt : k < n
      · obtain ⟨x, hx⟩ : ∃ x, l[k]? = some x := ⟨_, List.getElem?_eq_getElem (by rw [HN.out]; exact hlt)⟩
        have HXL : Hid (L[k]? = some x.it) := Lib.hid (by rw [← HL.out, List.getElem?_map, hx]; rfl)
        have HVo : Hid (ISl wr wr.heap.size (.slice A n c) l) := Lib.hid (HV.out.at_ HB.out)
        have HSB := Lib.hid (HVo.out.2 x (List.mem_of_getElem? hx))
        have HFT := Lib.hid (HS.out x (List.mem_of_getElem? hx))
        have HFR : Hid (shapeAt L k = (Cd.rightL x.it.code && (decide (lastOf L k < x.it.code) && (keptB x.it || kitB x.it)))) := Lib.hid (by unfold shapeAt; rw [HXL.out])
        have HNO : Hid (shapeAt L k = false → cm = 4) := Lib.hid (fun h => by
          rw [← HCM.out, if_pos (shapedB_no (by rw [HLN.out]; exact hlt) h)])
        obtain ⟨ap, rfl, _, x0, x1, x2, x3⟩ := ISl.at_k HVo.out hx
        have HX := Lib.hid hx
        have hab : (ap.add (k * 4)).block < wr.heap.size := by rw [addr_block]; assumption
        clear hx
        obtain ⟨⟨code, life, ps⟩, os, pv, ov⟩ := x
        obtain ⟨Ap, cp, Ao, co, rfl, rfl, hcp, hcq⟩ := HSB.out.form
        have HPL : Hid (ps.length ≤ 1048576) := Lib.hid HFT.out.2.2.2.2.1
        simp only at *
        have y0 : ∀ p : BelowBy wr.heap.size wr, p.W.cell? (ap.add (k * 4)) = some (strV code) := fun p => (p.below.cell (p := ap.add (k * 4)) hab).trans x0
        have y1 : ∀ p : BelowBy wr.heap.size wr, p.W.cell? ⟨(ap.add (k * 4)).block, (ap.add (k * 4)).off + 1, none⟩ = some (.int .i64 life) := fun p => (p.below.cell (p := ⟨(ap.add (k * 4)).block, (ap.add (k * 4)).off + 1, none⟩) hab).trans x1
        have y2 : ∀ p : BelowBy wr.heap.size wr, p.W.cell? ⟨(ap.add (k * 4)).block, (ap.add (k * 4)).off + 2, none⟩ = some (.slice Ap ps.length cp) := fun p => (p.below.cell (p := ⟨(ap.add (k * 4)).block, (ap.add (k * 4)).off + 2, none⟩) hab).trans x2
        have y3 : ∀ p : BelowBy wr.heap.size wr, p.W.cell? ⟨(ap.add (k * 4)).block, (ap.add (k * 4)).off + 3, none⟩ = some (.slice Ao os.length co) := fun p => (p.below.cell (p := ⟨(ap.add (k * 4)).block, (ap.add (k * 4)).off + 3, none⟩) hab).trans x3
        clear x0 x1 x2 x3
        have hmx : Try.prog.follows .mixedOrders = true := by kernel_rfl
        cases hr : Cd.rightL code
        · have hno := HNO.out (by rw [HFR.out, hr]; rfl)
          have HNO2 := Lib.hid hno
          clear hno
          go_wp2
          refine wp_region_quiet_below wr.heap.size hmx (by kernel_rfl) ?_
          repeat (go_big_quiet_step (((go_at_call 19; exact rright_below hr _))))
          refine wpQuiet_nil ?_
          rintro _ ⟨pb, rfl⟩
          go_wp2
          go_ret
          exact ⟨ret_intD HNO2.out.symm, HB.out.trans (pb.below.mono HB.out.size)⟩
        · rcases Nat.eq_zero_or_pos k with hk0 | hk0
          · have hd : decide ((0 : Int) < (k : Int)) = false := decide_eq_false (by omega)
            have hd' : decide (0 < k) = false := decide_eq_false (by omega)
            have HK0 := Lib.hid hk0
            clear hk0
            have HLT : Hid (lastOf L k < code) := Lib.hid (by
              have h := (Cd.rightL_parts hr).1
              unfold lastOf
              rw [if_pos HK0.out]
              cases code with
              | nil => simp at h
              | cons a b => exact List.nil_lt_cons a b)
            cases hsh : (keptB ⟨code, life, ps⟩ || kitB ⟨code, life, ps⟩)
            · have HNO2 := Lib.hid (HNO.out (by rw [HFR.out, hr, hsh]; simp))
              go_wp2
              refine wp_region_quiet_below wr.heap.size hmx (by kernel_rfl) ?_
              repeat (go_big_quiet_step (((first | (go_at_call 19; exact rright_below hr _) | (go_at_call 20; exact rshape_below hsh HSB.out HPL.out _)))))
              refine wpQuiet_nil ?_
              rintro _ ⟨pb, rfl⟩
              go_wp2
              go_ret
              exact ⟨ret_intD HNO2.out.symm, HB.out.trans (pb.below.mono HB.out.size)⟩
            · have HST : Hid (Hid (∀ j, j < k + 1 → shapeAt L j = true)) := Lib.hid (Lib.hid (fun j hj => by
                by_cases e : j = k
                · subst e; rw [HFR.out, hr, hsh, decide_eq_true HLT.out]; rfl
                · exact HF.out j (by omega)))
              go_wp2
              refine wp_region_quiet_below wr.heap.size hmx (by kernel_rfl) ?_
              repeat (go_big_quiet_step (((first | (go_at_call 19; exact rright_below hr _) | (go_at_call 20; exact rshape_below hsh HSB.out HPL.out _)))))
              refine wpQuiet_nil ?_
              rintro _ ⟨pb, rfl⟩
              go_wp2
              go_roundw
              case rel => exact ⟨k + 1, by omega, by go_num, HST.out, Lib.hid (HB.out.trans (pb.below.mono HB.out.size))⟩
              case measure => simp [intOf]; omega
          · obtain ⟨m, rfl⟩ : ∃ m, k = m + 1 := ⟨k - 1, by omega⟩
            obtain ⟨y, hy⟩ : ∃ y, l[m]? = some y := ⟨_, List.getElem?_eq_getElem (by rw [HN.out]; omega)⟩
            have HLE : Hid (lastOf L (m + 1) = y.it.code) := Lib.hid (lastOf_succ (by rw [← HL.out, List.getElem?_map, hy]; rfl))
            obtain ⟨ap', e', hab', x0, _⟩ := ISl.at_k HVo.out hy
            cases e'
            obtain ⟨⟨yc, yl, yp⟩, yo, ypv, yov⟩ := y
            have habm : (ap.add (m * 4)).block < wr.heap.size := by rw [addr_block]; exact hab'
            have z0 : ∀ p : BelowBy wr.heap.size wr, p.W.cell? (ap.add (m * 4)) = some (strV yc) := fun p => (p.below.cell (p := ap.add (m * 4)) habm).trans x0
            have hmn : m < n := by omega
            simp only at HLE
            clear hy x0
            by_cases hlc : yc < code
            · have HLT : Hid (lastOf L (m + 1) < code) := Lib.hid (by rw [HLE.out]; exact hlc)
              have hbl : Op.bytesLess yc code = true := by rw [bytesLess_eq]; exact decide_eq_true hlc
              cases hsh : (keptB ⟨code, life, ps⟩ || kitB ⟨code, life, ps⟩)
              · have HNO2 := Lib.hid (HNO.out (by rw [HFR.out, hr, hsh]; simp))
                go_wp2
                refine wp_region_quiet_below wr.heap.size hmx (by kernel_rfl) ?_
                repeat (go_big_quiet_step (((first | (go_at_call 19; exact rright_below hr _) | (go_at_call 20; exact rshape_below hsh HSB.out HPL.out _)))))
                refine wpQuiet_nil ?_
                rintro _ ⟨pb, rfl⟩
                go_wp2
                go_ret
                exact ⟨ret_intD HNO2.out.symm, HB.out.trans (pb.below.mono HB.out.size)⟩
              · have HST : Hid (Hid (∀ j, j < (m + 1) + 1 → shapeAt L j = true)) := Lib.hid (Lib.hid (fun j hj => by
                  by_cases e : j = (m + 1)
                  · subst e; rw [HFR.out, hr, hsh, decide_eq_true HLT.out]; rfl
                  · exact HF.out j (by omega)))
                go_wp2
                refine wp_region_quiet_below wr.heap.size hmx (by kernel_rfl) ?_
                repeat (go_big_quiet_step (((first | (go_at_call 19; exact rright_below hr _) | (go_at_call 20; exact rshape_below hsh HSB.out HPL.out _)))))
                refine wpQuiet_nil ?_
                rintro _ ⟨pb, rfl⟩
                go_wp2
                go_roundw
                case rel => exact ⟨(m + 1) + 1, by omega, by go_num, HST.out, Lib.hid (HB.out.trans (pb.below.mono HB.out.size))⟩
                case measure => simp [intOf]; omega
            · have HNO2 := Lib.hid (HNO.out (by rw [HFR.out, hr, decide_eq_false (show ¬ lastOf L (m + 1) < code by rw [HLE.out]; exact hlc)]; rfl))
              have hbl : Op.bytesLess yc code = false := by rw [bytesLess_eq]; exact decide_eq_false hlc
              go_wp2
              refine wp_region_quiet_below wr.heap.size hmx (by kernel_rfl) ?_
              repeat (go_big_quiet_step (((go_at_call 19; exact rright_below hr _))))
              refine wpQuiet_nil ?_
              rintro _ ⟨pb, rfl⟩
              go_wp2
              go_ret
              exact ⟨ret_intD HNO2.out.symm, HB.out.trans (pb.below.mono HB.out.size)⟩
      · obtain rfl : k = n := by omega
        have HSH : Hid (shapedB L = true) := Lib.hid (shapedB_yes (by rw [HLN.out]; exact HF.out))
        have HCM2 := Lib.hid HCM.out
        have HCM2' : Hid ((if closedI L = false then (150 : Int) else if L.all (fun x => (depI L x.code).isSome) = false then 152 else if L.any (fun x => decide (8 < (depI L x.code).getD 0)) = true then 3 else 0) = cm) := Lib.hid (by have h := HCM.out; rw [if_neg (by rw [HSH.out]; simp)] at h; exact h)
        clear HCM HCM2 HF
        go_wp2
        go_loopw [4] (fun i wr => ∃ j : Nat, j ≤ k ∧ i = .int .i64 j ∧ Hid (∀ (i : Nat) (x : It), i < j → L[i]? = some x → ∀ p ∈ x.parts, p.1 ∈ L.map (·.code)) ∧ Hid (Go.RowKit.Below w.heap.size w wr)) (fun i _ => k - (intOf i).toNat)
        case atStart => exact ⟨0, Nat.zero_le _, rfl, Lib.hid (fun i x h => by omega), HB⟩
        case round =>
          clear HB
          obtain ⟨j, hj, rfl, HC, HB⟩ := hrel
          by_cases hjk : j < k
          · obtain ⟨x, hx⟩ : ∃ x, l[j]? = some x := ⟨_, List.getElem?_eq_getElem (by rw [HN.out]; exact hjk)⟩
            have HXL : Hid (L[j]? = some x.it) := Lib.hid (by rw [← HL.out, List.getElem?_map, hx]; rfl)
            have HX := Lib.hid hx
            have HFT := Lib.hid (HS.out x (List.mem_of_getElem? hx))
            have HVo : Hid (ISl wr wr.heap.size (.slice A k c) l) := Lib.hid (HV.out.at_ HB.out)
            obtain ⟨ap, rfl, _, x0, x1, x2, x3⟩ := ISl.at_k HVo.out hx
            have HSB := Lib.hid (HVo.out.2 x (List.mem_of_getElem? hx))
            clear hx
            obtain ⟨⟨code, life, ps⟩, os, pv, ov⟩ := x
            obtain ⟨Ap, cp, Ao, co, rfl, rfl, hcp, hcq⟩ := HSB.out.form
            simp only at *
            have hpl := HFT.out.2.2.2.2.1
            simp only at hpl
            obtain ⟨wo, rfl⟩ : ∃ wo : World, wo = wr := ⟨_, rfl⟩
            go_wp2
            go_loopw [5] (fun i wr => wr = wo ∧ ∃ q : Nat, q ≤ ps.length ∧ i = .int .i64 q ∧ Hid (∀ p ∈ ps.take q, p.1 ∈ L.map (·.code))) (fun i _ => ps.length - (intOf i).toNat)
            case atStart => exact ⟨rfl, 0, Nat.zero_le _, rfl, Lib.hid (by simp)⟩
            case round =>
              obtain ⟨rfl, q, hq, rfl, HA⟩ := hrel
              by_cases hqp : q < ps.length
              · obtain ⟨p, hp⟩ : ∃ p, ps[q]? = some p := ⟨_, List.getElem?_eq_getElem hqp⟩
                obtain ⟨aq, rfl, _, q0, q1⟩ := PSl.at_k HSB.out.parts hp
                have HP := Lib.hid hp
                clear hp
                have HFI := Lib.hid (by have h := rfind_q p.1 l (some ap) c wr (by rw [HN.out]; exact HVo.out) (by rw [HN.out]; exact hlen); rw [HN.out] at h; exact h)
                by_cases hin : p.1 ∈ L.map (·.code)
                · have hip := idx_place (l := l) (c := p.1) (by rw [HL.out]; exact hin)
                  have hx1 := hip.1
                  have HIN := Lib.hid hin
                  obtain ⟨z, hz⟩ : ∃ z : Nat, placeOf ((l.map (·.it)).map (·.code)) p.1 = z := ⟨_, rfl⟩
                  rw [hz] at hx1
                  rw [hx1] at HFI
                  clear hip hx1 hin hz
                  go_wp2_with (go_at_call 21; (with_reducible refine HFI.out.mono ?_); rintro e w2 ⟨rfl, rfl⟩)
                  go_roundw
                  case rel => exact ⟨trivial, q + 1, by omega, by go_num, Lib.hid (by rw [List.take_add_one, HP.out]; intro p' hp'; rcases List.mem_append.1 hp' with h | h; exact HA.out p' h; obtain rfl : p' = p := (by simpa using h); exact HIN.out)⟩
                  case measure => simp [intOf]; omega
                · have hx1 := idxOf_none (fun x : Iv => decide (x.it.code = p.1)) l (by
                    rw [List.any_eq_false]
                    intro y hy h
                    apply hin
                    rw [← HL.out, ← of_decide_eq_true h]
                    exact List.mem_map_of_mem (List.mem_map_of_mem hy))
                  rw [hx1] at HFI
                  have hno : Hid (cm = 150) := Lib.hid (by rw [← HCM2'.out, if_pos (closedI_no (List.mem_of_getElem? HXL.out) (List.mem_of_getElem? HP.out) hin)])
                  clear hx1 hin
                  go_wp2_with (go_at_call 21; (with_reducible refine HFI.out.mono ?_); rintro e w2 ⟨rfl, rfl⟩)
                  go_ret
                  exact ⟨ret_intD hno.out.symm, HB.out⟩
              · obtain rfl : q = ps.length := by omega
                go_wp2
                go_roundw
                case rel => exact ⟨j + 1, by omega, by go_num, Lib.hid (fun i x hi hx p hp => by
                  by_cases e : i = j
                  · subst e
                    rw [HXL.out] at hx
                    cases hx
                    have h := HA.out
                    rw [List.take_of_length_le (Nat.le_refl _)] at h
                    exact h p hp
                  · exact HC.out i x (by omega) hx p hp), HB⟩
                case measure => simp [intOf]; omega
          · obtain rfl : j = k := by omega
            have HCL : Hid (closedI L = true) := Lib.hid (closedI_yes (fun x hx => by obtain ⟨i, hi⟩ := List.getElem?_of_mem hx; exact HC.out i x (by have := (List.getElem?_eq_some_iff.1 hi).1; rw [HLN.out] at this; exact this) hi))
            have HCM : Hid ((if L.all (fun x => (depI L x.code).isSome) = false then (152 : Int) else if L.any (fun x => decide (8 < (depI L x.code).getD 0)) = true then 3 else 0) = cm) := Lib.hid (by have h := HCM2'.out; rw [if_neg (by rw [HCL.out]; simp)] at h; exact h)
            have HD : Hid (Calls Try.prog 22 #[.slice A j c] wr (DeepTo L j wr)) := Lib.hid (by
              have h := rdeep_any (.slice A j c) l wr (HV.out.at_ HB.out) (by rw [HN.out]; exact hlen) (fun x hx => (HS.out x hx).2.2.2.2.1) (by rw [HL.out]; exact HSH.out) (by rw [HL.out]; exact HCL.out)
              rw [HL.out, HN.out] at h
              exact h)
            clear HC HCM2'
            go_wp2_with (go_at_call 22; ((with_reducible refine HD.out.mono ?_); rintro e w2 ⟨g, rfl, ho', hb2'⟩; have HO := Lib.hid ho'; have HB2 := Lib.hid (HB.out.trans (hb2'.mono HB.out.size)); clear ho' hb2'))
            have HDL : Hid ((depsI L).length = j) := Lib.hid (by unfold depsI; rw [List.length_map, HLN.out])
            obtain ⟨w3, rfl⟩ : ∃ w3 : World, w3 = w2 := ⟨_, rfl⟩
            have HO3 : Hid (w3.ownsRow wr.heap.size 3 1 (.slice (some ⟨g, 0, none⟩) j j) j (dcells (depsI L))) := HO
            have HDB : Hid (∀ d ∈ depsI L, d ≤ 1048576) := Lib.hid (by
              intro d hd
              unfold depsI at hd
              obtain ⟨x, hx, rfl⟩ := List.mem_map.1 hd
              cases hdx : depI L x.code with
              | none => simp
              | some e =>
                have := (depI_dp hdx).le (K := L.map (·.code)) (fun c x hx => (lastI_isSome L c).1 (by rw [hx]; rfl))
                rw [List.length_map, HLN.out] at this
                simp only [Option.getD_some]
                omega)
            clear HO HD
            go_loopw [7] (fun i wr => wr = w3 ∧ ∃ q : Nat, q ≤ j ∧ i = .int .i64 q ∧ Hid (∀ i d : Nat, i < q → (depsI L)[i]? = some d → d ≠ 0)) (fun i _ => j - (intOf i).toNat)
            case atStart => exact ⟨rfl, 0, Nat.zero_le _, rfl, Lib.hid (fun i d h => by omega)⟩
            case round =>
              obtain ⟨rfl, q, hq, rfl, HA⟩ := hrel
              by_cases hqj : q < j
              · obtain ⟨d, hd⟩ : ∃ d, (depsI L)[q]? = some d := ⟨_, List.getElem?_eq_getElem (by rw [HDL.out]; exact hqj)⟩
                have hc := (HO3.out.cellAt q (by omega)).trans (show (dcells (depsI L))[q]? = some (.int .i64 (d : Nat)) by unfold dcells; rw [List.getElem?_map, hd]; rfl)
                have HDD := Lib.hid hd
                clear hd
                by_cases hd0 : d = 0
                · subst hd0
                  have hno : Hid (cm = 152) := Lib.hid (by rw [← HCM.out, if_pos (deps_none HDD.out)])
                  go_wp2
                  go_ret
                  exact ⟨ret_intD hno.out.symm, HB2.out⟩
                · go_wp2
                  go_roundw
                  case rel => exact ⟨trivial, q + 1, by omega, by go_num, Lib.hid (fun i d' hi hd' => by
                    by_cases e : i = q
                    · subst e; rw [HDD.out] at hd'; cases hd'; exact hd0
                    · exact HA.out i d' (by omega) hd')⟩
                  case measure => simp [intOf]; omega
              · obtain rfl : q = j := by omega
                have HCM3 : Hid ((if L.any (fun x => decide (8 < (depI L x.code).getD 0)) = true then (3 : Int) else 0) = cm) := Lib.hid (by
                  have h := HCM.out
                  rw [if_neg (by rw [deps_all (fun i d hd => HA.out i d (by have := (List.getElem?_eq_some_iff.1 hd).1; rw [HDL.out] at this; exact this) hd)]; simp)] at h
                  exact h)
                clear HCM HA
                go_wp2
                obtain ⟨w3, rfl⟩ : ∃ w3 : World, w3 = wr := ⟨_, rfl⟩
                go_loopw [8] (fun i wr => wr = w3 ∧ ∃ r : Nat, r ≤ q ∧ i = .int .i64 r ∧ Hid (∀ i d : Nat, i < r → (depsI L)[i]? = some d → d ≤ 8)) (fun i _ => q - (intOf i).toNat)
                case atStart => exact ⟨rfl, 0, Nat.zero_le _, rfl, Lib.hid (fun i d h => by omega)⟩
                case round =>
                  obtain ⟨rfl, r, hr, rfl, HA⟩ := hrel
                  by_cases hrq : r < q
                  · obtain ⟨d, hd⟩ : ∃ d, (depsI L)[r]? = some d := ⟨_, List.getElem?_eq_getElem (by rw [HDL.out]; exact hrq)⟩
                    have hc := (HO3.out.cellAt r (by omega)).trans (show (dcells (depsI L))[r]? = some (.int .i64 (d : Nat)) by unfold dcells; rw [List.getElem?_map, hd]; rfl)
                    have HDD := Lib.hid hd
                    clear hd
                    by_cases hd0 : 8 < d
                    · have hno : Hid (cm = 3) := Lib.hid (by rw [← HCM3.out, if_pos (deps_over HDD.out hd0)])
                      go_wp2
                      go_ret
                      exact ⟨ret_intD hno.out.symm, HB2.out⟩
                    · go_wp2
                      go_roundw
                      case rel => exact ⟨trivial, r + 1, by omega, by go_num, Lib.hid (fun i d' hi hd' => by
                        by_cases e : i = r
                        · subst e; rw [HDD.out] at hd'; cases hd'; omega
                        · exact HA.out i d' (by omega) hd')⟩
                      case measure => simp [intOf]; omega
                  · obtain rfl : r = q := by omega
                    have hno : Hid (cm = 0) := Lib.hid (by
                      rw [← HCM3.out, deps_under (fun i d hd => HA.out i d (by have := (List.getElem?_eq_some_iff.1 hd).1; rw [HDL.out] at this; exact this) hd)]
                      rfl)
                    go_wp2
                    go_ret
                    exact ⟨ret_intD hno.out.symm, HB2.out⟩
  · rw [if_pos (by omega)] at hcm
    subst hcm
    go_wp2
    go_ret
    exact ⟨rfl, Below.refl _ _⟩
end Kt
end Go.Proofs.Ytkdcpnbfeagggaa
end
section
/- The law KitChecks: whatever items; the walk. -/
namespace Go.Proofs.Ytkdcpnbfeagggaa
namespace Kt
open Go.ChangeShapes Go.WideShapes Go.ChangeAt Go.RowKit Go.Maps Go.Shelf
set_option linter.unusedVariables false

theorem Lnt.mates {l m : List Iv} {base g n cap : Nat} {xs : List Value} {W : World} (h : Lnt l m base g n cap xs W) (hm : m.length = l.length) {z : Iv} (hz : z ∈ m) : ∃ y ∈ l, y.it = z.it ∧ y.others = z.others := by
  obtain ⟨k, hk⟩ := List.mem_iff_getElem?.1 hz
  have hkm := (List.getElem?_eq_some_iff.1 hk).1
  obtain ⟨y, hy⟩ : ∃ y, l[k]? = some y := ⟨_, List.getElem?_eq_getElem (by omega)⟩
  exact ⟨y, List.mem_of_getElem? hy, (map_get (·.it) h.its hy hk).symm, (map_get (·.others) h.oth hy hk).symm⟩
theorem Lnt.sized {l m : List Iv} {base g n cap : Nat} {xs : List Value} {W : World} (h : Lnt l m base g n cap xs W) (hm : m.length = l.length) (hs : SizedI l) : SizedI m := fun z hz => by
  obtain ⟨y, hy, e1, e2⟩ := h.mates hm hz
  have := hs y hy
  unfold Iv.Fits at this ⊢
  rw [← e1, ← e2]
  exact this
theorem Lnt.isl {l m : List Iv} {base g : Nat} {W : World} (h : Lnt l m base g (l.length + 12) (l.length + 12) (icells (m ++ marksI 12)) W) (hm : m.length = l.length) (hs : SizedI l) (hlen : l.length ≤ 1048576) : ISl W W.heap.size (.slice (some ⟨g, 0, none⟩) l.length (l.length + 12)) m := by
  have hl := Lies.own h.row
  rw [icells_append] at hl
  refine ⟨⟨_, _, by rw [hm], by omega, by unfold maxLen; omega, fun e => (by cases e), lies_pre hl⟩, fun z hz => ?_⟩
  obtain ⟨_, _, _, _, hpl, hol⟩ := h.sized hm hs z hz
  exact (h.own z hz).sub hpl hol

set_option maxRecDepth 100000 in
set_option maxHeartbeats 8000000 in
theorem checks_any (v : Value) (l : List Iv) (w : World) (hv : ISl w w.heap.size v l) (hw : ∀ x ∈ l, Iv.Wide x) (hin : ∀ x ∈ l, x.it.parts.length ≤ 140737488355328 ∧ x.others.length ≤ 140737488355328) (hlen : l.length ≤ 140737488355328) :
    Calls Try.prog 3 #[v] w fun e w' => e = .returned (.bool true) ∧ Go.RowKit.Below w.heap.size w w' := by
  have HV := Lib.hid hv
  have HW := Lib.hid hw
  have HG : Hid (BigI l) := Lib.hid (Iv.Wide.big hw hin)
  have HL := Lib.hid hlen
  clear hv hw hin hlen
  go_enter Try.func3, Try.ntmps3
  go_wp2_with (go_at_call 4; fail)
  refine (great_any _ l w HV.out HG.out HL.out).mono ?_
  rintro e w1 ⟨bg, rfl, hb1, hfew⟩
  have HV1 := Lib.hid (HV.out.at_ hb1)
  have HB1 := Lib.hid hb1
  clear hb1
  cases bg
  rotate_left
  · clear hfew
    go_wp2_with (go_at_call 5; ((with_reducible refine (awake_any _).mono ?_); rintro e w2 ⟨rfl, hb2⟩; have HB2 := Lib.hid (below_two HB1.out hb2); clear hb2))
    go_ret
    exact ⟨rfl, HB2.out⟩
  obtain ⟨hl70, hfi⟩ := hfew rfl
  have HS : Hid (SizedI l) := Lib.hid (Iv.Wide.sized HW.out hfi)
  clear hfew hfi
  go_wp2_with (go_at_call 6; fail)
  refine (lentItems_any _ l w1 HV1.out HS.out (by omega)).mono ?_
  rintro e w2 ⟨m, rfl, hm, hC, hb2⟩
  have HV2 := Lib.hid (HV1.out.at_ hb2)
  have HB2 := Lib.hid (below_two HB1.out hb2)
  have HC := Lib.hid hC
  have HM := Lib.hid hm
  have HMI := Lib.hid (hC.isl hm HS.out (by omega))
  have HMS := Lib.hid (hC.sized hm HS.out)
  obtain ⟨cm, hcm⟩ : ∃ cm, checkM (l.map (·.it)) = cm := ⟨_, rfl⟩
  have hcm2 : checkM (m.map (·.it)) = cm := by rw [hC.its]; exact hcm
  have HCM := Lib.hid hcm
  have HCM2 := Lib.hid hcm2
  clear hb2 hC hm hcm hcm2
  have hbb : (cm == cm) = true := beq_self_eq_true cm
  have HLm : Hid (m.length ≤ 1048576) := Lib.hid (by rw [HM.out]; omega)
  go_wp2_with (first
    | (go_at_call 7; ((with_reducible refine (check_any _ m _ HMI.out HMS.out HLm.out).mono ?_); rintro e w3 ⟨rfl, hb3⟩; rw [HCM2.out]; have HV3 := Lib.hid (HV2.out.at_ hb3); have HC3 := Lib.hid (HC.out.at_ hb3); have HB3 := Lib.hid (below_two HB2.out hb3); clear hb3))
    | (go_at_call 8; ((with_reducible refine (rcheck_any _ l _ HV3.out HS.out (by omega)).mono ?_); rintro e w4 ⟨rfl, hb4⟩; rw [HCM.out]; have HV4 := Lib.hid (HV3.out.at_ hb4); have HC4 := Lib.hid (HC3.out.at_ hb4); have HB4 := Lib.hid (below_two HB3.out hb4); clear hb4))
    | (go_at_call 9; ((with_reducible refine (keptItems_any _ l m _ _ _ HV4.out HS.out HC4.out HM.out (by omega)).mono ?_); rintro e w5 ⟨rfl, hb5⟩; have HB5 := Lib.hid (below_two HB4.out hb5); clear hb5))
    | (go_at_call 5; ((with_reducible refine (awake_any _).mono ?_); rintro e w6 ⟨rfl, hb6⟩; have HB6 := Lib.hid (below_two HB5.out hb6); clear hb6)))
  go_ret
  exact ⟨rfl, HB6.out⟩
end Kt
end Go.Proofs.Ytkdcpnbfeagggaa
end
section
/- What a law leaves behind. -/
namespace Go.Proofs.Ytkdcpnbfeagggaa
namespace Kt
open Go.ChangeShapes Go.WideShapes Go.ChangeAt Go.RowKit
set_option linter.unusedVariables false
set_option linter.constructorNameAsVariable false
set_option maxRecDepth 100000
theorem own_knob : ownKnob Try.prog.godebug = none := by kernel_rfl
/-- What a law leaves behind: nothing that was there has turned. -/
theorem post_below {H : Type} {enc : TypeId × Value → H} {P : Program} {f : Func} {s : ChangeSpec} {apart fresh handsOn : Bool} {W W' : World} {args : Array Value} {v : Value} {ds gs : List (DataW H)} {before pa pv : List MemPlace}
    (hW : DataW.Whole enc P f.params.toList s.vars apart W args.toList ds gs before)
    (hres : ∀ (b : Nat) (sp : Nat → Bool) (hd : Bool), DataW.TrodAll enc P W' b sp hd f.resultTypes.toList (v.resultList f.resultTypes.size) (s.fn H (ds ++ gs)).results [])
    (hargs : DataW.TrodAll enc P W' 0 (fun b => decide (b < W.heap.size)) true f.params.toList args.toList (s.fn H (ds ++ gs)).args pa)
    (hvars : DataW.TrodVars enc P W' (fun b => decide (b < W.heap.size)) s.vars (s.fn H (ds ++ gs)).vars pv)
    (hb : Go.RowKit.Below W.heap.size W W') : s.post enc P f apart fresh handsOn false W args v W' :=
  ⟨ds, gs, before, [], pa, pv, hW, hres _ _ _, hargs, hvars, hb.frame _, fun h => by cases h⟩
theorem laid_out : laidOutB Try.prog = true := by kernel_rfl
/-- How long a list of items is, and what lies inside. -/
theorem items_len {H : Type} {ts : List TypeId} {ds : List (DataW H)} (h : (DataW.weightsEach Try.prog ts ds).all (· ≤ reachBytes) = true) {j : Nat} {d : DataW H} (ht : ts[j]? = some 22) (hd : ds[j]? = some d) {l : List Iv}
    (hl : l = [] ∨ ∃ elems spare, d = .slice elems spare ∧ l.length = elems.length ∧ ∀ (k : Nat) (x : Iv), l[k]? = some x → ∃ e, elems[k]? = some e ∧ x.In e) : l.length ≤ 140737488355328 ∧ ∀ x ∈ l, x.it.parts.length ≤ 140737488355328 ∧ x.others.length ≤ 140737488355328 := by
  rcases hl with rfl | ⟨elems, spare, rfl, e, hin⟩
  · exact ⟨by simp, by simp⟩
  · have hb := sized_slice h (j := j) (t := 22) ht hd Try.underlying22
    have hB : Try.prog.bytesOf 32 = 72 := by kernel_rfl
    rw [hB] at hb
    have := reachBytes_lt
    exact ⟨by omega, sized_items h ht hd hin⟩
/-- A list of parts that is handed. -/
theorem open_partsK {H : Type} {enc : TypeId × Value → H} {W : World} {r : Go.Reach} {b0 base : Nat} {sp : Nat → Bool} {held : Bool} {v : Value} {d : DataW H} {p : List MemPlace} (hval : Value.okWide Try.prog W r b0 29 v)
    (h : DataW.Trod enc Try.prog W base sp held 29 v d p) : ∃ l, PSl W W.heap.size v l ∧ Sized l ∧ (l = [] ∨ ∃ elems spare, d = .slice elems spare ∧ l.length = elems.length) := by
  obtain ⟨a0, len0, cap0, rfl⟩ := okWide_slice Try.underlying29 hval
  obtain ⟨fuel, hf⟩ := h
  have hf' : DataW.trod enc Try.prog W base sp held fuel 29 [.slice a0 len0 cap0] = some (d, p) := by simpa [Value.cells] using hf
  obtain ⟨l, h1, h2, h3⟩ := parts_of_cell hf'
  exact ⟨l, h1, h2, h3⟩
theorem parts_len {H : Type} {ts : List TypeId} {ds : List (DataW H)} (h : (DataW.weightsEach Try.prog ts ds).all (· ≤ reachBytes) = true) {j : Nat} {d : DataW H} (ht : ts[j]? = some 29) (hd : ds[j]? = some d) {l : List Pt}
    (hl : l = [] ∨ ∃ elems spare, d = .slice elems spare ∧ l.length = elems.length) : l.length ≤ 140737488355328 := by
  rcases hl with rfl | ⟨elems, spare, rfl, e⟩
  · simp
  · have hb := sized_slice h (j := j) (t := 29) ht hd Try.underlying29
    have hB : Try.prog.bytesOf 34 = 24 := by kernel_rfl
    rw [hB] at hb
    have := reachBytes_lt
    omega
end Kt
end Go.Proofs.Ytkdcpnbfeagggaa
end
