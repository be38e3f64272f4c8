/- Texts of this proof, one behind the other. -/
import Derived.Deep.RegionHeld3
import Derived.Deep.DeepCutAuto
import Derived.Test.YtlgpambbghkffaaM07
import Derived.Test.YtlgpambbghkffaaM06
section
/- The law KitMore: whatever items and parts; the walk. -/
namespace Go.Proofs.Ytlgpambbghkffaa
namespace Kt
open Go.ChangeShapes Go.WideShapes Go.ChangeAt Go.RowKit Go.Maps Go.Shelf
set_option linter.unusedVariables false

/-- A row of its own, with what its items hold either its own or from before. -/
structure Rowed (m : List Iv) (base : Nat) (W : World) (v : Value) : Prop where
  row : W.ownsRow base 32 4 v m.length (icells m)
  sub : ∀ x ∈ m, OwnI W base x ∨ ISub W base x
  base : base ≤ W.heap.size
theorem Rowed.isl {m : List Iv} {base : Nat} {W : World} {v : Value} (h : Rowed m base W v) : ISl W W.heap.size v m :=
  ISl.own h.row (fun x hx => (h.sub x hx).elim (fun h => h.sub) (fun h' => h'.mono h.base))
theorem Rowed.at_ {m : List Iv} {base : Nat} {W W' : World} {v : Value} (h : Rowed m base W v) (hb : Go.RowKit.Below W.heap.size W W') : Rowed m base W' v :=
  ⟨ownAt h.row hb, fun x hx => (h.sub x hx).elim (fun h => .inl (h.at_ hb)) (fun h' => .inr (h'.below ⟨hb.os, hb.tape, hb.output, hb.size, fun k hk => hb.block k (Nat.lt_of_lt_of_le hk h.base)⟩)), Nat.le_trans h.base hb.size⟩
theorem Rowed.snoc {m : List Iv} {base : Nat} {W W' : World} {v v' : Value} {x : Iv} {o : Obj} (h : Rowed m base W v) (hx : ISub W base x) (hG : (W.alloc o).grownBy W' v.ownBlock) (ho : W'.ownsRow base 32 4 v' (m.length + 1) (icells m ++ encI x)) : Rowed (m ++ [x]) base W' v' := by
  have hr := h.row.alloc o
  have hbs : base ≤ (W.alloc o).heap.size := by rw [World.size_alloc]; have := h.base; omega
  have hbel : Go.RowKit.Below base W W' := ((Below.refl base W).alloc h.base o).grown hG hbs (fun j hj => (h.row.lt j hj).1)
  refine ⟨?_, fun y hy => ?_, Nat.le_trans h.base hbel.size⟩
  · rw [icells_append, List.length_append, List.length_singleton]
    simpa [icells] using ho
  · rcases List.mem_append.1 hy with hy | hy
    · rcases h.sub y hy with h1 | h1
      · exact .inl ⟨own_kinds (h1.parts.alloc o) hr (by decide) hG, own_kinds (h1.others.alloc o) hr (by decide) hG⟩
      · exact .inr (h1.below hbel)
    · obtain rfl := List.mem_singleton.1 hy
      exact .inr (hx.below hbel)
theorem Lies.left {w : World} {B : Nat} {A : Option Addr} {xs ys : List Value} (h : Lies w B A (xs ++ ys)) : Lies w B A xs := by
  intro hne
  obtain ⟨ad, hA, hb, hc⟩ := h (by intro e; simp at e; exact hne e.1)
  refine ⟨ad, hA, hb, fun j u hu => hc j u ?_⟩
  have := (List.getElem?_eq_some_iff.1 hu).1
  rw [List.getElem?_append_left this]
  exact hu
theorem ISl.front {w : World} {B : Nat} {A : Option Addr} {n c : Nat} {m r : List Iv} (h : ISl w B (.slice A n c) (m ++ r)) : ISl w B (.slice A m.length c) m := by
  obtain ⟨⟨A', c', e, h1, h2, h3, h4⟩, h5⟩ := h
  cases e
  rw [icells_append] at h4
  rw [List.length_append] at h1
  exact ⟨⟨A, c, rfl, by omega, h2, h3, Lies.left h4⟩, fun x hx => h5 x (List.mem_append_left _ hx)⟩
def i8 : Iv := ⟨z8, [], .slice none 0 0, .slice none 0 0⟩
def i9 (ps : List Pt) (v : Value) : Iv := ⟨z9 ps, [], v, .slice none 0 0⟩
theorem fits8 : i8.Fits := by unfold i8 z8 Iv.Fits Sized maxLen; simp
theorem fits9 {ps : List Pt} {v : Value} (hs : Sized ps) (hl : ps.length ≤ 100) : (i9 ps v).Fits := by
  refine ⟨by simp [i9, z9, maxLen], by simp [i9, z9], hs, by simp [i9], ?_, by simp [i9]⟩
  show ps.length ≤ 1048576
  omega
theorem copied_sized {l m : List Iv} (h : m.map (·.it) = l.map (·.it)) (ho : m.map (·.others) = l.map (·.others)) (hs : SizedI l) : SizedI m := by
  intro x hx
  obtain ⟨i, hi⟩ := List.getElem?_of_mem hx
  have h1 : (l.map (·.it))[i]? = some x.it := by rw [← h, List.getElem?_map, hi]; rfl
  have h2 : (l.map (·.others))[i]? = some x.others := by rw [← ho, List.getElem?_map, hi]; rfl
  rw [List.getElem?_map] at h1 h2
  cases hl : l[i]? with
  | none => rw [hl] at h1; cases h1
  | some y =>
    rw [hl] at h1 h2
    simp only [Option.map_some, Option.some.injEq] at h1 h2
    have := hs y (List.mem_of_getElem? hl)
    unfold Iv.Fits at this ⊢
    rw [h1, h2] at this
    exact this

theorem last_z8 {l : List Iv} {x : Iv} (h0 : checkM (l.map (·.it)) = 0) (hx : l[l.length - 1]? = some x) (h : Op.bytesLess x.it.code [90, 56] = true) : ∀ y ∈ l, y.it.code < [90, 56] := by
  rw [bytesLess_eq] at h
  have hlt := of_decide_eq_true h
  have hl := (List.getElem?_eq_some_iff.1 hx).1
  have hlast : lastOf (l.map (·.it)) (l.map (·.it)).length < [90, 56] := by
    unfold lastOf
    rw [List.length_map, if_neg (by omega), List.getElem?_map, hx]
    exact hlt
  intro y hy
  exact lastOf_all (checkM_sd h0).shaped hlast y.it (List.mem_map_of_mem hy)

set_option maxRecDepth 100000 in
set_option maxHeartbeats 8000000 in
theorem more_any (v v1 : Value) (l : List Iv) (ps : List Pt) (w : World) (hv : ISl w w.heap.size v l) (hw : ∀ x ∈ l, Iv.Wide x) (hin : ∀ x ∈ l, x.it.parts.length ≤ 140737488355328 ∧ x.others.length ≤ 140737488355328) (hlen : l.length ≤ 140737488355328)
    (hp : PSl w w.heap.size v1 ps) (hps : Sized ps) (hpl : ps.length ≤ 140737488355328) :
    Calls Try.prog 5 #[v, v1] w fun e w' => e = .returned (.bool true) ∧ Go.RowKit.Below w.heap.size w w' := by
  have HV := Lib.hid hv
  have HW := Lib.hid hw
  have HG : Hid (BigI l) := Lib.hid (Iv.Wide.big hw hin)
  have HL := Lib.hid hlen
  have HP := Lib.hid hp
  have HPS : Hid (Sized ps) := Lib.hid hps
  obtain ⟨A1, c1, rfl, hp1, hp2, hpz, _⟩ := id hp
  clear hv hw hin hlen hp hps
  go_enter Try.func5, Try.ntmps5
  go_upto_region 3 with (go_at_call 8; ((with_reducible refine (awake_any _).mono ?_); rintro e w1 ⟨rfl, hb1⟩; have HV1 := Lib.hid (HV.out.at_ hb1); have HB1 := Lib.hid hb1; clear hb1))
  obtain ⟨⟨A0, c0, rfl, hcc1, hcc2, hcz, _⟩, _⟩ := id HV1.out
  go_cut [45] (fun v wx => ∃ b, v = .bool b ∧ (b = false → l.length ≤ 58 ∧ Hid (SizedI l) ∧ Hid (checkM (l.map (·.it)) = 0) ∧ Hid (∀ y ∈ l, y.it.code < [90, 56]) ∧ ps.length ≤ 100) ∧ Hid (Go.RowKit.Below w1.heap.size w1 wx))
  case first =>
    go_wp2_with (go_at_call 7; fail)
    refine (great_any _ l w1 HV1.out HG.out HL.out).mono ?_
    rintro e w2 ⟨bg, rfl, hb2, hfew⟩
    have HV2 := Lib.hid (HV1.out.at_ hb2)
    have HB2 := Lib.hid hb2
    clear hb2
    cases bg
    rotate_left
    · clear hfew
      go_wp2
      go_meet
      exact ⟨true, rfl, (fun h => by cases h), HB2⟩
    obtain ⟨hl70, hfi⟩ := hfew rfl
    have HS : Hid (SizedI l) := Lib.hid (Iv.Wide.sized HW.out hfi)
    clear hfew hfi
    obtain ⟨cm, hcm⟩ : ∃ cm, checkM (l.map (·.it)) = cm := ⟨_, rfl⟩
    have HCM := Lib.hid hcm
    clear hcm
    by_cases h0 : cm = 0
    rotate_left
    · have hnz : (cm == 0) = false := beq_eq_false_iff_ne.2 h0
      go_wp2_with (go_at_call 10; ((with_reducible refine (check_any _ l _ HV2.out HS.out (by omega)).mono ?_); rintro e w3 ⟨rfl, hb3⟩; rw [HCM.out]; have HB3 := Lib.hid (below_two HB2.out hb3); clear hb3))
      go_meet
      exact ⟨true, rfl, (fun h => by cases h), HB3⟩
    subst h0
    by_cases h58 : 58 < l.length
    · have hd : decide ((58 : Int) < (l.length : Int)) = true := decide_eq_true (by omega)
      have hd' : decide (58 < l.length) = true := decide_eq_true (by omega)
      go_wp2_with (go_at_call 10; ((with_reducible refine (check_any _ l _ HV2.out HS.out (by omega)).mono ?_); rintro e w3 ⟨rfl, hb3⟩; rw [HCM.out]; have HB3 := Lib.hid (below_two HB2.out hb3); clear hb3))
      go_meet
      exact ⟨true, by first | rfl | exact congrArg Value.bool hd | exact congrArg Value.bool hd', (fun h => by cases h), HB3⟩
    have hd58 : decide ((58 : Int) < (l.length : Int)) = false := decide_eq_false (by omega)
    have hd58' : decide (58 < l.length) = false := decide_eq_false (by omega)
    obtain ⟨hb, hhb⟩ : ∃ hb : Bool, decide (100 < ps.length) = hb := ⟨_, rfl⟩
    have hhb' : decide ((100 : Int) < (ps.length : Int)) = hb := by rw [← hhb]; by_cases h : 100 < ps.length <;> simp [h] <;> omega
    have HHB := Lib.hid hhb
    by_cases hl0 : l.length = 0
    · have hd0 : decide ((0 : Int) < (l.length : Int)) = false := decide_eq_false (by omega)
      have hd0' : decide (0 < l.length) = false := decide_eq_false (by omega)
      have HL0 := Lib.hid hl0
      clear hl0
      go_wp2_with (go_at_call 10; ((with_reducible refine (check_any _ l _ HV2.out HS.out (by omega)).mono ?_); rintro e w3 ⟨rfl, hb3⟩; rw [HCM.out]; have HB3 := Lib.hid (below_two HB2.out hb3); clear hb3))
      go_meet
      exact ⟨hb, rfl, fun h => ⟨by omega, HS, HCM, Lib.hid (fun y hy => by have := List.eq_nil_of_length_eq_zero HL0.out; subst this; simp at hy), by have := HHB.out; rw [h] at this; have := of_decide_eq_false this; omega⟩, HB3⟩
    · have hd0 : decide ((0 : Int) < (l.length : Int)) = true := decide_eq_true (by omega)
      have hd0' : decide (0 < l.length) = true := decide_eq_true (by omega)
      have hlp : 0 < l.length := by omega
      obtain ⟨x, hx⟩ : ∃ x, l[l.length - 1]? = some x := ⟨_, List.getElem?_eq_getElem (by omega)⟩
      have HX := Lib.hid hx
      obtain ⟨zb, hzb⟩ : ∃ zb : Bool, Op.bytesLess x.it.code [90, 56] = zb := ⟨_, rfl⟩
      clear hl0 hx
      cases zb
      · go_wp2_with (go_at_call 10; ((with_reducible refine (check_any _ l _ HV2.out HS.out (by omega)).mono ?_); rintro e w3 ⟨rfl, hb3⟩; rw [HCM.out]; have HB3 := Lib.hid (below_two HB2.out hb3); obtain ⟨ad, rfl, hab, x0, x1, x2, x3⟩ := ISl.at_k (HV2.out.at_ hb3) HX.out; clear hb3))
        go_meet
        exact ⟨true, rfl, (fun h => by cases h), HB3⟩
      · have HZB := Lib.hid (last_z8 HCM.out HX.out hzb)
        go_wp2_with (go_at_call 10; ((with_reducible refine (check_any _ l _ HV2.out HS.out (by omega)).mono ?_); rintro e w3 ⟨rfl, hb3⟩; rw [HCM.out]; have HB3 := Lib.hid (below_two HB2.out hb3); obtain ⟨ad, rfl, hab, x0, x1, x2, x3⟩ := ISl.at_k (HV2.out.at_ hb3) HX.out; clear hb3))
        go_meet
        exact ⟨hb, rfl, fun h => ⟨by omega, HS, HCM, HZB, by have := HHB.out; rw [h] at this; have := of_decide_eq_false this; omega⟩, HB3⟩
  case rest =>
    obtain ⟨b, rfl, hfacts, HBc⟩ := hcut
    cases b
    rotate_left
    · go_wp2
      go_ret
      exact ⟨rfl, below_two HB1.out HBc.out⟩
    obtain ⟨h58, HS, HCM, HZ, h100⟩ := hfacts rfl
    clear hfacts
    obtain ⟨w4, hw4⟩ : ∃ W : World, W = wc := ⟨_, rfl⟩
    rw [← hw4] at HBc ⊢
    clear hw4
    have HV4 := Lib.hid (HV1.out.at_ HBc.out)
    have HB4 := Lib.hid (below_two HB1.out HBc.out)
    have HP4 := Lib.hid (PSl_at HP.out HB4.out)
    obtain ⟨i0, hi0, hz0, hz1, hz2⟩ := info_parts itemI
    have I1 := Lib.hid hi0
    have I2 := Lib.hid hz0
    have I3 := Lib.hid hz1
    have I4 := Lib.hid hz2
    clear hi0 hz0 hz1 hz2 HBc HB1 HV1
    go_wp2_with (first
      | (go_at_call 22; ((with_reducible refine (copyItems_any _ l _ HV4.out HS.out (by omega)).mono ?_); rintro e w5 ⟨v5, m, rfl, hcp, hb5⟩; have hml := hcp.len; have HR5 : Hid (Rowed m w4.heap.size w5 v5) := Lib.hid ⟨hcp.row, fun x hx => .inl (hcp.own x hx), hb5.size⟩; have HIT := Lib.hid hcp.its; have HMS : Hid (SizedI m) := Lib.hid (copied_sized hcp.its hcp.oth HS.out); have HB5 := Lib.hid hb5; have hbs5 := hb5.size; clear hb5 hcp; have HN := Lib.hid (quad_new w5 (strV [90, 56]) (.int .i64 7) (.slice none 0 0) (.slice none 0 0) 32)))
      | (at_builtin; refine wpList_append_own _ rfl _ _ 22 rfl w4.heap.size 32 i0 _ 4 72 Try.underlying22 I1.out I2.out I3.out I4.out rfl (by decide) _ _ _ rfl (HR5.out.row.alloc _) ⟨w5.heap.size, 0, none⟩ 1 1 [strV [90, 56], .int .i64 7, .slice none 0 0, .slice none 0 0] rfl rfl (by simpa using HN.out) (quad_one [90, 56] 7 none none 0 0 0 0) (by unfold maxLen; omega) (by omega) (by simp only [World.size_alloc]; omega) ?_; intro v6 w6 hown3 hg3 _; have hr6 := Rowed.snoc (x := i8) HR5.out ⟨PSl.nil, TSl.nil⟩ hg3 hown3; have HR6 := Lib.hid hr6; have HB6 : Hid (Go.RowKit.Below w4.heap.size w4 w6) := Lib.hid ((HB5.out.alloc HB5.out.size _).grown hg3 (by simp only [World.size_alloc]; omega) (fun j hj => (HR5.out.row.lt j hj).1)); clear hown3 hg3 hr6)
      | (go_at_call 10; fail))
    obtain ⟨A6, c6, hv6, hc61, hc62, hc63⟩ := own_form HR6.out.row
    have hl6 : (m ++ [i8]).length = l.length + 1 := by rw [List.length_append, hml]; rfl
    rw [hl6] at hv6 hc61
    obtain ⟨a6, rfl⟩ : ∃ a, A6 = some a := by
      cases A6 with
      | none => have := hc63 rfl; omega
      | some a => exact ⟨a, rfl⟩
    subst hv6
    have HS8 : Hid (SizedI (m ++ [i8])) := Lib.hid (fun x hx => by
      rcases List.mem_append.1 hx with h | h
      · exact HMS.out x h
      · obtain rfl := List.mem_singleton.1 h; exact fits8)
    have hit8 : (m ++ [i8]).map (·.it) = l.map (·.it) ++ [z8] := by rw [List.map_append, HIT.out]; rfl
    have hzi : ∀ y ∈ l.map (·.it), y.code < [90, 56] := fun y hy => by obtain ⟨x, hx, rfl⟩ := List.mem_map.1 hy; exact HZ.out x hx
    have hc8 : checkM ((m ++ [i8]).map (·.it)) = 0 := by rw [hit8]; exact check_z8 HCM.out (by rw [List.length_map]; exact h58) hzi
    have hcm8 : checkM (m.map (·.it)) = 0 := by rw [HIT.out]; exact HCM.out
    have HC8 := Lib.hid hc8
    have HCM8 := Lib.hid hcm8
    have HIT8 := Lib.hid hit8
    have HZI := Lib.hid hzi
    have hml' : m.length = l.length := hml
    have hl8 : (m ++ [i8]).length ≤ 1048576 := by omega
    clear hc8 hcm8 hit8 hzi hl6
    refine (check_any _ (m ++ [i8]) w6 HR6.out.isl HS8.out hl8).mono ?_
    rintro e w7 ⟨rfl, hb7⟩
    rw [HC8.out]
    have HR7 := Lib.hid (HR6.out.at_ hb7)
    have HB7 := Lib.hid (HB6.out.trans (hb7.mono HB6.out.size))
    have hfr := HR7.out.isl.front
    rw [hml'] at hfr
    have HFR := Lib.hid hfr
    clear hb7 hfr HR6
    go_wp2_with (go_at_call 10; fail)
    refine (check_any _ m w7 HFR.out HMS.out (by omega)).mono ?_
    rintro e w8 ⟨rfl, hb8⟩
    rw [HCM8.out]
    have HR8 := Lib.hid (HR7.out.at_ hb8)
    have HB8 := Lib.hid (HB7.out.trans (hb8.mono HB7.out.size))
    clear hb8 HR7 HFR HB7 HB6 HB5
    obtain ⟨M, hM⟩ : ∃ M, (m ++ [i8]).map (·.it) = M := ⟨_, rfl⟩
    have HM := Lib.hid hM
    clear hM
    have HDP : Hid (∀ (c : List UInt8) (W : World), c.length ≤ maxLen → Go.RowKit.Below w8.heap.size w8 W → Calls Try.prog 19 #[.slice (some a6) (l.length + 1) c6, .string ⟨c.toArray⟩] W fun e w' => e = .returned (.int .i64 (deepM M c : Nat)) ∧ Go.RowKit.Below W.heap.size W w') := Lib.hid (fun c W hc hW => by
      rw [← HM.out]
      exact deep_any _ (m ++ [i8]) c W (HR8.out.at_ hW).isl HS8.out hl8 hc)
    have HP8 := Lib.hid (PSl_at HP4.out HB8.out)
    go_upto_region 9 with (fail)
    go_cut [7] (fun v wx => v = .bool (fineAt M ps 0) ∧ wx = w8)
    case first =>
      by_cases h1 : 1 ≤ ps.length
      · have hd1 : decide ((1 : Int) ≤ (ps.length : Int)) = true := decide_eq_true (by omega)
        have hd1' : decide (1 ≤ ps.length) = true := decide_eq_true h1
        obtain ⟨b8, hb8⟩ : ∃ b8, decide (ps.length ≤ 8) = b8 := ⟨_, rfl⟩
        have hb8' : decide ((ps.length : Int) ≤ 8) = b8 := by rw [← hb8]; by_cases h : ps.length ≤ 8 <;> simp [h] <;> omega
        have HF : Hid (fineAt M ps 0 = b8) := Lib.hid (by rw [fineAt_zero, hd1', hb8]; rfl)
        go_wp2
        go_meet
        exact ⟨by rw [HF.out], rfl⟩
      · have hd1 : decide ((1 : Int) ≤ (ps.length : Int)) = false := decide_eq_false (by omega)
        have hd1' : decide (1 ≤ ps.length) = false := decide_eq_false h1
        have HF : Hid (fineAt M ps 0 = false) := Lib.hid (by rw [fineAt_zero, hd1']; rfl)
        go_wp2
        go_meet
        exact ⟨by rw [HF.out], rfl⟩
    case rest =>
      obtain ⟨rfl, hwx⟩ := hcut
      rw [hwx]
      clear hwx
      go_wp2
      go_loopw [6, 7, 8] (fun dv fv i wr => ∃ j : Nat, j ≤ ps.length ∧ i = .int .i64 j ∧ fv = .bool (fineAt M ps j) ∧ dv = .int .i64 (deepAt M ps j : Nat) ∧ Hid (Go.RowKit.Below w8.heap.size w8 wr)) (fun _ _ i _ => ps.length - (intOf i).toNat)
      case atStart => exact ⟨0, Nat.zero_le _, rfl, rfl, by rw [deepAt_zero]; rfl, Lib.hid (Below.refl _ _)⟩
      case round =>
        obtain ⟨j, hj, rfl, rfl, rfl, HBr⟩ := hrel
        have hd9 := deepAt_8 M ps j
        obtain ⟨fb, hfb⟩ : ∃ fb, fineAt M ps j = fb := ⟨_, rfl⟩
        obtain ⟨da, hda⟩ : ∃ da, deepAt M ps j = da := ⟨_, rfl⟩
        rw [hfb, hda]
        rw [hda] at hd9
        have HFB := Lib.hid hfb
        have HDA := Lib.hid hda
        clear hfb hda
        go_upto_region 11 with (fail)
        go_cut [76] (fun v wx => v = .bool (decide (j < ps.length) && fb) ∧ wx = wr)
        case first =>
          by_cases hlt : j < ps.length
          · have hd1 : decide (j < ps.length) = true := decide_eq_true hlt
            have hd2 : decide ((j : Int) < (ps.length : Int)) = true := decide_eq_true (by omega)
            go_wp2
            go_meet
            exact ⟨by rw [hd1]; rfl, rfl⟩
          · have hd1 : decide (j < ps.length) = false := decide_eq_false hlt
            have hd2 : decide ((j : Int) < (ps.length : Int)) = false := decide_eq_false (by omega)
            go_wp2
            go_meet
            exact ⟨by rw [hd1]; rfl, rfl⟩
        case rest =>
          obtain ⟨rfl, hwx⟩ := hcut
          rw [hwx]
          clear hwx
          obtain ⟨wo, hwo⟩ : ∃ W : World, W = wr := ⟨_, rfl⟩
          rw [← hwo] at HBr ⊢
          clear hwo
          by_cases hin : j < ps.length ∧ fb = true
          --L1BEGIN
          · obtain ⟨hlt, rfl⟩ := hin
            have hc1 : (decide (j < ps.length) && true) = true := by rw [decide_eq_true hlt]; rfl
            rw [hc1]
            clear hc1
            obtain ⟨p, hp⟩ : ∃ p, ps[j]? = some p := ⟨_, List.getElem?_eq_getElem hlt⟩
            obtain ⟨a1, rfl, ha1, z0, z1⟩ := PSl.at_k (PSl_at HP8.out HBr.out) hp
            have hpz := HPS.out p (List.mem_of_getElem? hp)
            have hpl1 := hpz.1
            have hq1 := hpz.2.1
            have hq2 := hpz.2.2
            have HPJ := Lib.hid hp
            have hdm8 := deepM_60 M p.1
            obtain ⟨dm, hdm⟩ : ∃ dm, deepM M p.1 = dm := ⟨_, rfl⟩
            rw [hdm] at hdm8
            have HDM := Lib.hid hdm
            clear hp hpz hdm
            go_upto_region 14 with (go_at_call 19; ((with_reducible refine (HDP.out p.1 wo hpl1 HBr.out).mono ?_); rintro e w9 ⟨rfl, hb9⟩; rw [HDM.out]; have HB9 := Lib.hid (HBr.out.trans (hb9.mono HBr.out.size)); clear hb9 z0 z1))
            obtain ⟨_, he, _, z0, z1⟩ := PSl.at_k (PSl_at HP8.out HB9.out) HPJ.out
            cases he
            obtain ⟨g, hg⟩ : ∃ g : Bool, (decide (0 < dm) && (decide (1 ≤ p.2) && decide (p.2 ≤ 1073741824))) = g := ⟨_, rfl⟩
            have HGG := Lib.hid hg
            go_cut [7] (fun v wx => v = .bool g ∧ wx = w9)
            case first =>
              by_cases t1 : 0 < dm
              · have s1 : decide (0 < dm) = true := decide_eq_true t1
                have s1' : decide ((0 : Int) < (dm : Int)) = true := decide_eq_true (by omega)
                by_cases t2 : 1 ≤ p.2
                · have s2 : decide (1 ≤ p.2) = true := decide_eq_true t2
                  by_cases t3 : p.2 ≤ 1073741824
                  · have s3 : decide (p.2 ≤ 1073741824) = true := decide_eq_true t3
                    go_wp2
                    go_meet
                    exact ⟨by rw [← HGG.out, s1, s2, s3]; rfl, rfl⟩
                  · have s3 : decide (p.2 ≤ 1073741824) = false := decide_eq_false t3
                    go_wp2
                    go_meet
                    exact ⟨by rw [← HGG.out, s1, s2, s3]; rfl, rfl⟩
                · have s2 : decide (1 ≤ p.2) = false := decide_eq_false t2
                  go_wp2
                  go_meet
                  exact ⟨by rw [← HGG.out, s1, s2]; rfl, rfl⟩
              · have s1 : decide (0 < dm) = false := decide_eq_false t1
                have s1' : decide ((0 : Int) < (dm : Int)) = false := decide_eq_false (by omega)
                go_wp2
                go_meet
                exact ⟨by rw [← HGG.out, s1]; rfl, rfl⟩
            case rest =>
              obtain ⟨rfl, hwx⟩ := hcut
              rw [hwx]
              clear hwx hg
              go_wp2
              go_loopw [7, 10] (fun fv i wr => ∃ (k : Nat) (f : Bool), k ≤ j ∧ i = .int .i64 k ∧ fv = .bool f ∧ Hid (f = (g && !(ps.take k).any (fun o => decide (o.1 = p.1)))) ∧ Hid (Go.RowKit.Below w9.heap.size w9 wr)) (fun _ i _ => j - (intOf i).toNat)
              case atStart => exact ⟨0, g, Nat.zero_le _, rfl, rfl, Lib.hid (by simp), Lib.hid (Below.refl _ _)⟩
              case round =>
                obtain ⟨k, f, hk, rfl, rfl, HF, HBk⟩ := hrel
                by_cases hkj : k < j
                · obtain ⟨o, ho⟩ : ∃ o, ps[k]? = some o := ⟨_, List.getElem?_eq_getElem (by omega)⟩
                  have HB9k := Lib.hid (HB9.out.trans (HBk.out.mono HB9.out.size))
                  obtain ⟨_, he, _, y0, y1⟩ := PSl.at_k (PSl_at HP8.out HB9k.out) ho
                  cases he
                  obtain ⟨_, he, _, r0, r1⟩ := PSl.at_k (PSl_at HP8.out HB9k.out) HPJ.out
                  cases he
                  have hkl : k < ps.length := by omega
                  have hst : (ps.take (k + 1)).any (fun o => decide (o.1 = p.1)) = ((ps.take k).any (fun o => decide (o.1 = p.1)) || decide (o.1 = p.1)) := by rw [List.take_add_one, ho, List.any_append]; simp
                  have HST := Lib.hid hst
                  clear ho hst z0 z1
                  cases f
                  · go_wp2
                    go_quiet (fail)
                    go_wp2
                    go_roundw
                    case rel => exact ⟨k + 1, false, by omega, by go_num, rfl, Lib.hid (by
                      rw [HST.out, Bool.not_or, ← Bool.and_assoc, ← HF.out]; rfl), Lib.hid (below_draws HBk.out _)⟩
                    case measure => simp [intOf]; omega
                  · by_cases heq : o.1 = p.1
                    · have hbe : (o.1 == p.1) = true := by rw [heq]; simp
                      have hbn : (o.1 != p.1) = false := by rw [heq]; simp
                      have HE := Lib.hid heq
                      clear heq
                      go_wp2
                      go_quiet (fail)
                      go_wp2
                      go_roundw
                      case rel => exact ⟨k + 1, false, by omega, by go_num, rfl, Lib.hid (by
                        rw [HST.out, decide_eq_true HE.out, Bool.or_true, Bool.not_true, Bool.and_false]), Lib.hid (below_draws HBk.out _)⟩
                      case measure => simp [intOf]; omega
                    · have hbe : (o.1 == p.1) = false := beq_eq_false_iff_ne.2 heq
                      have hbn : (o.1 != p.1) = true := by simp [heq]
                      have HE := Lib.hid heq
                      clear heq
                      go_wp2
                      go_quiet (fail)
                      go_wp2
                      go_roundw
                      case rel => exact ⟨k + 1, true, by omega, by go_num, rfl, Lib.hid (by
                        rw [HST.out, decide_eq_false HE.out, Bool.or_false, ← HF.out]), Lib.hid (below_draws HBk.out _)⟩
                      case measure => simp [intOf]; omega
                · obtain rfl : k = j := by omega
                  have HB9k := Lib.hid (HB9.out.trans (HBk.out.mono HB9.out.size))
                  have hd1 : decide (k < k) = false := decide_eq_false (by omega)
                  have hfn : Hid (f = fineAt M ps (k + 1)) := Lib.hid (by
                    rw [HF.out, fineAt_succ, HFB.out, Bool.true_and]
                    unfold okAt
                    rw [HPJ.out]
                    simp only
                    rw [HDM.out, HGG.out])
                  have hdn : Hid (max (da : Int) ((dm : Int) + 1) = ((deepAt M ps (k + 1) : Nat) : Int)) := Lib.hid (by
                    rw [deepAt_succ HPJ.out, HDA.out, HDM.out]; omega)
                  go_wp2
                  go_roundw
                  case rel => exact ⟨k + 1, by omega, by go_num, by rw [hfn.out], by rw [← hdn.out], HB9k⟩
                  case measure => simp [intOf]; omega
          --L1END
          · have hc1 : (decide (j < ps.length) && fb) = false := by
              rcases Decidable.not_and_iff_or_not.1 hin with h | h
              · rw [decide_eq_false h]; rfl
              · have : fb = false := by cases fb; rfl; exact absurd rfl h
                rw [this, Bool.and_false]
            rw [hc1]
            have HIN := Lib.hid hin
            clear hin hc1
            have HRo := Lib.hid (HR8.out.at_ HBr.out)
            have hbo : Go.RowKit.Below w4.heap.size w4 wo := HB8.out.trans (HBr.out.mono HB8.out.size)
            have HBo := Lib.hid hbo
            have hso := hbo.size
            have HPo := Lib.hid (HP4.out.below hbo)
            have HN9 := Lib.hid (quad_new wo (strV [90, 57]) (.int .i64 0) (.slice A1 ps.length c1) (.slice none 0 0) 32)
            have hl6 : (m ++ [i8]).length = l.length + 1 := by rw [List.length_append, hml]; rfl
            have hrow := HRo.out.row
            rw [hl6] at hrow
            have HROW := Lib.hid hrow
            clear hbo hrow
            go_upto_region 21 with (at_builtin; refine wpList_append_own _ rfl _ _ 22 rfl w4.heap.size 32 i0 _ 4 72 Try.underlying22 I1.out I2.out I3.out I4.out rfl (by decide) _ _ _ rfl (HROW.out.alloc _) ⟨wo.heap.size, 0, none⟩ 1 1 [strV [90, 57], .int .i64 0, .slice A1 ps.length c1, .slice none 0 0] rfl rfl (by simpa using HN9.out) (quad_one [90, 57] 0 A1 none ps.length c1 0 0) (by unfold maxLen; omega) (by omega) (by simp only [World.size_alloc]; omega) ?_; intro va wa hown3 hg3 _; have HOW := Lib.hid hown3; have HGA := Lib.hid hg3; clear hown3 hg3)
            have hra := Rowed.snoc (x := i9 ps (.slice A1 ps.length c1)) HRo.out ⟨HPo.out, TSl.nil⟩ HGA.out (by have := HOW.out; rw [hl6]; exact this)
            have HBa : Hid (Go.RowKit.Below w4.heap.size w4 wa) := Lib.hid ((HBo.out.alloc hso _).grown HGA.out (by simp only [World.size_alloc]; omega) (fun j hj => (HROW.out.lt j hj).1))
            obtain ⟨A10, c10, hva, hc101, hc102, hc103⟩ := own_form hra.row
            have hl10 : (m ++ [i8] ++ [i9 ps (.slice A1 ps.length c1)]).length = l.length + 2 := by rw [List.length_append, hl6]; rfl
            rw [hl10] at hva hc101
            subst hva
            have HRA := Lib.hid hra
            have HS10 : Hid (SizedI (m ++ [i8] ++ [i9 ps (.slice A1 ps.length c1)])) := Lib.hid (fun x hx => by
              rcases List.mem_append.1 hx with h | h
              · exact HS8.out x h
              · obtain rfl := List.mem_singleton.1 h; exact fits9 HPS.out h100)
            have hit10 : (m ++ [i8] ++ [i9 ps (.slice A1 ps.length c1)]).map (·.it) = M ++ [z9 ps] := by rw [List.map_append, HM.out]; rfl
            have hM2 : M = l.map (·.it) ++ [z8] := by rw [← HM.out, HIT8.out]
            have hM0 : checkM M = 0 := by rw [← HM.out]; exact HC8.out
            have hmi := more_iff (ps := ps) (j := j) hM0 (by rw [hM2, List.length_append, List.length_map]; simp; omega) (by rw [hM2]; exact lt_z9 HZI.out) hj (by rw [HFB.out]; exact HIN.out)
            rw [HFB.out, HDA.out] at hmi
            obtain ⟨cm, hcm⟩ : ∃ cm, checkM (M ++ [z9 ps]) = cm := ⟨_, rfl⟩
            rw [hcm] at hmi
            have HMI := Lib.hid hmi
            have HCM2 : Hid (checkM ((m ++ [i8] ++ [i9 ps (.slice A1 ps.length c1)]).map (·.it)) = cm) := Lib.hid (by rw [hit10]; exact hcm)
            have KC : Hid (∀ W', Go.RowKit.Below wa.heap.size wa W' → Calls Try.prog 10 #[.slice A10 (l.length + 2) c10] W' fun e w' => e = .returned (.int .i64 cm) ∧ Go.RowKit.Below W'.heap.size W' w') := Lib.hid (fun W' hW => by
              rw [← HCM2.out]
              exact check_any _ _ W' (HRA.out.at_ hW).isl HS10.out (by omega))
            clear hra hmi hit10 hcm HOW HGA HROW HRo HPo
            go_cut [140] (fun v wx => v = .bool false ∧ Hid (Go.RowKit.Below wa.heap.size wa wx))
            case first =>
              have HWA := Lib.hid (Below.refl wa.heap.size wa)
              by_cases hcz : cm = 0
              · obtain ⟨rfl, h8⟩ := HMI.out.1 hcz
                have s1 : (cm == 0) = true := by rw [hcz]; rfl
                have s1' : decide (cm = 0) = true := decide_eq_true hcz
                have s2 : decide ((da : Int) ≤ 8) = true := decide_eq_true (by omega)
                have s2' : decide (da ≤ 8) = true := decide_eq_true h8
                clear hcz
                go_wp2_with (go_at_call 10; ((with_reducible refine (KC.out _ HWA.out).mono ?_); rintro e wb ⟨rfl, hbb⟩))
                go_meet
                exact ⟨rfl, Lib.hid hbb⟩
              · have s1 : (cm == 0) = false := beq_eq_false_iff_ne.2 hcz
                have s1' : decide (cm = 0) = false := decide_eq_false hcz
                have hno : ¬ (fb = true ∧ da ≤ 8) := fun h => hcz (HMI.out.2 h)
                clear hcz
                cases fb
                · go_wp2_with (go_at_call 10; ((with_reducible refine (KC.out _ HWA.out).mono ?_); rintro e wb ⟨rfl, hbb⟩))
                  go_meet
                  exact ⟨rfl, Lib.hid hbb⟩
                · have h8 : ¬ da ≤ 8 := fun h => hno ⟨rfl, h⟩
                  have s2 : decide ((da : Int) ≤ 8) = false := decide_eq_false (by omega)
                  have s2' : decide (da ≤ 8) = false := decide_eq_false h8
                  clear hno
                  go_wp2_with (go_at_call 10; ((with_reducible refine (KC.out _ HWA.out).mono ?_); rintro e wb ⟨rfl, hbb⟩))
                  go_meet
                  exact ⟨rfl, Lib.hid hbb⟩
            case rest =>
              obtain ⟨rfl, HBb⟩ := hcut
              have HBc := Lib.hid (HBa.out.trans (HBb.out.mono HBa.out.size))
              go_wp2
              go_loopw [11] (fun i wr => ∃ k : Nat, k ≤ l.length ∧ i = .int .i64 k ∧ Hid (Go.RowKit.Below wa.heap.size wa wr)) (fun i _ => l.length - (intOf i).toNat)
              case atStart => exact ⟨0, Nat.zero_le _, rfl, HBb⟩
              case round =>
                obtain ⟨k, hk, rfl, HBk⟩ := hrel
                by_cases hkl : k < l.length
                · obtain ⟨x, hx⟩ : ∃ x, l[k]? = some x := ⟨_, List.getElem?_eq_getElem hkl⟩
                  have hxm := List.mem_of_getElem? hx
                  have HB4k := Lib.hid (HBa.out.trans (HBk.out.mono HBa.out.size))
                  obtain ⟨ad, rfl, hab, x0, x1, x2, x3⟩ := ISl.at_k (HV4.out.at_ HB4k.out) hx
                  have hcl := (HS.out x hxm).1
                  have KCk : ∀ W', Go.RowKit.Below wr.heap.size wr W' → Calls Try.prog 10 #[.slice A10 (l.length + 2) c10] W' fun e w' => e = .returned (.int .i64 cm) ∧ Go.RowKit.Below W'.heap.size W' w' := fun W' hW => KC.out W' (HBk.out.trans (hW.mono HBk.out.size))
                  by_cases hcz : cm = 0
                  · have hdd : deepM (M ++ [z9 ps]) x.it.code = deepM (l.map (·.it)) x.it.code := by
                      rw [hM2]
                      exact deep_stays HCM.out (by rw [List.length_map]; exact h58) HZI.out (by rw [← hM2, ← hcz]; have := HCM2.out; rw [List.map_append, HM.out] at this; exact this) (List.mem_map_of_mem hxm)
                    have hM3 : (m ++ [i8] ++ [i9 ps (.slice A1 ps.length c1)]).map (·.it) = M ++ [z9 ps] := by rw [List.map_append, HM.out]; rfl
                    subst hcz
                    go_upto_region 26 with (fail)
                    refine rm_yes (by kernel_rfl) hab hkl x0 KCk (fun W' hW => ?_) (fun W' hW => deep_any _ l x.it.code W' (HV4.out.at_ (HB4k.out.trans (hW.mono HB4k.out.size))) HS.out (by omega) hcl) ?_
                    · rw [← hdd, ← hM3]
                      exact deep_any _ _ x.it.code W' (HRA.out.at_ (HBk.out.trans (hW.mono HBk.out.size))).isl HS10.out (by omega) hcl
                    intro wz
                    intros
                    rename_i hbz
                    go_wp2
                    go_roundw
                    case rel => exact ⟨k + 1, by omega, by go_num, Lib.hid (HBk.out.trans (hbz.mono HBk.out.size))⟩
                    case measure => simp [intOf]; omega
                  · go_upto_region 26 with (fail)
                    refine rm_no (by kernel_rfl) hab hkl x0 (beq_eq_false_iff_ne.2 hcz) (decide_eq_false hcz) KCk ?_
                    intro wz
                    intros
                    rename_i hbz
                    go_wp2
                    go_roundw
                    case rel => exact ⟨k + 1, by omega, by go_num, Lib.hid (HBk.out.trans (hbz.mono HBk.out.size))⟩
                    case measure => simp [intOf]; omega
                · obtain rfl : k = l.length := by omega
                  have HB4k := Lib.hid (HBa.out.trans (HBk.out.mono HBa.out.size))
                  have hd1 : decide (l.length < l.length) = false := decide_eq_false (by omega)
                  go_wp2
                  go_ret
                  exact ⟨rfl, below_two HB4.out HB4k.out⟩
end Kt
end Go.Proofs.Ytlgpambbghkffaa
end
section
/- What a law leaves behind. -/
namespace Go.Proofs.Ytlgpambbghkffaa
namespace Kt
open Go.ChangeShapes Go.WideShapes Go.ChangeAt Go.RowKit
set_option linter.unusedVariables false
set_option linter.constructorNameAsVariable false
set_option maxRecDepth 100000
theorem own_knob : ownKnob Try.prog.godebug = none := by kernel_rfl
/-- What a law leaves behind: nothing that was there has turned. -/
theorem post_below {H : Type} {enc : TypeId × Value → H} {P : Program} {f : Func} {s : ChangeSpec} {apart fresh handsOn : Bool} {W W' : World} {args : Array Value} {v : Value} {ds gs : List (DataW H)} {before pa pv : List MemPlace}
    (hW : DataW.Whole enc P f.params.toList s.vars apart W args.toList ds gs before)
    (hres : ∀ (b : Nat) (sp : Nat → Bool) (hd : Bool), DataW.TrodAll enc P W' b sp hd f.resultTypes.toList (v.resultList f.resultTypes.size) (s.fn H (ds ++ gs)).results [])
    (hargs : DataW.TrodAll enc P W' 0 (fun b => decide (b < W.heap.size)) true f.params.toList args.toList (s.fn H (ds ++ gs)).args pa)
    (hvars : DataW.TrodVars enc P W' (fun b => decide (b < W.heap.size)) s.vars (s.fn H (ds ++ gs)).vars pv)
    (hb : Go.RowKit.Below W.heap.size W W') : s.post enc P f apart fresh handsOn false W args v W' :=
  ⟨ds, gs, before, [], pa, pv, hW, hres _ _ _, hargs, hvars, hb.frame _, fun h => by cases h⟩
theorem laid_out : laidOutB Try.prog = true := by kernel_rfl
/-- How long a list of items is, and what lies inside. -/
theorem items_len {H : Type} {ts : List TypeId} {ds : List (DataW H)} (h : (DataW.weightsEach Try.prog ts ds).all (· ≤ reachBytes) = true) {j : Nat} {d : DataW H} (ht : ts[j]? = some 22) (hd : ds[j]? = some d) {l : List Iv}
    (hl : l = [] ∨ ∃ elems spare, d = .slice elems spare ∧ l.length = elems.length ∧ ∀ (k : Nat) (x : Iv), l[k]? = some x → ∃ e, elems[k]? = some e ∧ x.In e) : l.length ≤ 140737488355328 ∧ ∀ x ∈ l, x.it.parts.length ≤ 140737488355328 ∧ x.others.length ≤ 140737488355328 := by
  rcases hl with rfl | ⟨elems, spare, rfl, e, hin⟩
  · exact ⟨by simp, by simp⟩
  · have hb := sized_slice h (j := j) (t := 22) ht hd Try.underlying22
    have hB : Try.prog.bytesOf 32 = 72 := by kernel_rfl
    rw [hB] at hb
    have := reachBytes_lt
    exact ⟨by omega, sized_items h ht hd hin⟩
/-- A list of parts that is handed. -/
theorem open_partsK {H : Type} {enc : TypeId × Value → H} {W : World} {r : Go.Reach} {b0 base : Nat} {sp : Nat → Bool} {held : Bool} {v : Value} {d : DataW H} {p : List MemPlace} (hval : Value.okWide Try.prog W r b0 29 v)
    (h : DataW.Trod enc Try.prog W base sp held 29 v d p) : ∃ l, PSl W W.heap.size v l ∧ Sized l ∧ (l = [] ∨ ∃ elems spare, d = .slice elems spare ∧ l.length = elems.length) := by
  obtain ⟨a0, len0, cap0, rfl⟩ := okWide_slice Try.underlying29 hval
  obtain ⟨fuel, hf⟩ := h
  have hf' : DataW.trod enc Try.prog W base sp held fuel 29 [.slice a0 len0 cap0] = some (d, p) := by simpa [Value.cells] using hf
  obtain ⟨l, h1, h2, h3⟩ := parts_of_cell hf'
  exact ⟨l, h1, h2, h3⟩
theorem parts_len {H : Type} {ts : List TypeId} {ds : List (DataW H)} (h : (DataW.weightsEach Try.prog ts ds).all (· ≤ reachBytes) = true) {j : Nat} {d : DataW H} (ht : ts[j]? = some 29) (hd : ds[j]? = some d) {l : List Pt}
    (hl : l = [] ∨ ∃ elems spare, d = .slice elems spare ∧ l.length = elems.length) : l.length ≤ 140737488355328 := by
  rcases hl with rfl | ⟨elems, spare, rfl, e⟩
  · simp
  · have hb := sized_slice h (j := j) (t := 29) ht hd Try.underlying29
    have hB : Try.prog.bytesOf 39 = 24 := by kernel_rfl
    rw [hB] at hb
    have := reachBytes_lt
    omega
end Kt
end Go.Proofs.Ytlgpambbghkffaa
end
