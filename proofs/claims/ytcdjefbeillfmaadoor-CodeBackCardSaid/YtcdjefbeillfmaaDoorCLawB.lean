/- The law CodeBack walks through: it answers true at any text, bytes and number. -/
import Derived.Test.YtcdjefbeillfmaaDoorCAwake
import Derived.Deep.DeepCutAuto
import Derived.Deep.RegionWith
namespace Go.Proofs.YtcdjefbeillfmaaDoor
open Go.ChangeShapes Go.WideShapes Go.ChangeAt Go.RowKit Go.Shelf Go.Sort
set_option linter.unusedVariables false

theorem putL_len (l : List UInt8) : (putL l).length ≤ 13 := by
  unfold putL
  split
  · rename_i h; have := orNoneL_length h; rw [List.length_cons]; omega
  · simp
theorem putL_pos (l : List UInt8) : decide (0 < (putL l).length) = orNoneL l := by
  unfold putL
  cases h : orNoneL l <;> simp

theorem list_beq (a b : List UInt8) : (a == b) = decide (a = b) := by
  by_cases h : a = b <;> simp [h]
theorem numV_bounds (l : List UInt8) : -9223372036854775808 ≤ numV l ∧ numV l ≤ 9223372036854775807 := by
  cases h : numL l with
  | none => rw [numV, h]; simp
  | some v => rw [numV, h]; exact atoi_bounds (numL_parts h).1
theorem mk_list (s : ByteArray) : (⟨s.data.toList.toArray⟩ : ByteArray) = s := by simp
theorem get_put (v : Value) (s : ByteArray) (l : List UInt8) (w : World) (hv : BSl w w.heap.size v (putL s.data.toList ++ l)) (ho : orNoneL s.data.toList = true) (hl : l.length ≤ 100000) :
    Calls Tryd.prog 14 #[v] w fun e w' => e = .returned (.tuple #[.string s, .int .i64 ((putL s.data.toList).length : Int), .bool true]) ∧ Below w.heap.size w w' :=
  (get_any v _ _ w hv (Nat.le_refl _) (by have := putL_len s.data.toList; rw [List.length_append]; omega)).mono fun e w' ⟨he, hb⟩ => ⟨he.trans (by
    have hg := getL_put l ho
    have e1 : (putL s.data.toList).length = 1 + s.data.toList.length := by rw [putL, if_pos ho, List.length_cons, Nat.add_comm]
    rw [getS, getN, getB, hg]
    simp only [Option.getD_some, Option.isSome_some, mk_list, e1]
    rfl), hb⟩

theorem get_none (v : Value) (l : List UInt8) (B : Nat) (w : World) (hv : BSl w B v l) (hB : B ≤ w.heap.size) (hl : l.length ≤ 100000) (hg : getL l = none) :
    Calls Tryd.prog 14 #[v] w fun e w' => e = .returned (.tuple #[.string ⟨#[]⟩, .int .i64 0, .bool false]) ∧ Below w.heap.size w w' :=
  (get_any v _ _ w hv hB (by omega)).mono fun e w' ⟨he, hb⟩ => ⟨he.trans (by rw [getS, getN, getB, hg]; rfl), hb⟩
theorem get_some (v : Value) (l t : List UInt8) (K B : Nat) (w : World) (hv : BSl w B v l) (hB : B ≤ w.heap.size) (hl : l.length ≤ 100000) (hg : getL l = some t) (hK : K = 1 + t.length) :
    Calls Tryd.prog 14 #[v] w fun e w' => e = .returned (.tuple #[.string ⟨t.toArray⟩, .int .i64 (K : Int), .bool true]) ∧ Below w.heap.size w w' :=
  (get_any v _ _ w hv hB (by omega)).mono fun e w' ⟨he, hb⟩ => ⟨he.trans (by rw [getS, getN, getB, hg, hK]; rfl), hb⟩
theorem put_t (t : List UInt8) (w : World) : Calls Tryd.prog 12 #[.string ⟨t.toArray⟩] w (Bytes (putL t) w) := put_any ⟨t.toArray⟩ w
/-- A beginning of bytes that lie. -/
theorem BSl.start {w : World} {B : Nat} {A : Option Addr} {c : Nat} {l : List UInt8} (h : BSl w B (.slice A l.length c) l) {k : Nat} (hk : k ≤ l.length) : BSl w B (.slice A k c) (l.take k) := by
  obtain ⟨A', c', e, h1, h2, h3, h4⟩ := h
  injection e with e1 _ e3
  subst e1 e3
  refine ⟨A, c, by rw [List.length_take, Nat.min_eq_left hk], by rw [List.length_take]; omega, h2, h3, ?_⟩
  rw [← bcells_take]
  exact h4.take_ k

theorem number_text (n : Int) (w : World) (hv : Vars w) (h0 : -9223372036854775808 ≤ n) (h1 : n ≤ 9223372036854775807) :
    Calls Tryd.prog 7 #[.string ⟨(Lib.itoa n).toArray⟩] w fun e w' => e = .returned (.tuple #[.int .i64 n, .bool true]) ∧ Below w.heap.size w w' :=
  (number_any ⟨(Lib.itoa n).toArray⟩ w hv (by have := Lib.itoa_length_le n h0 h1; show (Lib.itoa n).toArray.size ≤ _; simp; omega)).mono fun e w' ⟨he, hb⟩ => ⟨he.trans (by
    have e1 := num_text h0 h1
    exact ret_ib (by simp [numV, e1]) (by simp [numB, e1])), hb⟩

set_option maxRecDepth 100000 in
set_option maxHeartbeats 4000000 in
theorem back_any (s : ByteArray) (v : Value) (l : List UInt8) (n : Int) (w : World) (hv : Vars w) (hs : s.size ≤ 140737488355327) (hl : BSl w w.heap.size v l) (hll : l.length ≤ 140737488355327) (h0 : -9223372036854775808 ≤ n) (h1 : n ≤ 9223372036854775807) :
    Calls Tryd.prog 4 #[.string s, v, .int .i64 n] w fun e w' => e = .returned (.bool true) ∧ Below w.heap.size w w' := by
  have HV := Lib.hid hv
  obtain ⟨A, c, rfl, hc1, hc2, hcz, hli⟩ := id hl
  have HL := Lib.hid hl
  have HCZ := Lib.hid hcz
  clear hv hl hcz hli
  by_cases hlong : 100000 < s.size + l.length
  · go_enter Tryd.func4, Tryd.ntmps4
    go_wp2_with fail
    refine (awake_any _ HV.out).mono ?_
    rintro e w1 ⟨rfl, h1⟩
    go_wp2_with fail
    go_ret
    exact ⟨rfl, h1⟩
  · go_enter Tryd.func4, Tryd.ntmps4
    go_wp2_with fail
    refine (awake_any _ HV.out).mono ?_
    rintro e w1 ⟨rfl, h1⟩
    go_wp2_with fail
    refine (put_any s _).mono ?_
    rintro e w2 ⟨v2, rfl, hrow2, hb2⟩
    have h2 := h1.trans (hb2.mono h1.size)
    obtain ⟨A2, c2, rfl, hc21, hc22, hcz2⟩ := own_form hrow2
    have S2 := Lib.hid (BSl.own hrow2)
    clear hb2 h1 hrow2
    have hz2 := h2.size
    obtain ⟨p, hp⟩ : ∃ p, orNoneL s.data.toList = p := ⟨_, rfl⟩
    have hpos := putL_pos s.data.toList
    rw [hp] at hpos
    have HP := Lib.hid hp
    clear hp
    go_upto_region 6 with (fail)
    go_cut [37] (fun v wx => v = .bool false ∧ Below w2.heap.size w2 wx)
    case first =>
      by_cases hse : s.size = 0
      · obtain rfl := list_nil hse
        obtain rfl : p = true := by rw [← HP.out]; rfl
        clear hse
        go_wp2
        go_meet
        exact ⟨rfl, Below.refl _ _⟩
      · have hq := empty_no hse
        have hr : rightL s.data.toList = p := by rw [← HP.out]; simp [orNoneL, list_some hse]
        have hrr := fun W => right_any s W
        rw [hr] at hrr
        have HR := Lib.hid hrr
        have HSE := Lib.hid hse
        clear hr hrr hse
        cases p
        · go_wp2_with fail
          refine (HR.out _).mono ?_
          rintro e w3 ⟨rfl, hb3⟩
          go_wp2
          go_meet
          exact ⟨rfl, hb3⟩
        · go_wp2_with fail
          refine (HR.out _).mono ?_
          rintro e w3 ⟨rfl, hb3⟩
          go_wp2
          go_meet
          exact ⟨rfl, hb3⟩
    case rest =>
      obtain ⟨rfl, hbx⟩ := hcut
      have h3 := h2.trans (hbx.mono hz2)
      have S3 := Lib.hid ((S2.out.below hbx).mono hbx.size)
      clear hbx S2 h2 hz2
      go_upto_if 40 with (fail)
      go_cut [] (fun wx => Below w.heap.size w wx)
      case first =>
        cases p
        · go_wp2
          go_meet
          exact h3
        · have hl100 : l.length ≤ 100000 := by omega
          have hpl : (putL s.data.toList).length ≤ 13 := putL_len _
          go_wp2_with fail
          refine (copy_any _ _ _ S3.out (by omega)).mono ?_
          rintro e w4 ⟨v4, rfl, hrow4, hb4⟩
          have h4 := h3.trans (hb4.mono h3.size)
          have hrow4' := own_base (base' := w.heap.size) hrow4 h3.size
          have R4 := Lib.hid hrow4'
          have L4 := Lib.hid ((HL.out.below h4).mono h4.size)
          have hz4 := h4.size
          clear hrow4 hrow4' hb4 h3 S3
          obtain ⟨i0, hi, hz0, hz1, hz2⟩ := info_parts infoByte
          have H1 := Lib.hid hi
          have H2 := Lib.hid hz0
          have H3 := Lib.hid hz1
          have H4 := Lib.hid hz2
          clear hi hz0 hz1 hz2
          go_wp2_with (at_builtin; refine wpList_append_src _ rfl (.tmp 43) (.tmp 44) 27 rfl w.heap.size 5 i0 (.int .u8 0) 1 1 Tryd.underlying27 H1.out H2.out H3.out H4.out rfl (by decide) v4 (putL s.data.toList).length _ rfl R4.out A l.length c (bcells l) rfl (by rw [bcells_len, Nat.mul_one]) HCZ.out (by obtain ⟨A', c', e1, _, _, _, e2⟩ := L4.out; injection e1 with e1; subst e1; exact e2) (bcells_one l) (by unfold maxLen; omega) (by omega) hz4 ?_; intro v5 w5 hown5 hg5 hat5)
          have h5 : Below w.heap.size w w5 := h4.grown hg5 hz4 (fun k hk => (R4.out.lt k hk).1)
          have S5 := Lib.hid (BSl.own (l := putL s.data.toList ++ l) (by rw [bcells_app]; exact hown5))
          clear hown5 hg5 hat5 R4 L4 h4 hz4
          go_wp2_with fail
          refine (get_put _ s l _ S5.out HP.out (by omega)).mono ?_
          rintro e w6 ⟨rfl, hb6⟩
          have h6 := h5.trans (hb6.mono h5.size)
          clear hb6 h5 S5
          go_wp2_with fail
          go_meet
          exact h6
      case rest =>
        clear h3 S3
        have L3 := Lib.hid ((HL.out.below hcut).mono hcut.size)
        have hl100 : l.length ≤ 100000 := by omega
        obtain ⟨w9, rfl⟩ : ∃ w9, w9 = wc := ⟨_, rfl⟩
        cases hg : getL l with
        | none =>
          have HG := Lib.hid hg
          clear hg
          go_wp2_with fail
          refine (get_none _ _ _ _ L3.out (Nat.le_refl _) hl100 HG.out).mono ?_
          rintro e wa ⟨rfl, hba⟩
          have ha := hcut.trans (hba.mono hcut.size)
          clear hba hcut L3
          go_upto_region 13 with (fail)
          go_cut [100] (fun v wx => v = .bool false ∧ Below w.heap.size w wx)
          case first =>
            go_quiet (fail)
            go_wp2
            go_meet
            exact ⟨rfl, below_draws ha _⟩
          case rest =>
            clear ha
            obtain ⟨rfl, hx⟩ := hcut
            obtain ⟨we, rfl⟩ : ∃ we, we = wc := ⟨_, rfl⟩
            obtain ⟨n0, n1⟩ := numV_bounds s.data.toList
            have hsz : s.size ≤ 140737488355328 := by omega
            have V1 := Lib.hid (HV.out.below hx)
            go_wp2_with fail
            refine (text_any n _ V1.out h0 h1).mono ?_
            rintro e wf ⟨rfl, hbf⟩
            have hf := hx.trans (hbf.mono hx.size)
            have V2 := Lib.hid (HV.out.below hf)
            clear hbf hx V1
            go_wp2_with fail
            refine (number_text n _ V2.out h0 h1).mono ?_
            rintro e wg ⟨rfl, hbg⟩
            have hg2 := hf.trans (hbg.mono hf.size)
            have V3 := Lib.hid (HV.out.below hg2)
            clear hbg hf V2
            go_wp2_with fail
            refine (number_any s _ V3.out hsz).mono ?_
            rintro e wh ⟨rfl, hbh⟩
            have hh := hg2.trans (hbh.mono hg2.size)
            have V4 := Lib.hid (HV.out.below hh)
            clear hbh hg2 V3
            have hsays := num_says s.data.toList
            obtain ⟨q, hq⟩ : ∃ q, numB s.data.toList = q := ⟨_, rfl⟩
            have hq2 : (Lib.itoa (numV s.data.toList) == s.toList) = q := by rw [← hq, hsays, ByteArray.toList_eq]; exact list_beq _ _
            rw [hq]
            generalize hnv : numV s.data.toList = nv at *
            clear hsays hq hnv
            go_wp2_with fail
            refine (text_any nv _ V4.out n0 n1).mono ?_
            rintro e wi ⟨rfl, hbi⟩
            have hi := hh.trans (hbi.mono hh.size)
            clear hbi hh V4
            cases q
            · go_wp2_with fail
              go_ret
              exact ⟨rfl, hi⟩
            · go_wp2_with fail
              go_ret
              exact ⟨rfl, hi⟩
        | some t =>
          obtain ⟨hk1, hk2, hk3⟩ := put_getL hg
          have HG := Lib.hid hg
          obtain ⟨kk, hK⟩ : ∃ kk, kk = 1 + t.length := ⟨_, rfl⟩
          have HK := Lib.hid hK
          have hkl : kk ≤ l.length := by omega
          have hK1 : 1 ≤ kk := by omega
          have hput : putL t = l.take kk := by rw [hk2, ← hK]
          have HPT := Lib.hid hput
          have hdk1 : decide ((kk : Int) < 1) = false := decide_eq_false (by omega)
          have hdk2 : decide (l.length < kk) = false := decide_eq_false (by omega)
          clear hg hK hk1 hk2 hk3 hput
          go_wp2_with fail
          refine (get_some _ _ t kk _ _ L3.out (Nat.le_refl _) hl100 HG.out HK.out).mono ?_
          rintro e wa ⟨rfl, hba⟩
          have ha := hcut.trans (hba.mono hcut.size)
          clear hba hcut L3
          go_upto_region 13 with (fail)
          go_cut [100] (fun v wx => v = .bool false ∧ Below w.heap.size w wx)
          case first =>
            refine wp_region_any (by kernel_rfl) ?_
            change wpAny _ _ _ _ _ _ _ (World.drew _)
            refine wpAny_take (i := 0) (v := (.bool true)) rfl (by kernel_rfl) (by kernel_rfl) (by kernel_rfl) (fun _ _ _ h => h) (Or.inl ⟨by kernel_rfl, fun w => by go_simp⟩) ?_
            refine wpAny_take (i := 1) (v := (.bool true)) rfl (by kernel_rfl) (by kernel_rfl) (by kernel_rfl) (fun _ _ _ h => h) (Or.inl ⟨by kernel_rfl, fun w => by go_simp⟩) ?_
            refine wpAny_take (i := 2) (v := (.int .i64 (kk : Int))) rfl (by kernel_rfl) (by kernel_rfl) (by kernel_rfl) (fun _ _ _ h => h) (Or.inl ⟨by kernel_rfl, fun w => by go_simp⟩) ?_
            refine wpAny_take (i := 3) (v := (.bool false)) rfl (by kernel_rfl) (by kernel_rfl) (by kernel_rfl) (fun _ _ _ h => h) (Or.inl ⟨by kernel_rfl, fun w => by go_simp⟩) ?_
            refine wpAny_take (i := 4) (v := (.bool false)) rfl (by kernel_rfl) (by kernel_rfl) (by kernel_rfl) (fun _ _ _ h => h) (Or.inl ⟨by kernel_rfl, fun w => by go_simp⟩) ?_
            refine wpAny_take (i := 5) (v := (.int .i64 (kk : Int))) rfl (by kernel_rfl) (by kernel_rfl) (by kernel_rfl) (fun _ _ _ h => h) (Or.inl ⟨by kernel_rfl, fun w => by go_simp⟩) ?_
            refine wpAny_take (i := 6) (v := (.slice A l.length c)) rfl (by kernel_rfl) (by kernel_rfl) (by kernel_rfl) (fun _ _ _ h => h) (Or.inl ⟨by kernel_rfl, fun w => by go_simp⟩) ?_
            refine wpAny_take (i := 7) (v := (.int .i64 (l.length : Int))) rfl (by kernel_rfl) (by kernel_rfl) (by kernel_rfl) (fun _ _ _ h => h) (Or.inl ⟨by kernel_rfl, fun w => by go_simp⟩) ?_
            refine wpAny_take (i := 8) (v := (.bool false)) rfl (by kernel_rfl) (by kernel_rfl) (by kernel_rfl) (fun _ _ _ h => h) (Or.inl ⟨by kernel_rfl, fun w => by go_simp⟩) ?_
            refine wpAny_take (i := 9) (v := (.bool false)) rfl (by kernel_rfl) (by kernel_rfl) (by kernel_rfl) (fun _ _ _ h => h) (Or.inl ⟨by kernel_rfl, fun w => by go_simp⟩) ?_
            refine wpAny_take (i := 10) (v := (.bool false)) rfl (by kernel_rfl) (by kernel_rfl) (by kernel_rfl) (fun _ _ _ h => h) (Or.inl ⟨by kernel_rfl, fun w => by go_simp⟩) ?_
            refine wpAny_take (i := 11) (v := (.string ⟨t.toArray⟩)) rfl (by kernel_rfl) (by kernel_rfl) (by kernel_rfl) (fun _ _ _ h => h) (Or.inl ⟨by kernel_rfl, fun w => by go_simp⟩) ?_
            refine wpAny_take (i := 13) (v := (.slice A l.length c)) rfl (by kernel_rfl) (by kernel_rfl) (by kernel_rfl) (fun _ _ _ h => h) (Or.inl ⟨by kernel_rfl, fun w => by go_simp⟩) ?_
            refine wpAny_take (i := 14) (v := (.int .i64 (kk : Int))) rfl (by kernel_rfl) (by kernel_rfl) (by kernel_rfl) (fun _ _ _ h => h) (Or.inl ⟨by kernel_rfl, fun w => by go_simp⟩) ?_
            refine wpAny_take (i := 15) (v := (.slice A kk c)) rfl (by kernel_rfl) (by kernel_rfl) (by kernel_rfl) (fun _ _ _ h => h) (Or.inl ⟨by kernel_rfl, fun w => by go_simp; intro hx; omega⟩) ?_
            refine wpAny_ready (rs := [12]) (by kernel_rfl) (by simp) ?_
            refine AllReady.cons rfl (fun K hK => ?_) AllReady.nil
            go_simp
            refine (put_t t _).mono ?_
            rintro e wb ⟨vb, rfl, hrowb, hbb⟩
            have hb : Below w.heap.size w wb := ha.trans ((show Below wa.heap.size wa wb from (((Below.refl _ wa).drew).trans hbb)).mono ha.size)
            have SB := Lib.hid (BSl.own hrowb)
            have LB := Lib.hid (BSl.start ((HL.out.below hb).mono hb.size) hkl)
            rw [← HPT.out] at LB
            have hptl := putL_len t
            clear hrowb hbb
            go_wp2_with fail
            refine wpAny_ready (rs := [16]) (by kernel_rfl) (by simp) ?_
            refine AllReady.cons rfl (fun K hK => ?_) AllReady.nil
            go_simp
            refine (same_any _ _ (putL t) (putL t) _ _ SB.out LB.out (Nat.le_refl _) (by omega) (by omega)).mono ?_
            rintro e wd ⟨rfl, hbd⟩
            have hd := hb.trans (hbd.mono hb.size)
            have htt : decide (putL t = putL t) = true := by simp
            rw [htt]
            clear hbd SB LB hb htt
            go_wp2_with fail
            refine wpAny_take (i := 17) (v := (.bool false)) rfl (by kernel_rfl) (by kernel_rfl) (by kernel_rfl) (fun _ _ _ h => h) (Or.inl ⟨by kernel_rfl, fun w => by go_simp⟩) ?_
            refine wpAny_take (i := 18) (v := (.bool false)) rfl (by kernel_rfl) (by kernel_rfl) (by kernel_rfl) (fun _ _ _ h => h) (Or.inl ⟨by kernel_rfl, fun w => by go_simp⟩) ?_
            refine wpAny_take (i := 19) (v := (.bool false)) rfl (by kernel_rfl) (by kernel_rfl) (by kernel_rfl) (fun _ _ _ h => h) (Or.inl ⟨by kernel_rfl, fun w => by go_simp⟩) ?_
            refine wpAny_take (i := 20) (v := (.bool false)) rfl (by kernel_rfl) (by kernel_rfl) (by kernel_rfl) (fun _ _ _ h => h) (Or.inl ⟨by kernel_rfl, fun w => by go_simp⟩) ?_
            refine wpAny_take (i := 21) (v := (.bool true)) rfl (by kernel_rfl) (by kernel_rfl) (by kernel_rfl) (fun _ _ _ h => h) (Or.inl ⟨by kernel_rfl, fun w => by go_simp⟩) ?_
            refine wpAny_take (i := 22) (v := (.bool false)) rfl (by kernel_rfl) (by kernel_rfl) (by kernel_rfl) (fun _ _ _ h => h) (Or.inl ⟨by kernel_rfl, fun w => by go_simp⟩) ?_
            refine wpAny_take (i := 23) (v := (.bool false)) rfl (by kernel_rfl) (by kernel_rfl) (by kernel_rfl) (fun _ _ _ h => h) (Or.inl ⟨by kernel_rfl, fun w => by go_simp⟩) ?_
            refine wpAny_take (i := 24) (v := undef) rfl (by kernel_rfl) (by kernel_rfl) (by kernel_rfl) (fun _ _ _ h => h) (Or.inr ⟨by kernel_rfl, rfl⟩) ?_
            refine wpAny_take (i := 25) (v := undef) rfl (by kernel_rfl) (by kernel_rfl) (by kernel_rfl) (fun _ _ _ h => h) (Or.inr ⟨by kernel_rfl, rfl⟩) ?_
            refine wpAny_take (i := 26) (v := undef) rfl (by kernel_rfl) (by kernel_rfl) (by kernel_rfl) (fun _ _ _ h => h) (Or.inr ⟨by kernel_rfl, rfl⟩) ?_
            refine wpAny_take (i := 27) (v := undef) rfl (by kernel_rfl) (by kernel_rfl) (by kernel_rfl) (fun _ _ _ h => h) (Or.inr ⟨by kernel_rfl, rfl⟩) ?_
            refine wpAny_take (i := 28) (v := undef) rfl (by kernel_rfl) (by kernel_rfl) (by kernel_rfl) (fun _ _ _ h => h) (Or.inr ⟨by kernel_rfl, rfl⟩) ?_
            refine wpAny_take (i := 29) (v := undef) rfl (by kernel_rfl) (by kernel_rfl) (by kernel_rfl) (fun _ _ _ h => h) (Or.inr ⟨by kernel_rfl, rfl⟩) ?_
            refine wpAny_take (i := 30) (v := (.bool false)) rfl (by kernel_rfl) (by kernel_rfl) (by kernel_rfl) (fun _ _ _ h => h) (Or.inl ⟨by kernel_rfl, fun w => by go_simp⟩) ?_
            refine wpAny_take (i := 31) (v := (.bool false)) rfl (by kernel_rfl) (by kernel_rfl) (by kernel_rfl) (fun _ _ _ h => h) (Or.inl ⟨by kernel_rfl, fun w => by go_simp⟩) ?_
            refine wpAny_done (by kernel_rfl) ?_ _
            go_simp
            go_wp2_with fail
            go_meet
            exact ⟨rfl, hd⟩
          case rest =>
            clear ha
            obtain ⟨rfl, hx⟩ := hcut
            obtain ⟨we, rfl⟩ : ∃ we, we = wc := ⟨_, rfl⟩
            obtain ⟨n0, n1⟩ := numV_bounds s.data.toList
            have hsz : s.size ≤ 140737488355328 := by omega
            have V1 := Lib.hid (HV.out.below hx)
            go_wp2_with fail
            refine (text_any n _ V1.out h0 h1).mono ?_
            rintro e wf ⟨rfl, hbf⟩
            have hf := hx.trans (hbf.mono hx.size)
            have V2 := Lib.hid (HV.out.below hf)
            clear hbf hx V1
            go_wp2_with fail
            refine (number_text n _ V2.out h0 h1).mono ?_
            rintro e wg ⟨rfl, hbg⟩
            have hg2 := hf.trans (hbg.mono hf.size)
            have V3 := Lib.hid (HV.out.below hg2)
            clear hbg hf V2
            go_wp2_with fail
            refine (number_any s _ V3.out hsz).mono ?_
            rintro e wh ⟨rfl, hbh⟩
            have hh := hg2.trans (hbh.mono hg2.size)
            have V4 := Lib.hid (HV.out.below hh)
            clear hbh hg2 V3
            have hsays := num_says s.data.toList
            obtain ⟨q, hq⟩ : ∃ q, numB s.data.toList = q := ⟨_, rfl⟩
            have hq2 : (Lib.itoa (numV s.data.toList) == s.toList) = q := by rw [← hq, hsays, ByteArray.toList_eq]; exact list_beq _ _
            rw [hq]
            generalize hnv : numV s.data.toList = nv at *
            clear hsays hq hnv
            go_wp2_with fail
            refine (text_any nv _ V4.out n0 n1).mono ?_
            rintro e wi ⟨rfl, hbi⟩
            have hi := hh.trans (hbi.mono hh.size)
            clear hbi hh V4
            cases q
            · go_wp2_with fail
              go_ret
              exact ⟨rfl, hi⟩
            · go_wp2_with fail
              go_ret
              exact ⟨rfl, hi⟩
end Go.Proofs.YtcdjefbeillfmaaDoor
