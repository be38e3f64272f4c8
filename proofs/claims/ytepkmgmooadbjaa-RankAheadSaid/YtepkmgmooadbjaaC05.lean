/- Texts of this proof, one behind the other. -/
import Derived.Test.YtepkmgmooadbjaaRows
import Derived.Deep.Slices
import Derived.Deep.Fields
import Derived.ChangeSame
import Derived.SizedLaws
import Derived.OpenShut
import Derived.Test.YtepkmgmooadbjaaC04
import Derived.Test.YtepkmgmooadbjaaC03
section
/- The law RankAhead: whatever lines; the walk. -/
namespace Go.Proofs.Ytepkmgmooadbjaa
open Go.ChangeShapes Go.WideShapes Go.ChangeAt Go.RowKit
set_option linter.unusedVariables false

def Uni (l : List Lt) : Prop := l.Pairwise (fun a b => a.id ≠ b.id)
theorem uni_nil : Uni [] := List.Pairwise.nil
theorem uni_succ {l : List Lt} {k : Nat} {x : Lt} (h : Uni (l.take k)) (hx : l[k]? = some x) (hn : ∀ y ∈ l.take k, y.id ≠ x.id) : Uni (l.take (k + 1)) := by
  unfold Uni at h ⊢
  rw [List.take_add_one, hx]
  refine List.pairwise_append.2 ⟨h, by simp, fun a ha b hb => ?_⟩
  simp at hb
  subst hb
  exact hn a ha
theorem uni_open {l out : List Lt} (h : Uni l) (hs : Stab (l.filter openB) out) : Uni out := by
  have h1 : Uni (l.filter openB) := h.sublist List.filter_sublist
  exact (hs.perm.pairwise_iff (fun {a b} hab => fun e => hab e.symm)).2 h1
theorem uni_get {m : List Lt} (h : Uni m) {i j : Nat} {x y : Lt} (hx : m[i]? = some x) (hy : m[j]? = some y) (hne : i ≠ j) : x.id ≠ y.id := by
  obtain ⟨hi, ex⟩ := List.getElem?_eq_some_iff.1 hx
  obtain ⟨hj, ey⟩ := List.getElem?_eq_some_iff.1 hy
  rcases Nat.lt_or_gt_of_ne hne with hlt | hgt
  · have := List.pairwise_iff_getElem.1 h i j hi hj hlt
    rwa [ex, ey] at this
  · have := List.pairwise_iff_getElem.1 h j i hj hi hgt
    rw [ex, ey] at this
    exact fun e => this e.symm
theorem cnt_zero {m : List Lt} {y : Lt} (h : y ∉ m) : cnt m y = 0 := by
  unfold cnt
  rw [List.length_eq_zero_iff, List.filter_eq_nil_iff]
  intro z hz
  simp only [decide_eq_true_eq]
  rintro rfl
  exact h hz
theorem cnt_mem : ∀ {m : List Lt}, Uni m → ∀ {y : Lt}, y ∈ m → cnt m y = 1
  | [], _, y, hy => by simp at hy
  | z :: m, h, y, hy => by
    obtain ⟨h1, h2⟩ := List.pairwise_cons.1 h
    by_cases e : z = y
    · subst e
      have hz : z ∉ m := fun hm => h1 z hm rfl
      have := cnt_zero hz
      unfold cnt at this ⊢
      rw [List.filter_cons_of_pos (by simp), List.length_cons, this]
    · have hy' : y ∈ m := by
        rcases List.mem_cons.1 hy with rfl | h'
        · exact absurd rfl e
        · exact h'
      have := cnt_mem h2 hy'
      unfold cnt at this ⊢
      rw [List.filter_cons_of_neg (by simpa using e), this]
theorem idx_at {out : List Lt} (h : Uni out) {k : Nat} {x : Lt} (hx : out[k]? = some x) : idxOf (idB x.id) out = k := by
  refine idxOf_hit _ _ k x hx (by simp [idB]) ?_
  rw [List.any_eq_false]
  intro y hy
  obtain ⟨j, hj⟩ := List.mem_iff_getElem?.1 hy
  rw [List.getElem?_take] at hj
  split at hj
  · rename_i hlt
    have := uni_get h hj hx (by omega)
    simp [idB, this]
  · cases hj
theorem ahead_at {out : List Lt} (h : Uni out) {k : Nat} {x : Lt} (hx : out[k]? = some x) : aheadL x.id out = out.take k := by
  unfold aheadL
  rw [idx_at h hx]; rfl
theorem ahead_nil (id : Int) : aheadL id [] = [] := rfl
/-- What is asked of each open line. -/
theorem ahead_one {out : List Lt} (h : Uni out) (hs : out.Pairwise (fun a b => cmpL a b ≤ 0)) {k i : Nat} {x y : Lt} (hx : out[k]? = some x) (hy : out[i]? = some y) :
    decide (cmpL y x < 0) = ((cnt (out.take k) y : Int) == 1) ∧ (y ≠ x → (cmpL y x == 0) = false) := by
  obtain ⟨hk, ex⟩ := List.getElem?_eq_some_iff.1 hx
  obtain ⟨hi, ey⟩ := List.getElem?_eq_some_iff.1 hy
  have hut : Uni (out.take k) := h.sublist (List.take_sublist _ _)
  refine ⟨?_, fun hne => ?_⟩
  · by_cases hlt : i < k
    · have hm : y ∈ out.take k := List.mem_iff_getElem?.2 ⟨i, by rw [List.getElem?_take_of_lt hlt]; exact hy⟩
      rw [cnt_mem hut hm]
      have h1 := List.pairwise_iff_getElem.1 hs i k hi hk hlt
      rw [ex, ey] at h1
      have h2 : cmpL y x ≠ 0 := fun e => uni_get h hy hx (by omega) ((cmpL_zero y x).1 e).2
      rw [decide_eq_true (by omega)]
      rfl
    · have hm : y ∉ out.take k := fun hm => by
        obtain ⟨j, hj⟩ := List.mem_iff_getElem?.1 hm
        rw [List.getElem?_take] at hj
        split at hj
        · exact uni_get h hj hy (by omega) rfl
        · cases hj
      rw [cnt_zero hm]
      have h2 : ¬ cmpL y x < 0 := by
        by_cases e : i = k
        · subst e
          rw [hx] at hy; cases hy
          have := (cmpL_zero x x).2 ⟨rfl, rfl⟩
          omega
        · have h1 := List.pairwise_iff_getElem.1 hs k i hk hi (by omega)
          rw [ex, ey] at h1
          have := cmpL_anti y x
          omega
      rw [decide_eq_false h2]
      rfl
  · have h2 : cmpL y x ≠ 0 := fun e => by
      by_cases e' : i = k
      · subst e'
        rw [hx] at hy; cases hy
        exact hne rfl
      · exact uni_get h hy hx e' ((cmpL_zero y x).1 e).2
    simpa using h2

set_option maxRecDepth 100000 in
set_option maxHeartbeats 8000000 in
theorem aheadLaw_any (v : Value) (l : List Lt) (pick : Int) (w : World) (hv : LSl w w.heap.size v l) (hs : Sized l) (hlen : l.length ≤ 140737488355328)
    (hp1 : -9223372036854775808 ≤ pick) (hp2 : pick ≤ 9223372036854775807) :
    Calls Try.prog 5 #[v, .int .i64 pick] w fun e w' => e = .returned (.bool true) ∧ Below w.heap.size w w' := by
  have HV := Lib.hid hv
  have HS : Hid (Sized l) := Lib.hid hs
  have HL := Lib.hid hlen
  have HP := Lib.hid (And.intro hp1 hp2)
  clear hv hs hlen hp1 hp2
  go_enter Try.func5, Try.ntmps5
  go_wp2_with (first
    | (go_at_call 10; ((with_reducible refine (awake_any _).mono ?_); rintro e w1 ⟨rfl, hb1⟩; have HB1 := Lib.hid hb1; clear hb1))
    | (go_at_call 11; fail))
  refine (great_any v l w1 (HV.out.at_ HB1.out) HS.out HL.out).mono ?_
  rintro e wg ⟨bg, rfl, hbg, hfew⟩
  have HG := Lib.hid (below_two HB1.out hbg)
  clear hbg
  cases bg
  · have hl400 : l.length ≤ 400 := hfew rfl
    clear hfew HB1
    obtain ⟨A0, c0, rfl, hcc1, hcc2, _⟩ := id HV.out
    have HVg := Lib.hid (HV.out.at_ HG.out)
    go_wp2
    go_loopw [5] (fun i wr => ∃ k : Nat, k ≤ l.length ∧ i = .int .i64 k ∧ Hid (Uni (l.take k)) ∧ Hid (Below wg.heap.size wg wr)) (fun i _ => l.length - (intOf i).toNat)
    case atStart => exact ⟨0, Nat.zero_le _, rfl, Lib.hid uni_nil, Lib.hid (Below.refl _ _)⟩
    case round =>
      obtain ⟨k, hk, rfl, HU, HB⟩ := hrel
      by_cases hlt : k < l.length
      · obtain ⟨x, hx⟩ : ∃ x, l[k]? = some x := ⟨_, List.getElem?_eq_getElem hlt⟩
        have HX := Lib.hid hx
        clear hx
        obtain ⟨wo, hwo⟩ : ∃ W, W = wr := ⟨_, rfl⟩
        rw [← hwo] at HB ⊢
        have HVo := Lib.hid (HVg.out.at_ HB.out)
        clear hwo
        go_wp2
        go_loopw [6] (fun i wr => ∃ j : Nat, j ≤ k ∧ i = .int .i64 j ∧ Hid (∀ y ∈ l.take j, y.id ≠ x.id) ∧ Hid (Below wo.heap.size wo wr)) (fun i _ => k - (intOf i).toNat)
        case atStart => exact ⟨0, Nat.zero_le _, rfl, Lib.hid (by simp), Lib.hid (Below.refl _ _)⟩
        case round =>
          obtain ⟨j, hj, rfl, HN, HBj⟩ := hrel
          by_cases hltj : j < k
          · obtain ⟨y, hy⟩ : ∃ y, l[j]? = some y := ⟨_, List.getElem?_eq_getElem (by omega)⟩
            obtain ⟨ad, had, hab, d0, _⟩ := (HVo.out.below HBj.out).six HX.out
            obtain ⟨ad2, had2, hab2, f0, _⟩ := (HVo.out.below HBj.out).six hy
            have HY := Lib.hid hy
            have hltI : (k : Int) < (l.length : Int) := by omega
            have hltJ : (j : Int) < (l.length : Int) := by omega
            have hltJK : decide ((j : Int) < (k : Int)) = true := decide_eq_true (by omega)
            subst had
            cases had2
            clear hy hab2
            by_cases he : x.id = y.id
            · have hb : (x.id == y.id) = true := by simp [he]
              clear he
              go_wp2
              go_region
              go_wp2
              go_ret
              exact ⟨rfl, (HG.out.trans (HB.out.mono HG.out.size)).trans (below_draws (HBj.out.mono (Nat.le_trans HG.out.size HB.out.size)) 1)⟩
            · have hb : (x.id == y.id) = false := by simpa using he
              have HE := Lib.hid he
              clear he
              go_wp2
              go_region
              go_wp2
              go_roundw
              case rel => exact ⟨j + 1, by omega, by go_num, Lib.hid (by
                intro z hz
                rw [List.take_add_one, HY.out] at hz
                simp only [Option.toList, List.mem_append, List.mem_singleton] at hz
                exact hz.elim (HN.out z) (fun h => by subst h; exact fun e => HE.out e.symm)), Lib.hid (below_draws HBj.out 1)⟩
              case measure => simp [intOf]; omega
          · obtain rfl : j = k := by omega
            have hltJK : decide ((j : Int) < (j : Int)) = false := by simp
            have HU2 := Lib.hid (uni_succ HU.out HX.out HN.out)
            have HB2 := Lib.hid (below_two HB.out HBj.out)
            clear HU HN HB HBj
            go_wp2
            go_roundw
            case rel => exact ⟨j + 1, by omega, by go_num, HU2, by first | exact HB2 | exact Lib.hid (HB2.out.mono (Nat.le_refl _))⟩
            case measure => simp [intOf]; omega
      · obtain rfl : k = l.length := by omega
        have HU2 : Hid (Uni l) := Lib.hid (by have := HU.out; rwa [List.take_length] at this)
        have HGr := Lib.hid (below_two HG.out HB.out)
        have HVr := Lib.hid (HVg.out.at_ HB.out)
        clear HU HB HVg HG
        obtain ⟨w2, hw2⟩ : ∃ W, W = wr := ⟨_, rfl⟩
        rw [← hw2] at HGr HVr ⊢
        clear hw2
        go_wp2_with fail
        refine (open_any _ l w2 (by omega) HVr.out).mono ?_
        rintro e w3 ⟨sv, out, rfl, hst, ho, hb3⟩
        have HST := Lib.hid hst
        have HO3 := Lib.hid (LSl.own ho)
        have HB3 := Lib.hid (below_two HGr.out hb3)
        have HV3 := Lib.hid (HVr.out.at_ hb3)
        have HUo := Lib.hid (uni_open HU2.out hst)
        have ho400 := Nat.le_trans (open_le hst) hl400
        obtain ⟨A2, c2, rfl, hd1, hd2, _⟩ := own_form ho
        clear hst ho hb3 HVr HGr HU2
        by_cases h0 : out.length = 0
        · have hz : ((out.length : Int) == 0) = true := by simp [h0]
          have H0 := Lib.hid h0
          clear h0
          go_wp2_with fail
          refine (ahead_any pick _ l w3 (by omega) (by omega) HV3.out).mono ?_
          rintro e w4 ⟨v4, out4, rfl, hs4, hc4, hb4⟩
          obtain rfl := hs4.unique HST.out
          obtain ⟨A4, c4, rfl, _⟩ := hc4.lsl
          have hzl : (aheadL pick out4).length = 0 := by rw [List.eq_nil_of_length_eq_zero H0.out]; rfl
          rw [hzl]
          have HB4 := Lib.hid (below_two HB3.out hb4)
          clear hc4 hs4 hb4 hzl
          go_wp2
          go_ret
          exact ⟨rfl, HB4.out⟩
        · have hz : ((out.length : Int) == 0) = false := by simpa using h0
          have h1o : 1 ≤ out.length := by omega
          clear h0
          go_wp2_with fail
          refine (pick_any pick out.length w3 h1o (by omega) HP.out.1 HP.out.2).mono ?_
          rintro e w4 ⟨kk, hkk, rfl, rfl⟩
          obtain ⟨x, hx⟩ : ∃ x, out[kk]? = some x := ⟨_, List.getElem?_eq_getElem hkk⟩
          obtain ⟨ad, rfl, hab, x0, x1, x2, x3, x4, x5, x6, x7⟩ := HO3.out.six hx
          have hkI : (kk : Int) < (out.length : Int) := by omega
          have hbx : Box6 (w3.alloc (objX x)) w3.heap.size x := Box6.new w3 x
          have HX := Lib.hid hx
          have HBX := Lib.hid hbx
          have hxx : CmpRun false x x := fun w => by have := neq_lot x x w; simp only [decide_true, Bool.not_true] at this; exact this
          unfold CmpRun at hxx
          have hbs : w3.heap.size < (w3.alloc (objX x)).heap.size := by simp
          have hb34 := below_alloc1 w3 (objX x)
          have HO4 := Lib.hid (HO3.out.at_ hb34)
          have HV4 := Lib.hid (HV3.out.at_ hb34)
          have HB4 := Lib.hid (below_two HB3.out hb34)
          have hah := ahead_any x.id _ l (w3.alloc (objX x)) (by omega) (by omega) HV4.out
          have HAH := Lib.hid hah
          clear hah hx hbx hb34
          go_wp2_with fail
          refine HAH.out.mono ?_
          rintro e w5 ⟨v5, out5, rfl, hs5, hc5, hb5⟩
          obtain rfl := hs5.unique HST.out
          rw [ahead_at HUo.out HX.out] at hc5
          have hlk : (out5.take kk).length = kk := by rw [List.length_take]; omega
          have hl5 := hc5.lsl
          obtain ⟨A5, c5, hv5, hk1, hk2, _⟩ := id hl5
          rw [hlk] at hv5 hk1
          subst hv5
          have HA5 := Lib.hid hl5
          have HO5 := Lib.hid (HO4.out.at_ hb5)
          have HB5 := Lib.hid (below_two HB4.out hb5)
          have HX5 := Lib.hid (HBX.out.below hbs hb5)
          have hle5 : Hid (LSl w5 w5.heap.size (.slice (some ad) kk c2) (out5.take kk)) := Lib.hid (by
            obtain ⟨A', c', hv', h1', h2', h3', h4'⟩ := HO5.out
            injection hv' with hA' _ hc'
            subst hA' hc'
            refine ⟨_, _, by rw [hlk], by omega, h2', h3', ?_⟩
            rw [← lcells_take _ _ (Nat.le_of_lt hkk)]
            exact h4'.take_ _)
          have hsame : ∀ W, Below w5.heap.size w5 W → Calls Try.prog 13 #[.slice A5 kk c5, .slice (some ad) kk c2] W fun e w' => e = .returned (.bool true) ∧ Below W.heap.size W w' := fun W hW =>
            same_yes (out5.take kk) _ _ W (HA5.out.at_ hW) (hle5.out.at_ hW) (by omega)
          have HSM := Lib.hid hsame
          have hge : decide ((out5.length : Int) ≤ (kk : Int)) = false := decide_eq_false (by omega)
          have hkc : kk ≤ c2 := by omega
          generalize hB : w3.heap.size = Bx at HX5 ⊢
          clear hlk hl5 hc5 hs5 hb5 hsame HAH HBX HV4 HB4 HO4 HV3 HB3 HO3 hbs
          go_upto_region 18 with (fail)
          go_cut [80] (fun v wx => v = .bool false ∧ Below w5.heap.size w5 wx)
          case first =>
            have hS : (fun w' => Below w5.heap.size w5 w') w5.drew := (Below.refl _ _).drew
            refine wp_region_held_drew (S := fun w' => Below w5.heap.size w5 w') (by kernel_rfl) hS (fun hS => ?_)
            refine wpAnyH_take (i := 0) (v := ((.slice A5 kk c5))) rfl (by kernel_rfl) (by kernel_rfl) (by kernel_rfl) (fun _ _ _ h => h) (Or.inl ⟨by kernel_rfl, fun w' hS' => by go_simp⟩) hS ?_
            refine wpAnyH_take (i := 1) (v := ((.int .i64 (kk : Int)))) rfl (by kernel_rfl) (by kernel_rfl) (by kernel_rfl) (fun _ _ _ h => h) (Or.inl ⟨by kernel_rfl, fun w' hS' => by go_simp⟩) hS ?_
            refine wpAnyH_take (i := 2) (v := ((.slice (some ad) out5.length c2))) rfl (by kernel_rfl) (by kernel_rfl) (by kernel_rfl) (fun _ _ _ h => h) (Or.inl ⟨by kernel_rfl, fun w' hS' => by go_simp⟩) hS ?_
            refine wpAnyH_take (i := 3) (v := ((.int .i64 (out5.length : Int)))) rfl (by kernel_rfl) (by kernel_rfl) (by kernel_rfl) (fun _ _ _ h => h) (Or.inl ⟨by kernel_rfl, fun w' hS' => by go_simp⟩) hS ?_
            refine wpAnyH_take (i := 4) (v := ((.bool false))) rfl (by kernel_rfl) (by kernel_rfl) (by kernel_rfl) (fun _ _ _ h => h) (Or.inl ⟨by kernel_rfl, fun w' hS' => by go_simp⟩) hS ?_
            refine wpAnyH_take (i := 5) (v := ((.bool false))) rfl (by kernel_rfl) (by kernel_rfl) (by kernel_rfl) (fun _ _ _ h => h) (Or.inl ⟨by kernel_rfl, fun w' hS' => by go_simp⟩) hS ?_
            refine wpAnyH_take (i := 6) (v := ((.slice A5 kk c5))) rfl (by kernel_rfl) (by kernel_rfl) (by kernel_rfl) (fun _ _ _ h => h) (Or.inl ⟨by kernel_rfl, fun w' hS' => by go_simp⟩) hS ?_
            refine wpAnyH_take (i := 7) (v := ((.slice (some ad) out5.length c2))) rfl (by kernel_rfl) (by kernel_rfl) (by kernel_rfl) (fun _ _ _ h => h) (Or.inl ⟨by kernel_rfl, fun w' hS' => by go_simp⟩) hS ?_
            refine wpAnyH_take (i := 8) (v := ((.slice A5 kk c5))) rfl (by kernel_rfl) (by kernel_rfl) (by kernel_rfl) (fun _ _ _ h => h) (Or.inl ⟨by kernel_rfl, fun w' hS' => by go_simp⟩) hS ?_
            refine wpAnyH_take (i := 9) (v := ((.int .i64 (kk : Int)))) rfl (by kernel_rfl) (by kernel_rfl) (by kernel_rfl) (fun _ _ _ h => h) (Or.inl ⟨by kernel_rfl, fun w' hS' => by go_simp⟩) hS ?_
            refine wpAnyH_take (i := 10) (v := ((.slice (some ad) kk c2))) rfl (by kernel_rfl) (by kernel_rfl) (by kernel_rfl) (fun _ _ _ h => h) (Or.inl ⟨by kernel_rfl, fun w' hS' => by go_simp⟩) hS ?_
            refine wpAnyH_ready (rs := [11]) (by kernel_rfl) (by simp) ?_
            refine AllReadyH.cons rfl (fun K hK => ?_) AllReadyH.nil
            go_simp
            refine (HSM.out _ hS).mono ?_
            rintro e w6 ⟨rfl, hby⟩
            refine hK.out _ _ (hS.trans (hby.mono hS.size)) (fun hS => ?_)
            clear hK K hby
            refine wpAnyH_take (i := 12) (v := ((.bool false))) rfl (by kernel_rfl) (by kernel_rfl) (by kernel_rfl) (fun _ _ _ h => h) (Or.inl ⟨by kernel_rfl, fun w' hS' => by go_simp⟩) hS ?_
            refine wpAnyH_take (i := 13) (v := ((.bool false))) rfl (by kernel_rfl) (by kernel_rfl) (by kernel_rfl) (fun _ _ _ h => h) (Or.inl ⟨by kernel_rfl, fun w' hS' => by go_simp⟩) hS ?_
            refine wpAnyH_take (i := 14) (v := ((.bool false))) rfl (by kernel_rfl) (by kernel_rfl) (by kernel_rfl) (fun _ _ _ h => h) (Or.inl ⟨by kernel_rfl, fun w' hS' => by go_simp⟩) hS ?_
            refine wpAnyH_take (i := 15) (v := ((.slice (some ad) out5.length c2))) rfl (by kernel_rfl) (by kernel_rfl) (by kernel_rfl) (fun _ _ _ h => h) (Or.inl ⟨by kernel_rfl, fun w' hS' => by go_simp⟩) hS ?_
            refine wpAnyH_take (i := 16) (v := ((.slice A5 kk c5))) rfl (by kernel_rfl) (by kernel_rfl) (by kernel_rfl) (fun _ _ _ h => h) (Or.inl ⟨by kernel_rfl, fun w' hS' => by go_simp⟩) hS ?_
            refine wpAnyH_take (i := 17) (v := ((.int .i64 (kk : Int)))) rfl (by kernel_rfl) (by kernel_rfl) (by kernel_rfl) (fun _ _ _ h => h) (Or.inl ⟨by kernel_rfl, fun w' hS' => by go_simp⟩) hS ?_
            refine wpAnyH_take (i := 18) (v := ((.pointer (some (ad.add (kk * 8)))))) rfl (by kernel_rfl) (by kernel_rfl) (by kernel_rfl) (fun _ _ _ h => h) (Or.inl ⟨by kernel_rfl, fun w' hS' => by go_simp; try (intro h; exact absurd h (by omega))⟩) hS ?_
            refine wpAnyH_take (i := 19) (v := ((agX x))) rfl (by kernel_rfl) (by kernel_rfl) (by kernel_rfl) (fun _ _ _ h => h) (Or.inl ⟨by kernel_rfl, fun w' hS' => by have hL := (HO5.out.below hS').six HX.out; obtain ⟨ad', had, _, d0, d1, d2, d3, d4, d5, d6, d7⟩ := hL; cases had; go_simp⟩) hS ?_
            refine wpAnyH_take (i := 20) (v := ((agX x))) rfl (by kernel_rfl) (by kernel_rfl) (by kernel_rfl) (fun _ _ _ h => h) (Or.inl ⟨by kernel_rfl, fun w' hS' => by have hL := (HX5.out.below HX5.out.lt hS').cells; obtain ⟨d0, d1, d2, d3, d4, d5, d6, d7⟩ := hL; go_simp⟩) hS ?_
            refine wpAnyH_take (i := 21) (v := ((.bool false))) rfl (by kernel_rfl) (by kernel_rfl) (by kernel_rfl) (fun _ _ _ h => h) (Or.inl ⟨by kernel_rfl, fun w' hS' => by go_simp⟩) hS ?_
            refine wpAnyH_take (i := 22) (v := ((.bool false))) rfl (by kernel_rfl) (by kernel_rfl) (by kernel_rfl) (fun _ _ _ h => h) (Or.inl ⟨by kernel_rfl, fun w' hS' => by go_simp⟩) hS ?_
            refine wpAnyH_done (by kernel_rfl) ?_ _
            go_simp
            go_wp2_with fail
            go_meet
            exact ⟨rfl, hS⟩
          case rest =>
            obtain ⟨rfl, hbx⟩ := hcut
            obtain ⟨w6, hw6⟩ : ∃ W, W = wc := ⟨_, rfl⟩
            rw [← hw6] at hbx ⊢
            have HO6 := Lib.hid (HO5.out.at_ hbx)
            have HA6 := Lib.hid (HA5.out.at_ hbx)
            have HX6 := Lib.hid (HX5.out.below HX5.out.lt hbx)
            have HB6 := Lib.hid (below_two HB5.out hbx)
            have HPS := Lib.hid HST.out.pairs
            clear hbx hw6 HO5 HA5 HX5 HB5 HSM hle5 hxx hge
            go_wp2
            go_loopw [10] (fun i wr => ∃ k : Nat, k ≤ out5.length ∧ i = .int .i64 k ∧ Hid (Below w6.heap.size w6 wr)) (fun i _ => out5.length - (intOf i).toNat)
            case atStart => exact ⟨0, Nat.zero_le _, rfl, Lib.hid (Below.refl _ _)⟩
            case round =>
              obtain ⟨k, hk, rfl, HB⟩ := hrel
              by_cases hlt : k < out5.length
              · obtain ⟨y, hy⟩ : ∃ y, out5[k]? = some y := ⟨_, List.getElem?_eq_getElem hlt⟩
                obtain ⟨hq1, hq2⟩ := ahead_one HUo.out HPS.out HX.out hy
                have HY := Lib.hid hy
                have hcv : ∀ W, Calls Try.prog 8 #[agX y, agX x] W fun e w' => e = .returned (.int .i64 (cmpL y x)) ∧ Below W.heap.size W w' := fun W => compare_any y x W
                have hcc : ∀ W, Below w6.heap.size w6 W → Calls Try.prog 14 #[.slice A5 kk c5, agX y] W fun e w' => e = .returned (.int .i64 (cnt (out5.take kk) y)) ∧ Below W.heap.size W w' := fun W hW => count_any _ _ y W (HA6.out.at_ hW) (by rw [List.length_take]; omega)
                generalize cmpL y x = cv at hq1 hq2 hcv
                generalize cnt (out5.take kk) y = nx at hq1 hcc
                obtain ⟨b, hb1⟩ : ∃ b, decide (cv < 0) = b := ⟨_, rfl⟩
                have hb2 : ((nx : Int) == 1) = b := by rw [← hq1]; exact hb1
                have HCV := Lib.hid hcv
                have HCC := Lib.hid hcc
                have hltI : (k : Int) < (out5.length : Int) := by omega
                clear hy hq1 hcv hcc
                go_upto_region 23 with (fail)
                go_cut [118] (fun v wx => v = .bool false ∧ Below w6.heap.size w6 wx)
                case first =>
                  have hS : (fun w' => Below w6.heap.size w6 w') wr.drew := HB.out.drew
                  by_cases hyx : y = x
                  · have hne : CmpRun false y x := fun w => by have := neq_lot y x w; rw [decide_eq_true hyx] at this; exact this
                    unfold CmpRun at hne
                    clear hyx hq2
                    refine wp_region_held_drew (S := fun w' => Below w6.heap.size w6 w') (by kernel_rfl) hS (fun hS => ?_)
                    refine wpAnyH_take (i := 0) (v := ((.slice (some ad) out5.length c2))) rfl (by kernel_rfl) (by kernel_rfl) (by kernel_rfl) (fun _ _ _ h => h) (Or.inl ⟨by kernel_rfl, fun w' hS' => by go_simp⟩) hS ?_
                    refine wpAnyH_take (i := 1) (v := ((.int .i64 (k : Int)))) rfl (by kernel_rfl) (by kernel_rfl) (by kernel_rfl) (fun _ _ _ h => h) (Or.inl ⟨by kernel_rfl, fun w' hS' => by go_simp⟩) hS ?_
                    refine wpAnyH_take (i := 2) (v := ((.pointer (some (ad.add (k * 8)))))) rfl (by kernel_rfl) (by kernel_rfl) (by kernel_rfl) (fun _ _ _ h => h) (Or.inl ⟨by kernel_rfl, fun w' hS' => by go_simp; try (intro h; exact absurd h (by omega))⟩) hS ?_
                    refine wpAnyH_take (i := 3) (v := ((agX y))) rfl (by kernel_rfl) (by kernel_rfl) (by kernel_rfl) (fun _ _ _ h => h) (Or.inl ⟨by kernel_rfl, fun w' hS' => by have hL := (HO6.out.below hS').six HY.out; obtain ⟨ad', had, _, d0, d1, d2, d3, d4, d5, d6, d7⟩ := hL; cases had; go_simp⟩) hS ?_
                    refine wpAnyH_take (i := 4) (v := ((agX x))) rfl (by kernel_rfl) (by kernel_rfl) (by kernel_rfl) (fun _ _ _ h => h) (Or.inl ⟨by kernel_rfl, fun w' hS' => by have hL := (HX6.out.below HX6.out.lt hS').cells; obtain ⟨d0, d1, d2, d3, d4, d5, d6, d7⟩ := hL; go_simp⟩) hS ?_
                    refine wpAnyH_take (i := 7) (v := ((.slice A5 kk c5))) rfl (by kernel_rfl) (by kernel_rfl) (by kernel_rfl) (fun _ _ _ h => h) (Or.inl ⟨by kernel_rfl, fun w' hS' => by go_simp⟩) hS ?_
                    refine wpAnyH_take (i := 8) (v := ((.slice (some ad) out5.length c2))) rfl (by kernel_rfl) (by kernel_rfl) (by kernel_rfl) (fun _ _ _ h => h) (Or.inl ⟨by kernel_rfl, fun w' hS' => by go_simp⟩) hS ?_
                    refine wpAnyH_take (i := 9) (v := ((.int .i64 (k : Int)))) rfl (by kernel_rfl) (by kernel_rfl) (by kernel_rfl) (fun _ _ _ h => h) (Or.inl ⟨by kernel_rfl, fun w' hS' => by go_simp⟩) hS ?_
                    refine wpAnyH_take (i := 10) (v := ((.pointer (some (ad.add (k * 8)))))) rfl (by kernel_rfl) (by kernel_rfl) (by kernel_rfl) (fun _ _ _ h => h) (Or.inl ⟨by kernel_rfl, fun w' hS' => by go_simp; try (intro h; exact absurd h (by omega))⟩) hS ?_
                    refine wpAnyH_take (i := 11) (v := ((agX y))) rfl (by kernel_rfl) (by kernel_rfl) (by kernel_rfl) (fun _ _ _ h => h) (Or.inl ⟨by kernel_rfl, fun w' hS' => by have hL := (HO6.out.below hS').six HY.out; obtain ⟨ad', had, _, d0, d1, d2, d3, d4, d5, d6, d7⟩ := hL; cases had; go_simp⟩) hS ?_
                    refine wpAnyH_ready (rs := [5]) (by kernel_rfl) (by simp) ?_
                    refine AllReadyH.cons rfl (fun K hK => ?_) AllReadyH.nil
                    go_simp
                    refine (HCV.out _).mono ?_
                    rintro e w7 ⟨rfl, hby⟩
                    refine hK.out _ _ (hS.trans (hby.mono hS.size)) (fun hS => ?_)
                    clear hK K hby
                    refine wpAnyH_take (i := 6) (v := ((.bool b))) rfl (by kernel_rfl) (by kernel_rfl) (by kernel_rfl) (fun _ _ _ h => h) (Or.inl ⟨by kernel_rfl, fun w' hS' => by go_simp⟩) hS ?_
                    refine wpAnyH_ready (rs := [12]) (by kernel_rfl) (by simp) ?_
                    refine AllReadyH.cons rfl (fun K hK => ?_) AllReadyH.nil
                    go_simp
                    refine (HCC.out _ hS).mono ?_
                    rintro e w8 ⟨rfl, hby⟩
                    refine hK.out _ _ (hS.trans (hby.mono hS.size)) (fun hS => ?_)
                    clear hK K hby
                    refine wpAnyH_take (i := 13) (v := ((.bool b))) rfl (by kernel_rfl) (by kernel_rfl) (by kernel_rfl) (fun _ _ _ h => h) (Or.inl ⟨by kernel_rfl, fun w' hS' => by go_simp⟩) hS ?_
                    refine wpAnyH_take (i := 14) (v := ((.bool false))) rfl (by kernel_rfl) (by kernel_rfl) (by kernel_rfl) (fun _ _ _ h => h) (Or.inl ⟨by kernel_rfl, fun w' hS' => by cases b <;> go_simp⟩) hS ?_
                    refine wpAnyH_take (i := 15) (v := ((.bool false))) rfl (by kernel_rfl) (by kernel_rfl) (by kernel_rfl) (fun _ _ _ h => h) (Or.inl ⟨by kernel_rfl, fun w' hS' => by go_simp⟩) hS ?_
                    refine wpAnyH_take (i := 16) (v := ((.slice (some ad) out5.length c2))) rfl (by kernel_rfl) (by kernel_rfl) (by kernel_rfl) (fun _ _ _ h => h) (Or.inl ⟨by kernel_rfl, fun w' hS' => by go_simp⟩) hS ?_
                    refine wpAnyH_take (i := 17) (v := ((.int .i64 (k : Int)))) rfl (by kernel_rfl) (by kernel_rfl) (by kernel_rfl) (fun _ _ _ h => h) (Or.inl ⟨by kernel_rfl, fun w' hS' => by go_simp⟩) hS ?_
                    refine wpAnyH_take (i := 18) (v := ((.pointer (some (ad.add (k * 8)))))) rfl (by kernel_rfl) (by kernel_rfl) (by kernel_rfl) (fun _ _ _ h => h) (Or.inl ⟨by kernel_rfl, fun w' hS' => by go_simp; try (intro h; exact absurd h (by omega))⟩) hS ?_
                    refine wpAnyH_take (i := 19) (v := ((agX y))) rfl (by kernel_rfl) (by kernel_rfl) (by kernel_rfl) (fun _ _ _ h => h) (Or.inl ⟨by kernel_rfl, fun w' hS' => by have hL := (HO6.out.below hS').six HY.out; obtain ⟨ad', had, _, d0, d1, d2, d3, d4, d5, d6, d7⟩ := hL; cases had; go_simp⟩) hS ?_
                    refine wpAnyH_take (i := 20) (v := ((agX x))) rfl (by kernel_rfl) (by kernel_rfl) (by kernel_rfl) (fun _ _ _ h => h) (Or.inl ⟨by kernel_rfl, fun w' hS' => by have hL := (HX6.out.below HX6.out.lt hS').cells; obtain ⟨d0, d1, d2, d3, d4, d5, d6, d7⟩ := hL; go_simp⟩) hS ?_
                    refine wpAnyH_take (i := 21) (v := ((.bool false))) rfl (by kernel_rfl) (by kernel_rfl) (by kernel_rfl) (fun _ _ _ h => h) (Or.inl ⟨by kernel_rfl, fun w' hS' => by go_simp⟩) hS ?_
                    refine wpAnyH_take (i := 22) (v := ((.bool false))) rfl (by kernel_rfl) (by kernel_rfl) (by kernel_rfl) (fun _ _ _ h => h) (Or.inl ⟨by kernel_rfl, fun w' hS' => by go_simp⟩) hS ?_
                    refine wpAnyH_take (i := 23) (v := (undef)) rfl (by kernel_rfl) (by kernel_rfl) (by kernel_rfl) (fun _ _ _ h => h) (Or.inr ⟨by kernel_rfl, rfl⟩) hS ?_
                    refine wpAnyH_take (i := 24) (v := (undef)) rfl (by kernel_rfl) (by kernel_rfl) (by kernel_rfl) (fun _ _ _ h => h) (Or.inr ⟨by kernel_rfl, rfl⟩) hS ?_
                    refine wpAnyH_take (i := 25) (v := (undef)) rfl (by kernel_rfl) (by kernel_rfl) (by kernel_rfl) (fun _ _ _ h => h) (Or.inr ⟨by kernel_rfl, rfl⟩) hS ?_
                    refine wpAnyH_take (i := 26) (v := (undef)) rfl (by kernel_rfl) (by kernel_rfl) (by kernel_rfl) (fun _ _ _ h => h) (Or.inr ⟨by kernel_rfl, rfl⟩) hS ?_
                    refine wpAnyH_take (i := 27) (v := (undef)) rfl (by kernel_rfl) (by kernel_rfl) (by kernel_rfl) (fun _ _ _ h => h) (Or.inr ⟨by kernel_rfl, rfl⟩) hS ?_
                    refine wpAnyH_take (i := 28) (v := (undef)) rfl (by kernel_rfl) (by kernel_rfl) (by kernel_rfl) (fun _ _ _ h => h) (Or.inr ⟨by kernel_rfl, rfl⟩) hS ?_
                    refine wpAnyH_take (i := 29) (v := (undef)) rfl (by kernel_rfl) (by kernel_rfl) (by kernel_rfl) (fun _ _ _ h => h) (Or.inr ⟨by kernel_rfl, rfl⟩) hS ?_
                    refine wpAnyH_take (i := 30) (v := ((.bool false))) rfl (by kernel_rfl) (by kernel_rfl) (by kernel_rfl) (fun _ _ _ h => h) (Or.inl ⟨by kernel_rfl, fun w' hS' => by go_simp⟩) hS ?_
                    refine wpAnyH_take (i := 31) (v := ((.bool false))) rfl (by kernel_rfl) (by kernel_rfl) (by kernel_rfl) (fun _ _ _ h => h) (Or.inl ⟨by kernel_rfl, fun w' hS' => by go_simp⟩) hS ?_
                    refine wpAnyH_done (by kernel_rfl) ?_ _
                    go_simp
                    go_wp2_with fail
                    go_meet
                    exact ⟨rfl, hS⟩
                  · have hne : CmpRun true y x := fun w => by have := neq_lot y x w; rw [decide_eq_false hyx] at this; exact this
                    unfold CmpRun at hne
                    have hcz := hq2 hyx
                    clear hyx hq2
                    refine wp_region_held_drew (S := fun w' => Below w6.heap.size w6 w') (by kernel_rfl) hS (fun hS => ?_)
                    refine wpAnyH_take (i := 0) (v := ((.slice (some ad) out5.length c2))) rfl (by kernel_rfl) (by kernel_rfl) (by kernel_rfl) (fun _ _ _ h => h) (Or.inl ⟨by kernel_rfl, fun w' hS' => by go_simp⟩) hS ?_
                    refine wpAnyH_take (i := 1) (v := ((.int .i64 (k : Int)))) rfl (by kernel_rfl) (by kernel_rfl) (by kernel_rfl) (fun _ _ _ h => h) (Or.inl ⟨by kernel_rfl, fun w' hS' => by go_simp⟩) hS ?_
                    refine wpAnyH_take (i := 2) (v := ((.pointer (some (ad.add (k * 8)))))) rfl (by kernel_rfl) (by kernel_rfl) (by kernel_rfl) (fun _ _ _ h => h) (Or.inl ⟨by kernel_rfl, fun w' hS' => by go_simp; try (intro h; exact absurd h (by omega))⟩) hS ?_
                    refine wpAnyH_take (i := 3) (v := ((agX y))) rfl (by kernel_rfl) (by kernel_rfl) (by kernel_rfl) (fun _ _ _ h => h) (Or.inl ⟨by kernel_rfl, fun w' hS' => by have hL := (HO6.out.below hS').six HY.out; obtain ⟨ad', had, _, d0, d1, d2, d3, d4, d5, d6, d7⟩ := hL; cases had; go_simp⟩) hS ?_
                    refine wpAnyH_take (i := 4) (v := ((agX x))) rfl (by kernel_rfl) (by kernel_rfl) (by kernel_rfl) (fun _ _ _ h => h) (Or.inl ⟨by kernel_rfl, fun w' hS' => by have hL := (HX6.out.below HX6.out.lt hS').cells; obtain ⟨d0, d1, d2, d3, d4, d5, d6, d7⟩ := hL; go_simp⟩) hS ?_
                    refine wpAnyH_take (i := 7) (v := ((.slice A5 kk c5))) rfl (by kernel_rfl) (by kernel_rfl) (by kernel_rfl) (fun _ _ _ h => h) (Or.inl ⟨by kernel_rfl, fun w' hS' => by go_simp⟩) hS ?_
                    refine wpAnyH_take (i := 8) (v := ((.slice (some ad) out5.length c2))) rfl (by kernel_rfl) (by kernel_rfl) (by kernel_rfl) (fun _ _ _ h => h) (Or.inl ⟨by kernel_rfl, fun w' hS' => by go_simp⟩) hS ?_
                    refine wpAnyH_take (i := 9) (v := ((.int .i64 (k : Int)))) rfl (by kernel_rfl) (by kernel_rfl) (by kernel_rfl) (fun _ _ _ h => h) (Or.inl ⟨by kernel_rfl, fun w' hS' => by go_simp⟩) hS ?_
                    refine wpAnyH_take (i := 10) (v := ((.pointer (some (ad.add (k * 8)))))) rfl (by kernel_rfl) (by kernel_rfl) (by kernel_rfl) (fun _ _ _ h => h) (Or.inl ⟨by kernel_rfl, fun w' hS' => by go_simp; try (intro h; exact absurd h (by omega))⟩) hS ?_
                    refine wpAnyH_take (i := 11) (v := ((agX y))) rfl (by kernel_rfl) (by kernel_rfl) (by kernel_rfl) (fun _ _ _ h => h) (Or.inl ⟨by kernel_rfl, fun w' hS' => by have hL := (HO6.out.below hS').six HY.out; obtain ⟨ad', had, _, d0, d1, d2, d3, d4, d5, d6, d7⟩ := hL; cases had; go_simp⟩) hS ?_
                    refine wpAnyH_ready (rs := [5]) (by kernel_rfl) (by simp) ?_
                    refine AllReadyH.cons rfl (fun K hK => ?_) AllReadyH.nil
                    go_simp
                    refine (HCV.out _).mono ?_
                    rintro e w7 ⟨rfl, hby⟩
                    refine hK.out _ _ (hS.trans (hby.mono hS.size)) (fun hS => ?_)
                    clear hK K hby
                    refine wpAnyH_take (i := 6) (v := ((.bool b))) rfl (by kernel_rfl) (by kernel_rfl) (by kernel_rfl) (fun _ _ _ h => h) (Or.inl ⟨by kernel_rfl, fun w' hS' => by go_simp⟩) hS ?_
                    refine wpAnyH_ready (rs := [12]) (by kernel_rfl) (by simp) ?_
                    refine AllReadyH.cons rfl (fun K hK => ?_) AllReadyH.nil
                    go_simp
                    refine (HCC.out _ hS).mono ?_
                    rintro e w8 ⟨rfl, hby⟩
                    refine hK.out _ _ (hS.trans (hby.mono hS.size)) (fun hS => ?_)
                    clear hK K hby
                    refine wpAnyH_take (i := 13) (v := ((.bool b))) rfl (by kernel_rfl) (by kernel_rfl) (by kernel_rfl) (fun _ _ _ h => h) (Or.inl ⟨by kernel_rfl, fun w' hS' => by go_simp⟩) hS ?_
                    refine wpAnyH_take (i := 14) (v := ((.bool false))) rfl (by kernel_rfl) (by kernel_rfl) (by kernel_rfl) (fun _ _ _ h => h) (Or.inl ⟨by kernel_rfl, fun w' hS' => by cases b <;> go_simp⟩) hS ?_
                    refine wpAnyH_take (i := 15) (v := ((.bool false))) rfl (by kernel_rfl) (by kernel_rfl) (by kernel_rfl) (fun _ _ _ h => h) (Or.inl ⟨by kernel_rfl, fun w' hS' => by go_simp⟩) hS ?_
                    refine wpAnyH_take (i := 16) (v := ((.slice (some ad) out5.length c2))) rfl (by kernel_rfl) (by kernel_rfl) (by kernel_rfl) (fun _ _ _ h => h) (Or.inl ⟨by kernel_rfl, fun w' hS' => by go_simp⟩) hS ?_
                    refine wpAnyH_take (i := 17) (v := ((.int .i64 (k : Int)))) rfl (by kernel_rfl) (by kernel_rfl) (by kernel_rfl) (fun _ _ _ h => h) (Or.inl ⟨by kernel_rfl, fun w' hS' => by go_simp⟩) hS ?_
                    refine wpAnyH_take (i := 18) (v := ((.pointer (some (ad.add (k * 8)))))) rfl (by kernel_rfl) (by kernel_rfl) (by kernel_rfl) (fun _ _ _ h => h) (Or.inl ⟨by kernel_rfl, fun w' hS' => by go_simp; try (intro h; exact absurd h (by omega))⟩) hS ?_
                    refine wpAnyH_take (i := 19) (v := ((agX y))) rfl (by kernel_rfl) (by kernel_rfl) (by kernel_rfl) (fun _ _ _ h => h) (Or.inl ⟨by kernel_rfl, fun w' hS' => by have hL := (HO6.out.below hS').six HY.out; obtain ⟨ad', had, _, d0, d1, d2, d3, d4, d5, d6, d7⟩ := hL; cases had; go_simp⟩) hS ?_
                    refine wpAnyH_take (i := 20) (v := ((agX x))) rfl (by kernel_rfl) (by kernel_rfl) (by kernel_rfl) (fun _ _ _ h => h) (Or.inl ⟨by kernel_rfl, fun w' hS' => by have hL := (HX6.out.below HX6.out.lt hS').cells; obtain ⟨d0, d1, d2, d3, d4, d5, d6, d7⟩ := hL; go_simp⟩) hS ?_
                    refine wpAnyH_take (i := 21) (v := ((.bool true))) rfl (by kernel_rfl) (by kernel_rfl) (by kernel_rfl) (fun _ _ _ h => h) (Or.inl ⟨by kernel_rfl, fun w' hS' => by go_simp⟩) hS ?_
                    refine wpAnyH_take (i := 22) (v := ((.bool true))) rfl (by kernel_rfl) (by kernel_rfl) (by kernel_rfl) (fun _ _ _ h => h) (Or.inl ⟨by kernel_rfl, fun w' hS' => by go_simp⟩) hS ?_
                    refine wpAnyH_take (i := 23) (v := ((.slice (some ad) out5.length c2))) rfl (by kernel_rfl) (by kernel_rfl) (by kernel_rfl) (fun _ _ _ h => h) (Or.inl ⟨by kernel_rfl, fun w' hS' => by go_simp⟩) hS ?_
                    refine wpAnyH_take (i := 24) (v := ((.int .i64 (k : Int)))) rfl (by kernel_rfl) (by kernel_rfl) (by kernel_rfl) (fun _ _ _ h => h) (Or.inl ⟨by kernel_rfl, fun w' hS' => by go_simp⟩) hS ?_
                    refine wpAnyH_take (i := 25) (v := ((.pointer (some (ad.add (k * 8)))))) rfl (by kernel_rfl) (by kernel_rfl) (by kernel_rfl) (fun _ _ _ h => h) (Or.inl ⟨by kernel_rfl, fun w' hS' => by go_simp; try (intro h; exact absurd h (by omega))⟩) hS ?_
                    refine wpAnyH_take (i := 26) (v := ((agX y))) rfl (by kernel_rfl) (by kernel_rfl) (by kernel_rfl) (fun _ _ _ h => h) (Or.inl ⟨by kernel_rfl, fun w' hS' => by have hL := (HO6.out.below hS').six HY.out; obtain ⟨ad', had, _, d0, d1, d2, d3, d4, d5, d6, d7⟩ := hL; cases had; go_simp⟩) hS ?_
                    refine wpAnyH_take (i := 27) (v := ((agX x))) rfl (by kernel_rfl) (by kernel_rfl) (by kernel_rfl) (fun _ _ _ h => h) (Or.inl ⟨by kernel_rfl, fun w' hS' => by have hL := (HX6.out.below HX6.out.lt hS').cells; obtain ⟨d0, d1, d2, d3, d4, d5, d6, d7⟩ := hL; go_simp⟩) hS ?_
                    refine wpAnyH_ready (rs := [28]) (by kernel_rfl) (by simp) ?_
                    refine AllReadyH.cons rfl (fun K hK => ?_) AllReadyH.nil
                    go_simp
                    refine (HCV.out _).mono ?_
                    rintro e w9 ⟨rfl, hby⟩
                    refine hK.out _ _ (hS.trans (hby.mono hS.size)) (fun hS => ?_)
                    clear hK K hby
                    refine wpAnyH_take (i := 29) (v := ((.bool false))) rfl (by kernel_rfl) (by kernel_rfl) (by kernel_rfl) (fun _ _ _ h => h) (Or.inl ⟨by kernel_rfl, fun w' hS' => by go_simp⟩) hS ?_
                    refine wpAnyH_take (i := 30) (v := ((.bool false))) rfl (by kernel_rfl) (by kernel_rfl) (by kernel_rfl) (fun _ _ _ h => h) (Or.inl ⟨by kernel_rfl, fun w' hS' => by go_simp⟩) hS ?_
                    refine wpAnyH_take (i := 31) (v := ((.bool false))) rfl (by kernel_rfl) (by kernel_rfl) (by kernel_rfl) (fun _ _ _ h => h) (Or.inl ⟨by kernel_rfl, fun w' hS' => by go_simp⟩) hS ?_
                    refine wpAnyH_done (by kernel_rfl) ?_ _
                    go_simp
                    go_wp2_with fail
                    go_meet
                    exact ⟨rfl, hS⟩
                case rest =>
                  obtain ⟨rfl, hbx⟩ := hcut
                  have HB3 := Lib.hid hbx
                  clear hbx HB hq2
                  go_wp2
                  go_roundw
                  case rel => exact ⟨k + 1, by omega, by go_num, HB3⟩
                  case measure => simp [intOf]; omega
              · obtain rfl : k = out5.length := by omega
                go_wp2
                go_ret
                exact ⟨rfl, below_two HB6.out HB.out⟩
  · clear hfew
    go_wp2
    go_ret
    exact ⟨rfl, HG.out⟩
end Go.Proofs.Ytepkmgmooadbjaa
end
section
/- Arguments: a lot by value, a list of lots, as cells. -/
namespace Go.Proofs.Ytepkmgmooadbjaa
open Go.ChangeShapes Go.WideShapes Go.ChangeAt Go.RowKit Go.Deep
set_option linter.unusedVariables false
set_option linter.constructorNameAsVariable false
set_option maxRecDepth 100000

theorem lot_of_cells {H : Type} {enc : TypeId × Value → H} {W : World} {base fuel : Nat} {sp : Nat → Bool} {held : Bool} {cs : List Value} {x : DataW H × List MemPlace} (hl : cs.length = 8)
    (h : DataW.trod enc Try.prog W base sp held fuel 24 cs = some x) : ∃ y : Lt, cs = encL y ∧ y.Fits := by
  obtain ⟨ys, n, _, _, _, hyl, hf⟩ := DataW.trod_struct Try.underlying24 h
  match cs, hl with
  | [c0, c1, c2, c3, c4, c5, c6, c7], _ =>
    have hCI : Try.prog.cellsOf 3 = 1 := by kernel_rfl
    have hCL : Try.prog.cellsOf 2 = 1 := by kernel_rfl
    have hCS : Try.prog.cellsOf 9 = 1 := by kernel_rfl
    have hCT : Try.prog.cellsOf 22 = 1 := by kernel_rfl
    obtain ⟨y0, hy0⟩ : ∃ y, ys[0]? = some y := ⟨_, List.getElem?_eq_getElem (by rw [hyl]; decide)⟩
    obtain ⟨y1, hy1⟩ : ∃ y, ys[1]? = some y := ⟨_, List.getElem?_eq_getElem (by rw [hyl]; decide)⟩
    obtain ⟨y2, hy2⟩ : ∃ y, ys[2]? = some y := ⟨_, List.getElem?_eq_getElem (by rw [hyl]; decide)⟩
    obtain ⟨y3, hy3⟩ : ∃ y, ys[3]? = some y := ⟨_, List.getElem?_eq_getElem (by rw [hyl]; decide)⟩
    obtain ⟨y4, hy4⟩ : ∃ y, ys[4]? = some y := ⟨_, List.getElem?_eq_getElem (by rw [hyl]; decide)⟩
    obtain ⟨y5, hy5⟩ : ∃ y, ys[5]? = some y := ⟨_, List.getElem?_eq_getElem (by rw [hyl]; decide)⟩
    obtain ⟨y6, hy6⟩ : ∃ y, ys[6]? = some y := ⟨_, List.getElem?_eq_getElem (by rw [hyl]; decide)⟩
    obtain ⟨y7, hy7⟩ : ∃ y, ys[7]? = some y := ⟨_, List.getElem?_eq_getElem (by rw [hyl]; decide)⟩
    have g0 : DataW.trod enc Try.prog W base sp held n 3 [c0] = some y0 := by have h := (hf 0 _ rfl).trans hy0; simpa [hCI, hCL, hCS, hCT] using h
    have g1 : DataW.trod enc Try.prog W base sp held n 9 [c1] = some y1 := by have h := (hf 1 _ rfl).trans hy1; simpa [hCI, hCL, hCS, hCT] using h
    have g2 : DataW.trod enc Try.prog W base sp held n 2 [c2] = some y2 := by have h := (hf 2 _ rfl).trans hy2; simpa [hCI, hCL, hCS, hCT] using h
    have g3 : DataW.trod enc Try.prog W base sp held n 3 [c3] = some y3 := by have h := (hf 3 _ rfl).trans hy3; simpa [hCI, hCL, hCS, hCT] using h
    have g4 : DataW.trod enc Try.prog W base sp held n 3 [c4] = some y4 := by have h := (hf 4 _ rfl).trans hy4; simpa [hCI, hCL, hCS, hCT] using h
    have g5 : DataW.trod enc Try.prog W base sp held n 22 [c5] = some y5 := by have h := (hf 5 _ rfl).trans hy5; simpa [hCI, hCL, hCS, hCT] using h
    have g6 : DataW.trod enc Try.prog W base sp held n 3 [c6] = some y6 := by have h := (hf 6 _ rfl).trans hy6; simpa [hCI, hCL, hCS, hCT] using h
    have g7 : DataW.trod enc Try.prog W base sp held n 9 [c7] = some y7 := by have h := (hf 7 _ rfl).trans hy7; simpa [hCI, hCL, hCS, hCT] using h
    obtain ⟨z0, e0, _, b0⟩ := DataW.trod_int Try.underlying3 g0
    obtain ⟨z1, e1, _, b1⟩ := DataW.trod_string Try.underlying9 g1
    obtain ⟨z2, e2, _, b2⟩ := DataW.trod_int Try.underlying2 g2
    obtain ⟨z3, e3, _, b3⟩ := DataW.trod_int Try.underlying3 g3
    obtain ⟨z4, e4, _, b4⟩ := DataW.trod_int Try.underlying3 g4
    obtain ⟨z5, e5, _, b5⟩ := DataW.trod_int Try.underlying22 g5
    obtain ⟨z6, e6, _, b6⟩ := DataW.trod_int Try.underlying3 g6
    obtain ⟨z7, e7, _, b7⟩ := DataW.trod_string Try.underlying9 g7
    simp only [List.cons.injEq, and_true] at e0 e1 e2 e3 e4 e5 e6 e7
    subst e0 e1 e2 e3 e4 e5 e6 e7
    exact ⟨⟨z0, z1.data.toList, z2, z3, z4, z5, z6, z7.data.toList⟩, rfl, (bounds_i64 b0).1, (bounds_i64 b0).2, by show z1.data.toList.length ≤ maxLen; rw [Array.length_toList]; exact b1, (bounds_i64 b2).1, (bounds_i64 b2).2, (bounds_i64 b3).1, (bounds_i64 b3).2, (bounds_i64 b4).1, (bounds_i64 b4).2, (bounds_u8 b5).1, (bounds_u8 b5).2, (bounds_i64 b6).1, (bounds_i64 b6).2, by show z7.data.toList.length ≤ maxLen; rw [Array.length_toList]; exact b7⟩
/-- A lot that is handed by value. -/
theorem open_lot {H : Type} {enc : TypeId × Value → H} {W : World} {r : Reach} {b0 base : Nat} {sp : Nat → Bool} {held : Bool} {v : Value} {d : DataW H} {p : List MemPlace} (hval : Value.okWide Try.prog W r b0 24 v)
    (h : DataW.Trod enc Try.prog W base sp held 24 v d p) : ∃ y : Lt, v = aggL y ∧ y.Fits := by
  obtain ⟨cs, rfl, hsz⟩ := okWide_struct Try.underlying24 hval
  obtain ⟨l⟩ := cs
  have hC : Try.prog.cellsOf 24 = 8 := by kernel_rfl
  have hl : l.length = 8 := by have := hsz.trans hC; simpa using this
  obtain ⟨fuel, hf⟩ := h
  have hf' : DataW.trod enc Try.prog W base sp held fuel 24 l = some (d, p) := by simpa [Value.cells] using hf
  obtain ⟨y, rfl, hy⟩ := lot_of_cells hl hf'
  exact ⟨y, rfl, hy⟩

theorem cell_lt {w : World} {p : Addr} {u : Value} (h : w.cell? p = some u) : p.block < w.heap.size := World.block_lt_of_cell? w p h
/-- A list of lots that is handed. -/
theorem open_lots {H : Type} {enc : TypeId × Value → H} {W : World} {r : Reach} {b0 base : Nat} {sp : Nat → Bool} {held : Bool} {v : Value} {d : DataW H} {p : List MemPlace} (hval : Value.okWide Try.prog W r b0 29 v)
    (h : DataW.Trod enc Try.prog W base sp held 29 v d p) : ∃ l, LSl W W.heap.size v l ∧ Sized l ∧ (l = [] ∨ ∃ elems spare, d = .slice elems spare ∧ l.length = elems.length) := by
  obtain ⟨a0, len0, cap0, rfl⟩ := okWide_slice Try.underlying29 hval
  obtain ⟨fuel, hf⟩ := h
  rcases open_slice Try.underlying29 hf with ⟨hcs, _⟩ | ⟨a, len, cap, m, n, D, Pl, hcs, _, hl, hm, hmm, hx, hi⟩
  · simp [Value.cells] at hcs
    obtain ⟨rfl, rfl, rfl⟩ := hcs
    exact ⟨[], ⟨none, 0, rfl, Nat.le_refl _, by simp [maxLen], fun _ => rfl, Lies.none⟩, fun x hx => by simp at hx, .inl rfl⟩
  · simp [Value.cells] at hcs
    obtain ⟨rfl, rfl, rfl⟩ := hcs
    have hlm : len0 ≤ m := by rw [hmm]; split <;> omega
    have hC : Try.prog.cellsOf 24 = 8 := by kernel_rfl
    have hpt : ∀ i, i < len0 → ∃ y : Lt, y.Fits ∧ ∀ c u, (encL y)[c]? = some u → W.cell? (a.add (i * 8 + c)) = some u := by
      intro i hil
      obtain ⟨cs', hc, ht⟩ := hi i (by omega)
      rw [hC] at hc
      obtain ⟨_, hlen, hat⟩ := World.cells?_some hc
      obtain ⟨y, rfl, hy⟩ := lot_of_cells hlen ht
      refine ⟨y, hy, fun c u hu => ?_⟩
      have hc6 : c < 8 := by have := (List.getElem?_eq_some_iff.1 hu).1; rw [encL_length] at this; exact this
      have := hat c hc6
      rw [addr_add] at this
      rw [this, hu]
    let f : Nat → Lt := fun i => if h : i < len0 then Classical.choose (hpt i h) else default
    have hff : ∀ i, i < len0 → (f i).Fits ∧ ∀ c u, (encL (f i))[c]? = some u → W.cell? (a.add (i * 8 + c)) = some u := by
      intro i hil
      have := Classical.choose_spec (hpt i hil)
      simp only [f, dif_pos hil]
      exact this
    have hlen : ((List.range len0).map f).length = len0 := by simp
    have hget : ∀ k, k < len0 → ((List.range len0).map f)[k]? = some (f k) := fun k hk => by simp [hk]
    refine ⟨(List.range len0).map f, ⟨some a, cap0, by rw [hlen], by omega, hm, fun h => (by cases h), fun hne => ?_⟩, fun q hq => ?_, .inr ?_⟩
    · have h0 : 0 < len0 := by
        rcases Nat.eq_zero_or_pos len0 with h | h
        · subst h; simp [lcells] at hne
        · exact h
      refine ⟨a, rfl, by have := cell_lt ((hff 0 h0).2 0 _ rfl); rw [addr_block] at this; exact this, fun j u hu => ?_⟩
      have hj : j < len0 * 8 := by have := (List.getElem?_eq_some_iff.1 hu).1; rw [lcells_length, hlen] at this; exact this
      have hk : j / 8 < len0 := by omega
      have := lcells_get _ _ _ (hget (j / 8) hk) (j % 8) (by omega)
      rw [show j / 8 * 8 + j % 8 = j by omega] at this
      rw [this] at hu
      have := (hff (j / 8) hk).2 (j % 8) u hu
      rwa [show j / 8 * 8 + j % 8 = j by omega] at this
    · obtain ⟨k, hk, rfl⟩ := List.mem_map.1 hq
      exact (hff k (by simpa using hk)).1
    · simp only [Prod.mk.injEq] at hx
      exact ⟨_, _, hx.1, by simp⟩

theorem own_knob : ownKnob Try.prog.godebug = none := by kernel_rfl
/-- What a law leaves behind: nothing that was there has turned. -/
theorem post_below {H : Type} {enc : TypeId × Value → H} {P : Program} {f : Func} {s : ChangeSpec} {apart fresh handsOn : Bool} {W W' : World} {args : Array Value} {v : Value} {ds gs : List (DataW H)} {before pa pv : List MemPlace}
    (hW : DataW.Whole enc P f.params.toList s.vars apart W args.toList ds gs before)
    (hres : ∀ (b : Nat) (sp : Nat → Bool) (hd : Bool), DataW.TrodAll enc P W' b sp hd f.resultTypes.toList (v.resultList f.resultTypes.size) (s.fn H (ds ++ gs)).results [])
    (hargs : DataW.TrodAll enc P W' 0 (fun b => decide (b < W.heap.size)) true f.params.toList args.toList (s.fn H (ds ++ gs)).args pa)
    (hvars : DataW.TrodVars enc P W' (fun b => decide (b < W.heap.size)) s.vars (s.fn H (ds ++ gs)).vars pv)
    (hb : Below W.heap.size W W') : s.post enc P f apart fresh handsOn false W args v W' :=
  ⟨ds, gs, before, [], pa, pv, hW, hres _ _ _, hargs, hvars, hb.frame _, fun h => by cases h⟩
theorem laid_out : laidOutB Try.prog = true := by kernel_rfl
end Go.Proofs.Ytepkmgmooadbjaa
end
