/- Texts of this proof, one behind the other. -/
import Derived.Deep.DeepCutAuto
import Derived.Test.YtjhijinbpdnmeaaGreatB06
import Derived.Test.YtjhijinbpdnmeaaGreatB03
import Derived.Test.YtjhijinbpdnmeaaGreatB04
section
/- The document's answers: Sweep, On. -/
namespace Go.Proofs.YtjhijinbpdnmeaaGreat
open Go.ChangeShapes Go.WideShapes Go.ChangeAt Go.RowKit
set_option linter.unusedVariables false

theorem grew_other {w w' : World} {base' e size n m : Nat} {a a' b : Value} {ys : List Value} (hb : w.ownsRow base' e size b m ys)
    (hd : ∀ k, a.ownBlock = some k → b.ownBlock ≠ some k) (hg : Grew w w' a a' n 1) : w'.ownsRow base' e size b m ys ∧ ∀ k, a'.ownBlock = some k → b.ownBlock ≠ some k := by
  rcases hg with ⟨g, cap, hv, hv', hgr⟩ | ⟨cap, hv', hgr⟩
  · have hne := hd g (by rw [hv]; rfl)
    refine ⟨hb.kept hgr (.inr hne), fun k hk => ?_⟩
    rw [hv'] at hk
    have : g = k := by simpa [Value.ownBlock] using hk
    exact this ▸ hne
  · refine ⟨hb.kept hgr (by cases b.ownBlock <;> simp), fun k hk hk' => ?_⟩
    rw [hv'] at hk
    have : w.heap.size = k := by simpa [Value.ownBlock] using hk
    have := (hb.lt k hk').2
    omega
def ReadsTwo (l1 l2 : List Lt) (w : World) (e : Ending) (w' : World) : Prop := ∃ v1 v2, e = .returned (.tuple #[v1, v2]) ∧ LSl w' w'.heap.size v1 l1 ∧ LSl w' w'.heap.size v2 l2 ∧ Go.RowKit.Below w.heap.size w w'
theorem row_alloc {w : World} {base e size n : Nat} {v : Value} {xs : List Value} (h : w.ownsRow base e size v n xs) (o : Obj) : (w.alloc o).ownsRow base e size v n xs := h.alloc o

set_option maxRecDepth 100000 in
set_option maxHeartbeats 4000000 in
theorem refSweep_any (now : Int) (v : Value) (l : List Lt) (w : World) (hlen : l.length ≤ 1048576) (hv : LSl w w.heap.size v l) :
    Calls Tryz.prog 14 #[v, .int .i64 now] w (ReadsTwo (l.filter (fun x => !overB now x)) (l.filter (overB now)) w) := by
  obtain ⟨i0, hi, hz0, hz1, hz2⟩ := info_parts infoLot
  obtain ⟨A, c, rfl, hc1, hc2, hcz, hl⟩ := id hv
  have H1 := Lib.hid hi
  have H2 := Lib.hid hz0
  have H3 := Lib.hid hz1
  have H4 := Lib.hid hz2
  have HL := Lib.hid hl
  clear hi hz0 hz1 hz2 hl hv
  go_enter Tryz.func14, Tryz.ntmps14
  go_wp2
  go_loopw [6, 7, 8] (fun a b i wr => ∃ k : Nat, k ≤ l.length ∧ i = .int .i64 k ∧ Hid (wr.ownsRow w.heap.size 41 6 a ((l.take k).filter (fun x => !overB now x)).length (lcells ((l.take k).filter (fun x => !overB now x)))) ∧
      Hid (wr.ownsRow w.heap.size 41 6 b ((l.take k).filter (overB now)).length (lcells ((l.take k).filter (overB now)))) ∧ Hid (∀ j, a.ownBlock = some j → b.ownBlock ≠ some j) ∧ Hid (Go.RowKit.Below w.heap.size w wr))
    (fun _ _ i _ => l.length - (intOf i).toNat)
  case atStart => exact ⟨0, Nat.zero_le _, rfl, Lib.hid (World.ownsRow_nil _ _ _ _), Lib.hid (World.ownsRow_nil _ _ _ _), Lib.hid (by simp [Value.ownBlock]), Lib.hid (Below.refl _ _)⟩
  case round =>
    obtain ⟨k, hk, rfl, HA, HG, HD, HB⟩ := hrel
    by_cases hlt : k < l.length
    · obtain ⟨x, hx⟩ : ∃ x, l[k]? = some x := ⟨_, List.getElem?_eq_getElem hlt⟩
      obtain ⟨ad, rfl, hab, hc0, hc1', hc2', hc3, hc4, hc5⟩ := (HL.out.below HB.out).six hx
      have HX := Lib.hid hx
      have hfl : ((l.take k).filter (overB now)).length ≤ k := Nat.le_trans (List.length_filter_le _ _) (List.length_take_le _ _)
      have hfk : ((l.take k).filter (fun x => !overB now x)).length ≤ k := Nat.le_trans (List.length_filter_le _ _) (List.length_take_le _ _)
      clear hx
      have hs1 := filter_take_succ (fun x => !overB now x) HX.out
      have hs2 := filter_take_succ (overB now) HX.out
      by_cases hov : overB now x = true
      · rw [hov] at hs1 hs2
        simp only [Bool.not_true, Bool.false_eq_true, if_false, List.append_nil, if_true] at hs1 hs2
        have HS1 := Lib.hid hs1
        have HS2 := Lib.hid hs2
        clear hs1 hs2
        obtain ⟨id_, item, fr, un, qty, arr⟩ := x
        simp only [overB, Bool.and_eq_true, decide_eq_true_eq] at hov
        obtain ⟨rfl, hun⟩ := hov
        dsimp only at hc0 hc1' hc2' hc3 hc4 hc5
        go_wp2_with (at_builtin; refine wpList_append_two _ rfl (.tmp 30) (.tmp 35) 22 rfl w.heap.size 41 i0 _ 6 56 Tryz.underlying22 H1.out H2.out H3.out H4.out rfl (by decide) _ _ _ rfl (HG.out.alloc _) ⟨wr.heap.size, 0, none⟩ 1 1 (encL ⟨id_, item, fr, un, qty, true⟩) rfl rfl (six_new wr ⟨id_, item, fr, un, qty, true⟩ _) (encL_one _) (by omega) (by unfold maxLen; omega) (by omega) (by have h1 := HB.out.size; simp only [World.size_alloc]; omega) ?_; intro v' w3 hown3 hg3; have ho3 := Lib.hid hown3; clear hown3)
        have hb3 : Hid (Go.RowKit.Below w.heap.size w w3) := Lib.hid (grew_below (HB.out.alloc HB.out.size _) (HG.out.alloc _) (Nat.le_refl _) (by have := HB.out.size; simp only [World.size_alloc]; omega) hg3.out)
        have ho := grew_other (HA.out.alloc _) (fun j h1 h2 => HD.out j h2 h1) hg3.out
        have HO1 := Lib.hid ho.1
        have HO2 := Lib.hid ho.2
        clear ho
        go_roundw
        case rel => exact ⟨k + 1, by omega, by go_num, Lib.hid (by rw [HS1.out]; exact HO1.out), Lib.hid (by rw [HS2.out, lcells_append, List.length_append]; simpa [lcells] using ho3.out), Lib.hid (fun j h1 h2 => HO2.out j h2 h1), hb3⟩
        case measure => simp [intOf]; omega
      · have hov' : overB now x = false := by simpa using hov
        rw [hov'] at hs1 hs2
        simp only [Bool.not_false, Bool.false_eq_true, if_false, List.append_nil, if_true] at hs1 hs2
        have HS1 := Lib.hid hs1
        have HS2 := Lib.hid hs2
        clear hs1 hs2
        obtain ⟨id_, item, fr, un, qty, arr⟩ := x
        simp only [overB, Bool.and_eq_true, decide_eq_true_eq, not_and] at hov
        clear hov'
        dsimp only at hc0 hc1' hc2' hc3 hc4 hc5
        have hcond : arr = false ∨ (arr = true ∧ decide (un ≤ now) = false) := by
          cases arr
          · exact .inl rfl
          · exact .inr ⟨rfl, decide_eq_false (hov rfl)⟩
        clear hov
        rcases hcond with rfl | ⟨rfl, hun⟩
        · go_wp2_with (at_builtin; refine wpList_append_two _ rfl (.tmp 37) (.tmp 42) 22 rfl w.heap.size 41 i0 _ 6 56 Tryz.underlying22 H1.out H2.out H3.out H4.out rfl (by decide) _ _ _ rfl (HA.out.alloc _) ⟨wr.heap.size, 0, none⟩ 1 1 (encL ⟨id_, item, fr, un, qty, false⟩) rfl rfl (six_new wr ⟨id_, item, fr, un, qty, false⟩ _) (encL_one _) (by omega) (by unfold maxLen; omega) (by omega) (by have h1 := HB.out.size; simp only [World.size_alloc]; omega) ?_; intro v' w3 hown3 hg3; have ho3 := Lib.hid hown3; clear hown3)
          have hb3 : Hid (Go.RowKit.Below w.heap.size w w3) := Lib.hid (grew_below (HB.out.alloc HB.out.size _) (HA.out.alloc _) (Nat.le_refl _) (by have := HB.out.size; simp only [World.size_alloc]; omega) hg3.out)
          have ho := grew_other (HG.out.alloc _) HD.out hg3.out
          have HO1 := Lib.hid ho.1
          have HO2 := Lib.hid ho.2
          clear ho
          go_roundw
          case rel => exact ⟨k + 1, by omega, by go_num, Lib.hid (by rw [HS1.out, lcells_append, List.length_append]; simpa [lcells] using ho3.out), Lib.hid (by rw [HS2.out]; exact HO1.out), HO2, hb3⟩
          case measure => simp [intOf]; omega
        · go_wp2_with (at_builtin; refine wpList_append_two _ rfl (.tmp 37) (.tmp 42) 22 rfl w.heap.size 41 i0 _ 6 56 Tryz.underlying22 H1.out H2.out H3.out H4.out rfl (by decide) _ _ _ rfl (HA.out.alloc _) ⟨wr.heap.size, 0, none⟩ 1 1 (encL ⟨id_, item, fr, un, qty, true⟩) rfl rfl (six_new wr ⟨id_, item, fr, un, qty, true⟩ _) (encL_one _) (by omega) (by unfold maxLen; omega) (by omega) (by have h1 := HB.out.size; simp only [World.size_alloc]; omega) ?_; intro v' w3 hown3 hg3; have ho3 := Lib.hid hown3; clear hown3)
          have hb3 : Hid (Go.RowKit.Below w.heap.size w w3) := Lib.hid (grew_below (HB.out.alloc HB.out.size _) (HA.out.alloc _) (Nat.le_refl _) (by have := HB.out.size; simp only [World.size_alloc]; omega) hg3.out)
          have ho := grew_other (HG.out.alloc _) HD.out hg3.out
          have HO1 := Lib.hid ho.1
          have HO2 := Lib.hid ho.2
          clear ho
          go_roundw
          case rel => exact ⟨k + 1, by omega, by go_num, Lib.hid (by rw [HS1.out, lcells_append, List.length_append]; simpa [lcells] using ho3.out), Lib.hid (by rw [HS2.out]; exact HO1.out), HO2, hb3⟩
          case measure => simp [intOf]; omega
    · obtain rfl : k = l.length := by omega
      have h1 := HA.out
      have h2 := HG.out
      rw [List.take_length] at h1 h2
      have HA1 := Lib.hid h1
      have HG1 := Lib.hid h2
      clear h1 h2
      go_wp2
      go_ret2
      exact ⟨_, _, rfl, LSl.own HA1.out, LSl.own HG1.out, HB.out⟩
end Go.Proofs.YtjhijinbpdnmeaaGreat
end
section
/- The document's answer: On. -/
namespace Go.Proofs.YtjhijinbpdnmeaaGreat
open Go.ChangeShapes Go.WideShapes Go.ChangeAt Go.RowKit
set_option linter.unusedVariables false

theorem onSum_bounds (day : Int) (l : List Lt) : 0 ≤ onSum day l ∧ onSum day l ≤ 1073741824 * l.length := by
  have h := sumQ_take (l.filter (onB day)) (l.filter (onB day)).length (fun x hx => onB_qty (List.mem_filter.1 hx).2)
  rw [List.take_length] at h
  have hl : (l.filter (onB day)).length ≤ l.length := List.length_filter_le _ _
  unfold onSum
  omega
theorem onB_of {day : Int} {x : Lt} (h : lrightB x = true) : onB day x = decide (x.fr ≤ day ∧ day < x.un) := by
  unfold onB
  rw [h, Bool.true_and]
  unfold lrightB daysB at h
  simp only [Bool.and_eq_true, decide_eq_true_eq] at h
  unfold hasB
  congr 1
  apply propext
  omega
theorem lref_yes (x : Lt) (w : World) (h : lrightB x = true) : Calls Tryz.prog 34 #[aggL x] w fun e w' => e = .returned (.bool true) ∧ Below w.heap.size w w' := by
  have := lrref_any x w; rwa [h] at this
theorem lref_no (x : Lt) (w : World) (h : lrightB x = false) : Calls Tryz.prog 34 #[aggL x] w fun e w' => e = .returned (.bool false) ∧ Below w.heap.size w w' := by
  have := lrref_any x w; rwa [h] at this

set_option maxRecDepth 100000 in
set_option maxHeartbeats 4000000 in
theorem refOn_any (day : Int) (v : Value) (l : List Lt) (w : World) (hlen : l.length ≤ 1048576) (hv : LSl w w.heap.size v l) :
    Calls Tryz.prog 18 #[v, .int .i64 day] w fun e w' => e = .returned (.int .i64 (onSum day l)) ∧ Below w.heap.size w w' := by
  obtain ⟨A, c, rfl, hc1, hc2, hcz, hl⟩ := id hv
  have HL := Lib.hid hl
  clear hl hv
  go_enter Tryz.func18, Tryz.ntmps18
  go_wp2
  go_loopw [5, 6] (fun s i wr => ∃ k : Nat, k ≤ l.length ∧ i = .int .i64 k ∧ s = .int .i64 (onSum day (l.take k)) ∧ Hid (Below w.heap.size w wr)) (fun _ i _ => l.length - (intOf i).toNat)
  case atStart => exact ⟨0, Nat.zero_le _, rfl, rfl, Lib.hid (Below.refl _ _)⟩
  case round =>
    obtain ⟨k, hk, rfl, rfl, HB⟩ := hrel
    have hsb := onSum_bounds day (l.take k)
    have htk : (l.take k).length ≤ k := List.length_take_le _ _
    by_cases hlt : k < l.length
    · obtain ⟨x, hx⟩ : ∃ x, l[k]? = some x := ⟨_, List.getElem?_eq_getElem hlt⟩
      obtain ⟨ad, rfl, hab, hc0, hc1', hc2', hc3, hc4, hc5⟩ := (HL.out.below HB.out).six hx
      have HX := Lib.hid hx
      have hst := filter_take_succ (onB day) hx
      clear hx
      cases hr : lrightB x
      · have hC := Lib.hid (lref_no x wr hr)
        have hs : Hid (onSum day (l.take (k + 1)) = onSum day (l.take k)) := Lib.hid (by
          have : onB day x = false := by unfold onB; rw [hr]; rfl
          unfold onSum; rw [hst, this]; simp)
        clear hr hst
        generalize onSum day (l.take k) = s at hs hsb ⊢
        go_wp2_with (go_at_call 34; ((with_reducible refine hC.out.mono ?_); rintro e w1 ⟨rfl, hb1⟩; have HB1 := Lib.hid (HB.out.trans (hb1.mono HB.out.size)); clear hb1))
        go_roundw
        case rel => exact ⟨k + 1, by omega, by go_num, by rw [hs.out], HB1⟩
        case measure => simp [intOf]; omega
      · have hC := Lib.hid (lref_yes x wr hr)
        have hon := onB_of (day := day) hr
        have HR := Lib.hid hr
        clear hr
        by_cases h1 : x.fr ≤ day
        · by_cases h2 : day < x.un
          · have hs0 : onB day x = true := by rw [hon]; exact decide_eq_true ⟨h1, h2⟩
            have hq := onB_qty hs0
            have hs : Hid (onSum day (l.take (k + 1)) = onSum day (l.take k) + x.qty) := Lib.hid (by
              unfold onSum; rw [hst, hs0, if_pos rfl, sumQ_append]; simp [sumQ])
            clear hst hon hs0
            generalize onSum day (l.take k) = s at hs hsb ⊢
            go_wp2_with (go_at_call 34; ((with_reducible refine hC.out.mono ?_); rintro e w1 ⟨rfl, hb1⟩; have HB1 := Lib.hid (HB.out.trans (hb1.mono HB.out.size)); clear hb1; obtain ⟨ad', had', _, d0, d1, d2, d3, d4, d5⟩ := (HL.out.below HB1.out).six HX.out; cases had'))
            go_roundw
            case rel => exact ⟨k + 1, by omega, by go_num, by rw [hs.out], HB1⟩
            case measure => simp [intOf]; omega
          · have hs0 : onB day x = false := by rw [hon]; exact decide_eq_false (fun h => h2 h.2)
            have hs : Hid (onSum day (l.take (k + 1)) = onSum day (l.take k)) := Lib.hid (by
              unfold onSum; rw [hst, hs0]; simp)
            have h3 : decide (day < x.un) = false := decide_eq_false h2
            clear hst hon hs0
            generalize onSum day (l.take k) = s at hs hsb ⊢
            go_wp2_with (go_at_call 34; ((with_reducible refine hC.out.mono ?_); rintro e w1 ⟨rfl, hb1⟩; have HB1 := Lib.hid (HB.out.trans (hb1.mono HB.out.size)); clear hb1; obtain ⟨ad', had', _, d0, d1, d2, d3, d4, d5⟩ := (HL.out.below HB1.out).six HX.out; cases had'))
            go_roundw
            case rel => exact ⟨k + 1, by omega, by go_num, by rw [hs.out], HB1⟩
            case measure => simp [intOf]; omega
        · have hs0 : onB day x = false := by rw [hon]; exact decide_eq_false (fun h => h1 h.1)
          have hs : Hid (onSum day (l.take (k + 1)) = onSum day (l.take k)) := Lib.hid (by
            unfold onSum; rw [hst, hs0]; simp)
          have h3 : decide (x.fr ≤ day) = false := decide_eq_false h1
          clear hst hon hs0
          generalize onSum day (l.take k) = s at hs hsb ⊢
          go_wp2_with (go_at_call 34; ((with_reducible refine hC.out.mono ?_); rintro e w1 ⟨rfl, hb1⟩; have HB1 := Lib.hid (HB.out.trans (hb1.mono HB.out.size)); clear hb1; obtain ⟨ad', had', _, d0, d1, d2, d3, d4, d5⟩ := (HL.out.below HB1.out).six HX.out; cases had'))
          go_roundw
          case rel => exact ⟨k + 1, by omega, by go_num, by rw [hs.out], HB1⟩
          case measure => simp [intOf]; omega
    · obtain rfl : k = l.length := by omega
      go_wp2
      go_ret
      exact ⟨ret_long (by rw [List.take_length]), HB.out⟩
end Go.Proofs.YtjhijinbpdnmeaaGreat
end
section
/- One more put in where it belongs: sorted still, likes as they stood. An append of what may be nothing. No walk. -/
namespace Go.Proofs.YtjhijinbpdnmeaaGreat
open Go.ChangeShapes Go.WideShapes Go.ChangeAt Go.RowKit Go.Maps Go.Sort
set_option linter.unusedVariables false

theorem stab_insert {l out : List Lt} {k a : Nat} {x : Lt} (hx : l[k]? = some x) (hs : Stab (l.take k) out) (ha : a ≤ out.length) (h1 : ∀ j y, j < a → out[j]? = some y → cmpL y x ≤ 0) (h2 : ∀ j y, a ≤ j → out[j]? = some y → cmpL x y < 0) :
    Stab (l.take (k + 1)) (out.take a ++ x :: out.drop a) := by
  obtain ⟨P, rfl, hp, hw⟩ := hs
  have hkl := (List.getElem?_eq_some_iff.1 hx).1
  have hzip : (l.take (k + 1)).zipIdx = (l.take k).zipIdx ++ [(x, k)] := by
    rw [List.take_add_one, hx, List.zipIdx_append]
    simp [List.length_take, Nat.min_eq_left (Nat.le_of_lt hkl)]
  have hidx : ∀ p ∈ P, p.2 < k := fun p hpm => by
    have := List.mem_zipIdx_iff_getElem?.1 (hp.mem_iff.1 hpm)
    have := (List.getElem?_eq_some_iff.1 this).1
    rw [List.length_take] at this
    omega
  refine ⟨P.take a ++ (x, k) :: P.drop a, by simp [List.map_take, List.map_drop], ?_, ?_⟩
  · rw [hzip]
    refine List.perm_middle.trans ?_
    rw [List.take_append_drop]
    exact (List.perm_append_comm (l₁ := [(x, k)]) (l₂ := P)).trans (hp.append_right _)
  · have hsp := hw
    rw [← List.take_append_drop a P, List.pairwise_append] at hsp
    rw [List.pairwise_append, List.pairwise_cons]
    have hA : ∀ p ∈ P.take a, ltP (x, k) p = false := fun p hpm => by
      obtain ⟨j, hj⟩ := List.mem_iff_getElem?.1 hpm
      rw [List.getElem?_take] at hj
      split at hj
      · rename_i hja
        have hc := h1 j p.1 hja (by rw [List.getElem?_map, hj]; rfl)
        have hi := hidx p (List.mem_of_getElem? hj)
        have := cmpL_pos p.1 x
        rw [ltP_false]
        simp only
        omega
      · cases hj
    have hB : ∀ q ∈ P.drop a, ltP q (x, k) = false := fun q hqm => by
      obtain ⟨j, hj⟩ := List.mem_iff_getElem?.1 hqm
      rw [List.getElem?_drop] at hj
      have hc := h2 (a + j) q.1 (by omega) (by rw [List.getElem?_map, hj]; rfl)
      have := cmpL_neg x q.1
      rw [ltP_false]
      simp only
      omega
    refine ⟨hsp.1, ⟨hB, hsp.2.1⟩, fun p hpm q hqm => ?_⟩
    rcases List.mem_cons.1 hqm with rfl | hq
    · exact hA p hpm
    · exact hsp.2.2 p hpm q hq

theorem run_append_any {P : Program} (w : World) (base : Nat) (t ty e : TypeId) (i : TypeInfo) (z : Value) (size bytes : Nat) (ht : P.underlying t = some (.slice e)) (hi : P.info? e = some i) (hz : i.zero = some z)
    (hsize : i.size = size) (hby : i.bytes = bytes) (hzs : z.cells.size = size) (hsz : 0 < size) (v : Value) (n : Nat) (xs : List Value) (hown : w.ownsRow base e size v n xs)
    (ao : Option Addr) (m c : Nat) (news : List Value) (hl : news.length = m * size) (h0 : ao = none → m = 0 ∧ c = 0) (hnews : ∀ a, ao = some a → ∀ j u, news[j]? = some u → w.cell? (a.add j) = some u) (h1 : ∀ u ∈ news, u.oneCell' = true)
    (h63 : n + m ≤ maxLen) (hbytes : (n + m) * bytes ≤ 140737488355328) (hbase : base ≤ w.heap.size) :
    ∃ v' w', (Builtin.append_ #[t, t] ty #[v, .slice ao m c]).run P w = .ok v' w' ∧ w'.ownsRow base e size v' (n + m) (xs ++ news) ∧ w.grownBy w' v.ownBlock ∧ (v'.ownBlock = v.ownBlock ∨ v'.ownBlock = some w.heap.size) := by
  cases ao with
  | some a =>
    obtain ⟨v', w', hr, h2, h3, h4, h5⟩ := run_append_own_at (P := P) w base t ty e i z size bytes ht hi hz hsize hby hzs hsz v n xs hown a m c news hl (hnews a rfl) h1 h63 hbytes hbase
    exact ⟨v', w', hr, h2, h3, h5⟩
  | none =>
    obtain ⟨rfl, rfl⟩ := h0 rfl
    have hn : news = [] := List.eq_nil_of_length_eq_zero (by simpa using hl)
    subst hn
    refine ⟨v, w, ?_, by simpa using hown, World.grownBy.refl _ _, .inl rfl⟩
    rcases hown.2 with ⟨rfl, rfl⟩ | ⟨g, cap, cur, rfl, _, _, hnc, _⟩
    · simp [Builtin.append_, run_underlying ht, sizeOf, typeInfo, hi, Builtin.lenOf, Builtin.firstCells]
    · simp [Builtin.append_, run_underlying ht, sizeOf, typeInfo, hi, hnc, storeCells, Builtin.lenOf, Builtin.firstCells]

theorem wpList_append_any {P : Program} (w : World) {ops : Array Oper} {rest : List Oper} {o : Oper} {a : Act} {Q : Exit → Act → World → Prop} (hgd : o.guard = none) (s x : Operand) (t : TypeId)
    (ho : o.op = .call { callee := .builtin .append, args := #[s, x], argTypes := #[t, t] })
    (base : Nat) (e : TypeId) (i : TypeInfo) (z : Value) (size bytes : Nat) (ht : P.underlying t = some (.slice e)) (hi : P.info? e = some i) (hz : i.zero = some z)
    (hsize : i.size = size) (hby : i.bytes = bytes) (hzs : z.cells.size = size) (hsz : 0 < size)
    (v : Value) (n : Nat) (xs : List Value) (hs : a.eval s = v) (hown : w.ownsRow base e size v n xs)
    (ao : Option Addr) (m c : Nat) (news : List Value) (hx : a.eval x = .slice ao m c) (hl : news.length = m * size) (h0 : ao = none → m = 0 ∧ c = 0) (hnews : ∀ a, ao = some a → ∀ j u, news[j]? = some u → w.cell? (a.add j) = some u) (h1 : ∀ u ∈ news, u.oneCell' = true)
    (h63 : n + m ≤ maxLen) (hbytes : (n + m) * bytes ≤ 140737488355328) (hbase : base ≤ w.heap.size)
    (h : ∀ v' w', w'.ownsRow base e size v' (n + m) (xs ++ news) → Hid (w.grownBy w' v.ownBlock) → Hid (v'.ownBlock = v.ownBlock ∨ v'.ownBlock = some w.heap.size) → wpList P ops Q rest (a.put o.dst v') w') : wpList P ops Q (o :: rest) a w := by
  refine wpList_plain hgd fun K hK => ?_
  obtain ⟨v', w', hr, h2, h3, h4⟩ := run_append_any (P := P) w base t o.type e i z size bytes ht hi hz hsize hby hzs hsz v n xs hown ao m c news hl h0 hnews h1 h63 hbytes hbase
  unfold Oper.wp execOp
  simp only [ho, resolve, invoke, builtin, Sem.run_bind, Sem.run_pure, Result.andThen_ok, List.map_toArray, List.map_cons, List.map_nil, hs, hx, hr]
  exact hK _ _ (h v' w' h2 h3 h4)
end Go.Proofs.YtjhijinbpdnmeaaGreat
end
section
/- The document's answer: Sort. Written by gen_refsort.py. -/
namespace Go.Proofs.YtjhijinbpdnmeaaGreat
open Go.ChangeShapes Go.WideShapes Go.ChangeAt Go.RowKit Go.Maps Go.Sort
set_option linter.unusedVariables false

theorem empty_row (w : World) (base : Nat) (t : TypeId) (h : base ≤ w.heap.size) : (w.alloc (.cells #[] t)).ownsRow base t 6 (.slice (some ⟨w.heap.size, 0, none⟩) 0 0) 0 [] :=
  ⟨rfl, .inr ⟨w.heap.size, 0, _, rfl, h, heap_alloc_new w _, Nat.le_refl _, by decide, rfl, rfl⟩⟩
theorem beside {w w' : World} {b e s n : Nat} {vO v : Value} {xs : List Value} (hO : w.ownsRow b e s vO n xs) (hg : w.grownBy w' v.ownBlock) (hne : ∀ k, v.ownBlock = some k → vO.ownBlock ≠ some k) : w'.ownsRow b e s vO n xs := by
  refine hO.kept hg ?_
  cases h : v.ownBlock with
  | none => cases vO.ownBlock <;> simp
  | some k => exact .inr (hne k h)
theorem beside_next {w : World} {b e s n : Nat} {vO v v' : Value} {xs : List Value} (hO : w.ownsRow b e s vO n xs) (hne : ∀ k, v.ownBlock = some k → vO.ownBlock ≠ some k) (hat : v'.ownBlock = v.ownBlock ∨ v'.ownBlock = some w.heap.size) : ∀ k, v'.ownBlock = some k → vO.ownBlock ≠ some k := by
  intro k hk hk'
  rcases hat with h | h
  · exact hne k (h ▸ hk) hk'
  · rw [h] at hk
    have := (hO.lt k hk').2
    injection hk with hk
    omega
theorem ins_low {m O : List Lt} {x y : Lt} {j : Nat} (hs : Stab m O) (hy : O[j]? = some y) (hn : ¬ cmpL x y < 0) : ∀ i z, i < j + 1 → O[i]? = some z → cmpL z x ≤ 0 := by
  intro i z hi hz
  have hyx : cmpL y x ≤ 0 := by
    have h1 := cmpL_neg x y
    have h2 := cmpL_pos y x
    omega
  have hzy : cmpL z y ≤ 0 := by
    by_cases e : i = j
    · subst e
      have : z = y := Option.some.inj (hz.symm.trans hy)
      subst this
      have := (cmpL_zero z z).2 ⟨rfl, rfl⟩
      omega
    · have hp := List.pairwise_iff_getElem.1 hs.pairs i j (List.getElem?_eq_some_iff.1 hz).1 (List.getElem?_eq_some_iff.1 hy).1 (by omega)
      rw [(List.getElem?_eq_some_iff.1 hz).2, (List.getElem?_eq_some_iff.1 hy).2] at hp
      exact hp
  have h1 := cmpL_pos z y
  have h2 := cmpL_pos y x
  have h3 := cmpL_pos z x
  omega
theorem take_news {w : World} {base g n c a : Nat} {O : List Lt} (h : w.ownsRow base 41 6 (.slice (some ⟨g, 0, none⟩) n c) n (lcells O)) (ha : a ≤ O.length) :
    ∀ p : Addr, some (⟨g, 0, none⟩ : Addr) = some p → ∀ j u, (lcells (O.take a))[j]? = some u → w.cell? (p.add j) = some u := by
  intro p e j u hu
  cases e
  rw [← lcells_take O a ha, List.getElem?_take] at hu
  split at hu
  · rw [addr0]
    have h1 := (List.getElem?_eq_some_iff.1 hu).1
    exact (h.cellAt j (by have := h.1; omega)).trans hu
  · cases hu
theorem lcells_drop (O : List Lt) (a : Nat) (ha : a ≤ O.length) : (lcells O).drop (a * 6) = lcells (O.drop a) := by
  have h := lcells_append (O.take a) (O.drop a)
  rw [List.take_append_drop] at h
  rw [h, List.drop_append_of_le_length (by rw [lcells_length, List.length_take]; omega), List.drop_of_length_le (by rw [lcells_length, List.length_take]; omega), List.nil_append]
theorem drop_news {w : World} {base g n c a : Nat} {O : List Lt} (h : w.ownsRow base 41 6 (.slice (some ⟨g, 0, none⟩) n c) n (lcells O)) (ha : a ≤ O.length) :
    ∀ p : Addr, some (⟨g, a * 6, none⟩ : Addr) = some p → ∀ j u, (lcells (O.drop a))[j]? = some u → w.cell? (p.add j) = some u := by
  intro p e j u hu
  cases e
  rw [← lcells_drop O a ha, List.getElem?_drop] at hu
  have h1 := (List.getElem?_eq_some_iff.1 hu).1
  have e2 : (⟨g, a * 6, none⟩ : Addr).add j = ⟨g, a * 6 + j, none⟩ := by unfold Addr.add; split <;> simp_all
  rw [e2]
  exact (h.cellAt (a * 6 + j) (by have := h.1; omega)).trans hu
theorem drop_none {w : World} {A : Option Addr} {a : Nat} {O : List Lt} (ha : O.length ≤ a) : ∀ p : Addr, A = some p → ∀ j u, (lcells (O.drop a))[j]? = some u → w.cell? (p.add j) = some u := by
  intro p e j u hu
  rw [List.drop_of_length_le ha] at hu
  simp [lcells] at hu
theorem ins_end {w : World} {base a : Nat} {v : Value} {O : List Lt} {x : Lt} (h : w.ownsRow base 41 6 v (0 + a + 1 + (O.length - a)) ([] ++ lcells (O.take a) ++ encL x ++ lcells (O.drop a))) (ha : a ≤ O.length) :
    w.ownsRow base 41 6 v (O.take a ++ x :: O.drop a).length (lcells (O.take a ++ x :: O.drop a)) := by
  have e1 : (O.take a ++ x :: O.drop a).length = 0 + a + 1 + (O.length - a) := by rw [List.length_append, List.length_cons, List.length_take, List.length_drop]; omega
  have e2 : lcells (O.take a ++ x :: O.drop a) = [] ++ lcells (O.take a) ++ encL x ++ lcells (O.drop a) := by rw [lcells_append]; simp [lcells]
  rw [e1, e2]; exact h
theorem ins_end0 {w : World} {base a : Nat} {v : Value} {O : List Lt} {x : Lt} (h : w.ownsRow base 41 6 v (0 + a + 1 + 0) ([] ++ lcells (O.take a) ++ encL x ++ [])) (ha : a ≤ O.length) (ha2 : O.length ≤ a) :
    w.ownsRow base 41 6 v (O.take a ++ x :: O.drop a).length (lcells (O.take a ++ x :: O.drop a)) := by
  refine ins_end ?_ ha
  rw [show O.length - a = 0 by omega, List.drop_of_length_le ha2]
  exact h
/-- What stands while the next one is put together: below, the old row, and that they lie apart. -/
def Ins (w0 w : World) (vO v : Value) (n : Nat) (xs : List Value) : Prop := Below w0.heap.size w0 w ∧ w.ownsRow w0.heap.size 41 6 vO n xs ∧ ∀ k, v.ownBlock = some k → vO.ownBlock ≠ some k
theorem ins_step {w0 wc w1 : World} {vO v v1 : Value} {n m : Nat} {xs ys : List Value} {o : Obj} (hb : Below w0.heap.size w0 wc) (hO : (wc.alloc o).ownsRow w0.heap.size 41 6 vO n xs) (hv : (wc.alloc o).ownsRow w0.heap.size 41 6 v m ys)
    (hg : (wc.alloc o).grownBy w1 v.ownBlock) (hat : v1.ownBlock = v.ownBlock ∨ v1.ownBlock = some (wc.alloc o).heap.size) (hne : ∀ k, v.ownBlock = some k → vO.ownBlock ≠ some k) (hB : w0.heap.size ≤ wc.heap.size) : Ins w0 w1 vO v1 n xs :=
  ⟨(hb.alloc hB _).grown hg (by simp only [World.size_alloc]; omega) (fun k hk => (hv.lt k hk).1), beside hO hg hne, fun k hk hk' => beside_next hO hne hat k hk hk'⟩
theorem ins_more {w0 w1 w2 : World} {vO v1 v2 : Value} {n m : Nat} {xs ys : List Value} {o : Obj} (h : Ins w0 w1 vO v1 n xs) (hv : w1.ownsRow w0.heap.size 41 6 v1 m ys)
    (hg : (w1.alloc o).grownBy w2 v1.ownBlock) (hat : v2.ownBlock = v1.ownBlock ∨ v2.ownBlock = some (w1.alloc o).heap.size) : Ins w0 w2 vO v2 n xs :=
  ins_step h.1 (h.2.1.alloc o) (hv.alloc o) hg hat h.2.2 h.1.size
theorem all_news {w : World} {base g n c : Nat} {O : List Lt} (h : w.ownsRow base 41 6 (.slice (some ⟨g, 0, none⟩) n c) n (lcells O)) :
    ∀ p : Addr, some (⟨g, 0, none⟩ : Addr) = some p → ∀ j u, (lcells O)[j]? = some u → w.cell? (p.add j) = some u := by
  intro p e j u hu
  cases e
  rw [addr0]
  have h1 := (List.getElem?_eq_some_iff.1 hu).1
  exact (h.cellAt j (by have := h.1; omega)).trans hu
theorem ins_all {w : World} {base : Nat} {v : Value} {O : List Lt} {x : Lt} (h : w.ownsRow base 41 6 v (0 + 0 + 1 + O.length) ([] ++ [] ++ encL x ++ lcells O)) :
    w.ownsRow base 41 6 v (x :: O).length (lcells (x :: O)) := by
  have e1 : (x :: O).length = 0 + 0 + 1 + O.length := by rw [List.length_cons]; omega
  rw [e1]; exact h
theorem lt_cmp (x y : Lt) : ∃ bc : Bool, bc = decide (cmpL x y < 0) := ⟨_, rfl⟩

set_option maxRecDepth 100000 in
set_option maxHeartbeats 4000000 in
theorem refSort_any (v : Value) (l : List Lt) (w : World) (hlen : l.length ≤ 1048576) (hv : LSl w w.heap.size v l) :
    Calls Tryz.prog 16 #[v] w fun e w' => ∃ v' out, e = .returned v' ∧ Stab l out ∧ LSl w' w'.heap.size v' out ∧ Go.RowKit.Below w.heap.size w w' := by
  obtain ⟨i0, hi, hz0, hz1, hz2⟩ := info_parts infoLot
  obtain ⟨A, c, rfl, hc1, hc2, hcz, hl⟩ := id hv
  have H1 := Lib.hid hi
  have H2 := Lib.hid hz0
  have H3 := Lib.hid hz1
  have H4 := Lib.hid hz2
  have HL := Lib.hid hv
  clear hi hz0 hz1 hz2 hl hv
  go_enter Tryz.func16, Tryz.ntmps16
  go_wp2
  go_loopw [3, 4] (fun r i wr => ∃ (k : Nat) (O : List Lt), k ≤ l.length ∧ O.length = k ∧ i = .int .i64 k ∧ Hid (Stab (l.take k) O) ∧ Hid (wr.ownsRow w.heap.size 41 6 r O.length (lcells O)) ∧ Hid (Go.RowKit.Below w.heap.size w wr))
    (fun _ i _ => l.length - (intOf i).toNat)
  case atStart => exact ⟨0, [], Nat.zero_le _, rfl, rfl, Lib.hid stab_nil, Lib.hid (World.ownsRow_nil _ _ _ _), Lib.hid (Below.refl _ _)⟩
  case round =>
    obtain ⟨k, O, hk, hOk, rfl, HS, HR, HB⟩ := hrel
    have hk1 : O.length ≤ k := by omega
    have hk2 : k ≤ O.length := by omega
    clear hOk
    by_cases hlt : k < l.length
    · obtain ⟨x, hx⟩ : ∃ x, l[k]? = some x := ⟨_, List.getElem?_eq_getElem hlt⟩
      have HX := Lib.hid hx
      clear hx
      obtain ⟨wA, rfl⟩ : ∃ wA : World, wA = wr := ⟨_, rfl⟩
      obtain ⟨Ao, co, rfl, hco1, hco2, hcoz⟩ := own_form HR.out
      have HLA := Lib.hid (HL.out.at_ HB.out)
      have HOA := Lib.hid (LSl.own HR.out)
      have hBs : w.heap.size ≤ wA.heap.size := HB.out.size
      go_wp2
      go_loopw [5] (fun i wi => ∃ a : Nat, a ≤ O.length ∧ i = .int .i64 a ∧ Hid (∀ j y, a ≤ j → O[j]? = some y → cmpL x y < 0) ∧ Hid (Go.RowKit.Below wA.heap.size wA wi)) (fun i _ => (intOf i).toNat)
      case atStart => exact ⟨O.length, Nat.le_refl _, rfl, Lib.hid (fun j y hj hy => by have := (List.getElem?_eq_some_iff.1 hy).1; omega), Lib.hid (Below.refl _ _)⟩
      case round =>
        obtain ⟨a, ha, rfl, HQ, HBi⟩ := hrel
        by_cases ha0 : 0 < a
        · obtain ⟨j, rfl⟩ : ∃ j, a = j + 1 := ⟨a - 1, by omega⟩
          obtain ⟨y, hy⟩ : ∃ y, O[j]? = some y := ⟨_, List.getElem?_eq_getElem (by omega)⟩
          have HY := Lib.hid hy
          obtain ⟨ad, had, _⟩ := HLA.out.six HX.out
          obtain ⟨ao, hao, _⟩ := HOA.out.six hy
          subst had hao
          have hcv : ∀ W, Calls Tryz.prog 33 #[agX x, agX y] W fun e w' => e = .returned (.int .i64 (cmpL x y)) ∧ Below W.heap.size W w' := fun W => comparer_any x y W
          obtain ⟨bc, hbc⟩ := lt_cmp x y
          have HBC := Lib.hid hbc
          have hbc2 : decide (cmpL x y < 0) = bc := hbc.symm
          have hrng := cmpL_rng x y
          generalize cmpL x y = cv at hcv hbc2 hrng
          have HCV := Lib.hid hcv
          clear hy hcv hbc
          have hltK : (k : Int) < (l.length : Int) := by omega
          have hltJ : (j : Int) < (O.length : Int) := by omega
          have e1 : IntKind.i64.wrap ((j : Int) + 1 - 1) = (j : Int) := by rw [IntKind.wrap_i64]; omega
          have e2 : (j : Int) + 1 - 1 = (j : Int) := by omega
          have e3 : IntKind.i64.wrap (j : Int) = (j : Int) := by rw [IntKind.wrap_i64]; omega
          go_upto_region 6 with (fail)
          go_cut [29] (fun v wx => v = .bool bc ∧ Below wA.heap.size wA wx)
          case first =>
            have hS : (fun w' => Below wA.heap.size wA w') wr.drew := HBi.out.drew
            refine wp_region_held_drew (S := fun w' => Below wA.heap.size wA w') (by kernel_rfl) hS (fun hS => ?_)
            refine wpAnyH_take (i := 0) (v := ((.int .i64 ((j : Int) + 1)))) rfl (by kernel_rfl) (by kernel_rfl) (by kernel_rfl) (fun _ _ _ h => h) (Or.inl ⟨by kernel_rfl, fun w' hS' => by go_simp⟩) hS ?_
            refine wpAnyH_take (i := 1) (v := ((.bool true))) rfl (by kernel_rfl) (by kernel_rfl) (by kernel_rfl) (fun _ _ _ h => h) (Or.inl ⟨by kernel_rfl, fun w' hS' => by go_simp⟩) hS ?_
            refine wpAnyH_take (i := 2) (v := ((.bool true))) rfl (by kernel_rfl) (by kernel_rfl) (by kernel_rfl) (fun _ _ _ h => h) (Or.inl ⟨by kernel_rfl, fun w' hS' => by go_simp⟩) hS ?_
            refine wpAnyH_take (i := 3) (v := ((.slice (some ad) l.length c))) rfl (by kernel_rfl) (by kernel_rfl) (by kernel_rfl) (fun _ _ _ h => h) (Or.inl ⟨by kernel_rfl, fun w' hS' => by go_simp⟩) hS ?_
            refine wpAnyH_take (i := 4) (v := ((.int .i64 (k : Int)))) rfl (by kernel_rfl) (by kernel_rfl) (by kernel_rfl) (fun _ _ _ h => h) (Or.inl ⟨by kernel_rfl, fun w' hS' => by go_simp⟩) hS ?_
            refine wpAnyH_take (i := 5) (v := ((.pointer (some (ad.add (k * 6)))))) rfl (by kernel_rfl) (by kernel_rfl) (by kernel_rfl) (fun _ _ _ h => h) (Or.inl ⟨by kernel_rfl, fun w' hS' => by go_simp; try (intro h; exact absurd h (by omega))⟩) hS ?_
            refine wpAnyH_take (i := 6) (v := ((agX x))) rfl (by kernel_rfl) (by kernel_rfl) (by kernel_rfl) (fun _ _ _ h => h) (Or.inl ⟨by kernel_rfl, fun w' hS' => by have hL := ((HLA.out.below hS').six HX.out); obtain ⟨ad', had, _, d0, d1, d2, d3, d4, d5⟩ := hL; cases had; go_simp⟩) hS ?_
            refine wpAnyH_take (i := 7) (v := ((.slice (some ao) O.length co))) rfl (by kernel_rfl) (by kernel_rfl) (by kernel_rfl) (fun _ _ _ h => h) (Or.inl ⟨by kernel_rfl, fun w' hS' => by go_simp⟩) hS ?_
            refine wpAnyH_take (i := 8) (v := ((.int .i64 ((j : Int) + 1)))) rfl (by kernel_rfl) (by kernel_rfl) (by kernel_rfl) (fun _ _ _ h => h) (Or.inl ⟨by kernel_rfl, fun w' hS' => by go_simp⟩) hS ?_
            refine wpAnyH_take (i := 9) (v := ((.int .i64 (j : Int)))) rfl (by kernel_rfl) (by kernel_rfl) (by kernel_rfl) (fun _ _ _ h => h) (Or.inl ⟨by kernel_rfl, fun w' hS' => by go_simp⟩) hS ?_
            refine wpAnyH_take (i := 10) (v := ((.pointer (some (ao.add (j * 6)))))) rfl (by kernel_rfl) (by kernel_rfl) (by kernel_rfl) (fun _ _ _ h => h) (Or.inl ⟨by kernel_rfl, fun w' hS' => by go_simp; try (intro h; exact absurd h (by omega))⟩) hS ?_
            refine wpAnyH_take (i := 11) (v := ((agX y))) rfl (by kernel_rfl) (by kernel_rfl) (by kernel_rfl) (fun _ _ _ h => h) (Or.inl ⟨by kernel_rfl, fun w' hS' => by have hL := ((HOA.out.below hS').six HY.out); obtain ⟨ad', had, _, d0, d1, d2, d3, d4, d5⟩ := hL; cases had; go_simp⟩) hS ?_
            refine wpAnyH_ready (rs := [12]) (by kernel_rfl) (by simp) ?_
            refine AllReadyH.cons rfl (fun K hK => ?_) AllReadyH.nil
            go_simp
            refine (HCV.out _).mono ?_
            rintro e w5 ⟨rfl, hby⟩
            refine hK.out _ _ (hS.trans (hby.mono hS.size)) (fun hS => ?_)
            clear hK K hby
            refine wpAnyH_take (i := 13) (v := ((.bool bc))) rfl (by kernel_rfl) (by kernel_rfl) (by kernel_rfl) (fun _ _ _ h => h) (Or.inl ⟨by kernel_rfl, fun w' hS' => by go_simp⟩) hS ?_
            refine wpAnyH_take (i := 14) (v := ((.bool bc))) rfl (by kernel_rfl) (by kernel_rfl) (by kernel_rfl) (fun _ _ _ h => h) (Or.inl ⟨by kernel_rfl, fun w' hS' => by cases bc <;> go_simp⟩) hS ?_
            refine wpAnyH_done (by kernel_rfl) ?_ _
            go_simp
            go_wp2_with fail
            go_meet
            exact ⟨rfl, hS⟩
          case rest =>
            obtain ⟨rfl, hbx⟩ := hcut
            have HBx := Lib.hid hbx
            cases bc
            · have hins : Hid (Stab (l.take (k + 1)) (O.take (j + 1) ++ x :: O.drop (j + 1))) := Lib.hid (stab_insert HX.out HS.out (by omega) (ins_low HS.out HY.out (of_decide_eq_false HBC.out.symm)) (fun i z hi hz => HQ.out i z hi hz))
              obtain ⟨g, cg, hvv, hgb, hgl, _, _⟩ := own_some HR.out (by omega)
              injection hvv with hv1 hv2 hv3
              injection hv1 with hv1
              subst hv1 hv3
              have hOc := row_below HR.out hbx
              have hBc : Below w.heap.size w wc := HB.out.trans (hbx.mono hBs)
              have hOca := hOc.alloc (.cells #[] 41)
              have hN1 := take_news hOca (show j + 1 ≤ O.length by omega)
              have HN1 := Lib.hid hN1
              have HOc := Lib.hid hOca
              have HBc := Lib.hid hBc
              have hBw := hBc.size
              have hne0 : Hid (∀ k, (Value.slice (some ⟨wc.heap.size, 0, none⟩) 0 0).ownBlock = some k → (Value.slice (some ⟨g, 0, none⟩) O.length co).ownBlock ≠ some k) := Lib.hid (by
                intro k hk hk'
                simp [Value.ownBlock] at hk hk'
                have := (hOc.lt g rfl).2
                omega)
              have hlt1 : (O.take (j + 1)).length = j + 1 := by rw [List.length_take]; omega
              have HT1 : Hid ((lcells (O.take (j + 1))).length = (j + 1) * 6) := Lib.hid (by rw [lcells_length, hlt1])
              have HT3 : Hid ((lcells (O.drop (j + 1))).length = (O.length - (j + 1)) * 6) := Lib.hid (by rw [lcells_length, List.length_drop])
              clear hN1 hOca hBc hOc hlt1 HBi hbx HBx
              by_cases hcap : co = j + 1
              · subst hcap
                go_wp2_with (first
                  | (at_builtin; refine wpList_append_any _ rfl (.tmp 32) (.tmp 35) 22 rfl w.heap.size 41 i0 _ 6 56 Tryz.underlying22 H1.out H2.out H3.out H4.out rfl (by decide) _ 0 [] rfl (empty_row wc w.heap.size _ hBw) (some ⟨g, 0, none⟩) (j + 1) (j + 1) (lcells (O.take (j + 1))) rfl HT1.out (by simp) HN1.out (lcells_one _) (by unfold maxLen; omega) (by omega) (by simp only [World.size_alloc]; omega) ?_; intro v1 w1 hown1 hg1 ha1;
                      have HW1 := Lib.hid (ins_step HBc.out HOc.out (empty_row wc w.heap.size _ hBw) hg1.out ha1.out hne0.out hBw); obtain ⟨ad', had', _, d0, d1, d2, d3, d4, d5⟩ := (HL.out.at_ HW1.out.1).six HX.out; cases had'; have HO1 := Lib.hid hown1; clear hown1)
                  | (at_builtin; refine wpList_append_any _ rfl (.tmp 37) (.tmp 42) 22 rfl w.heap.size 41 i0 _ 6 56 Tryz.underlying22 H1.out H2.out H3.out H4.out rfl (by decide) _ (0 + (j + 1)) _ rfl (HO1.out.alloc _) (some ⟨w1.heap.size, 0, none⟩) 1 1 (encL x) rfl rfl (by simp) (fun a e => by cases e; exact six_new w1 x _) (encL_one x) (by unfold maxLen; omega) (by omega) (by simp only [World.size_alloc]; have := HW1.out.1.size; omega) ?_; intro v2 w2 hown2 hg2 ha2;
                      have HW2 := Lib.hid (ins_more HW1.out HO1.out hg2.out ha2.out); have HN3 := Lib.hid (drop_news HW2.out.2.1 (show j + 1 ≤ O.length by omega)); have HO2 := Lib.hid hown2; clear hown2)
                  | (at_builtin; refine wpList_append_any _ rfl (.tmp 44) (.tmp 47) 22 rfl w.heap.size 41 i0 _ 6 56 Tryz.underlying22 H1.out H2.out H3.out H4.out rfl (by decide) _ (0 + (j + 1) + 1) _ rfl HO2.out (some ⟨g, 0, none⟩) 0 0 [] rfl rfl (by simp) (fun _ _ _ _ h => by simp at h) (by simp) (by unfold maxLen; omega) (by omega) HW2.out.1.size ?_; intro v3 w3 hown3 hg3 ha3;
                      have HB3 := Lib.hid (HW2.out.1.grown hg3.out HW2.out.1.size (fun k hk => (HO2.out.lt k hk).1)); have HO3 := Lib.hid hown3; clear hown3))
                go_roundw
                case rel => exact ⟨k + 1, O.take (j + 1) ++ x :: O.drop (j + 1), by omega, by rw [List.length_append, List.length_cons, List.length_take, List.length_drop]; omega, by go_num, hins, Lib.hid (ins_end0 HO3.out (by omega) (by omega)), HB3⟩
                case measure => simp [intOf]; omega
              · have hcap1 : ¬ j + 1 = co := fun e => hcap e.symm
                have hcap2 : j + 1 < co := by omega
                go_wp2_with (first
                  | (at_builtin; refine wpList_append_any _ rfl (.tmp 32) (.tmp 35) 22 rfl w.heap.size 41 i0 _ 6 56 Tryz.underlying22 H1.out H2.out H3.out H4.out rfl (by decide) _ 0 [] rfl (empty_row wc w.heap.size _ hBw) (some ⟨g, 0, none⟩) (j + 1) co (lcells (O.take (j + 1))) rfl HT1.out (by simp) HN1.out (lcells_one _) (by unfold maxLen; omega) (by omega) (by simp only [World.size_alloc]; omega) ?_; intro v1 w1 hown1 hg1 ha1;
                      have HW1 := Lib.hid (ins_step HBc.out HOc.out (empty_row wc w.heap.size _ hBw) hg1.out ha1.out hne0.out hBw); obtain ⟨ad', had', _, d0, d1, d2, d3, d4, d5⟩ := (HL.out.at_ HW1.out.1).six HX.out; cases had'; have HO1 := Lib.hid hown1; clear hown1)
                  | (at_builtin; refine wpList_append_any _ rfl (.tmp 37) (.tmp 42) 22 rfl w.heap.size 41 i0 _ 6 56 Tryz.underlying22 H1.out H2.out H3.out H4.out rfl (by decide) _ (0 + (j + 1)) _ rfl (HO1.out.alloc _) (some ⟨w1.heap.size, 0, none⟩) 1 1 (encL x) rfl rfl (by simp) (fun a e => by cases e; exact six_new w1 x _) (encL_one x) (by unfold maxLen; omega) (by omega) (by simp only [World.size_alloc]; have := HW1.out.1.size; omega) ?_; intro v2 w2 hown2 hg2 ha2;
                      have HW2 := Lib.hid (ins_more HW1.out HO1.out hg2.out ha2.out); have HN3 := Lib.hid (drop_news HW2.out.2.1 (show j + 1 ≤ O.length by omega)); have HO2 := Lib.hid hown2; clear hown2)
                  | (at_builtin; refine wpList_append_any _ rfl (.tmp 44) (.tmp 47) 22 rfl w.heap.size 41 i0 _ 6 56 Tryz.underlying22 H1.out H2.out H3.out H4.out rfl (by decide) _ (0 + (j + 1) + 1) _ rfl HO2.out (some ⟨g, (j + 1) * 6, none⟩) (O.length - (j + 1)) (co - (j + 1)) (lcells (O.drop (j + 1))) rfl HT3.out (by simp) HN3.out (lcells_one _) (by unfold maxLen; omega) (by omega) HW2.out.1.size ?_; intro v3 w3 hown3 hg3 ha3;
                      have HB3 := Lib.hid (HW2.out.1.grown hg3.out HW2.out.1.size (fun k hk => (HO2.out.lt k hk).1)); have HO3 := Lib.hid hown3; clear hown3))
                go_roundw
                case rel => exact ⟨k + 1, O.take (j + 1) ++ x :: O.drop (j + 1), by omega, by rw [List.length_append, List.length_cons, List.length_take, List.length_drop]; omega, by go_num, hins, Lib.hid (ins_end HO3.out (by omega)), HB3⟩
                case measure => simp [intOf]; omega
            · clear HBi hbx
              go_wp2
              go_roundw
              case rel => exact ⟨j, by omega, by go_num, Lib.hid (fun i z hi hz => by
                by_cases e : i = j
                · subst e
                  have : z = y := Option.some.inj (hz.symm.trans HY.out)
                  subst this
                  exact of_decide_eq_true HBC.out.symm
                · exact HQ.out i z (by omega) hz), HBx⟩
              case measure => simp [intOf] <;> omega
        · obtain rfl : a = 0 := by omega
          go_upto_region 6 with (fail)
          go_cut [29] (fun v wx => v = .bool false ∧ Below wA.heap.size wA wx)
          case first =>
            have hS : (fun w' => Below wA.heap.size wA w') wr.drew := HBi.out.drew
            refine wp_region_held_drew (S := fun w' => Below wA.heap.size wA w') (by kernel_rfl) hS (fun hS => ?_)
            refine wpAnyH_take (i := 0) (v := ((.int .i64 0))) rfl (by kernel_rfl) (by kernel_rfl) (by kernel_rfl) (fun _ _ _ h => h) (Or.inl ⟨by kernel_rfl, fun w' hS' => by go_simp⟩) hS ?_
            refine wpAnyH_take (i := 1) (v := ((.bool false))) rfl (by kernel_rfl) (by kernel_rfl) (by kernel_rfl) (fun _ _ _ h => h) (Or.inl ⟨by kernel_rfl, fun w' hS' => by go_simp⟩) hS ?_
            refine wpAnyH_take (i := 2) (v := ((.bool false))) rfl (by kernel_rfl) (by kernel_rfl) (by kernel_rfl) (fun _ _ _ h => h) (Or.inl ⟨by kernel_rfl, fun w' hS' => by go_simp⟩) hS ?_
            refine wpAnyH_take (i := 3) (v := (undef)) rfl (by kernel_rfl) (by kernel_rfl) (by kernel_rfl) (fun _ _ _ h => h) (Or.inr ⟨by kernel_rfl, rfl⟩) hS ?_
            refine wpAnyH_take (i := 4) (v := (undef)) rfl (by kernel_rfl) (by kernel_rfl) (by kernel_rfl) (fun _ _ _ h => h) (Or.inr ⟨by kernel_rfl, rfl⟩) hS ?_
            refine wpAnyH_take (i := 5) (v := (undef)) rfl (by kernel_rfl) (by kernel_rfl) (by kernel_rfl) (fun _ _ _ h => h) (Or.inr ⟨by kernel_rfl, rfl⟩) hS ?_
            refine wpAnyH_take (i := 6) (v := (undef)) rfl (by kernel_rfl) (by kernel_rfl) (by kernel_rfl) (fun _ _ _ h => h) (Or.inr ⟨by kernel_rfl, rfl⟩) hS ?_
            refine wpAnyH_take (i := 7) (v := (undef)) rfl (by kernel_rfl) (by kernel_rfl) (by kernel_rfl) (fun _ _ _ h => h) (Or.inr ⟨by kernel_rfl, rfl⟩) hS ?_
            refine wpAnyH_take (i := 8) (v := (undef)) rfl (by kernel_rfl) (by kernel_rfl) (by kernel_rfl) (fun _ _ _ h => h) (Or.inr ⟨by kernel_rfl, rfl⟩) hS ?_
            refine wpAnyH_take (i := 9) (v := (undef)) rfl (by kernel_rfl) (by kernel_rfl) (by kernel_rfl) (fun _ _ _ h => h) (Or.inr ⟨by kernel_rfl, rfl⟩) hS ?_
            refine wpAnyH_take (i := 10) (v := (undef)) rfl (by kernel_rfl) (by kernel_rfl) (by kernel_rfl) (fun _ _ _ h => h) (Or.inr ⟨by kernel_rfl, rfl⟩) hS ?_
            refine wpAnyH_take (i := 11) (v := (undef)) rfl (by kernel_rfl) (by kernel_rfl) (by kernel_rfl) (fun _ _ _ h => h) (Or.inr ⟨by kernel_rfl, rfl⟩) hS ?_
            refine wpAnyH_take (i := 12) (v := (undef)) rfl (by kernel_rfl) (by kernel_rfl) (by kernel_rfl) (fun _ _ _ h => h) (Or.inr ⟨by kernel_rfl, rfl⟩) hS ?_
            refine wpAnyH_take (i := 13) (v := (undef)) rfl (by kernel_rfl) (by kernel_rfl) (by kernel_rfl) (fun _ _ _ h => h) (Or.inr ⟨by kernel_rfl, rfl⟩) hS ?_
            refine wpAnyH_take (i := 14) (v := ((.bool false))) rfl (by kernel_rfl) (by kernel_rfl) (by kernel_rfl) (fun _ _ _ h => h) (Or.inl ⟨by kernel_rfl, fun w' hS' => by go_simp⟩) hS ?_
            refine wpAnyH_done (by kernel_rfl) ?_ _
            go_simp
            go_wp2_with fail
            go_meet
            exact ⟨rfl, hS⟩
          case rest =>
            obtain ⟨rfl, hbx⟩ := hcut
            have hins : Hid (Stab (l.take (k + 1)) (x :: O)) := Lib.hid (by
              have := stab_insert HX.out HS.out (Nat.zero_le _) (fun j y hj => absurd hj (by omega)) (fun j y hj hy => HQ.out j y hj hy)
              simpa using this)
            obtain ⟨ad, had, _⟩ := HLA.out.six HX.out
            subst had
            clear HOA
            rcases HR.out.2 with ⟨hvv, hO0⟩ | ⟨g, cg, cur, hvv, hgb, hgh, _⟩
            · injection hvv with hv1 hv2 hv3
              subst hv1 hv3
              obtain rfl : O = [] := List.eq_nil_of_length_eq_zero hO0
              simp only [List.length_nil] at HR hk1 hk2 hco1 ⊢
              have hOc := row_below HR.out hbx
              have hBc : Below w.heap.size w wc := HB.out.trans (hbx.mono hBs)
              have HOc := Lib.hid (hOc.alloc (.cells #[] 41))
              have HBc := Lib.hid hBc
              have hBw := hBc.size
              have hne0 : Hid (∀ k, (Value.slice (some ⟨wc.heap.size, 0, none⟩) 0 0).ownBlock = some k → (Value.slice none 0 0).ownBlock ≠ some k) := Lib.hid (by
                intro k hk hk'
                simp [Value.ownBlock] at hk')
              clear hBc hOc HBi hbx
              go_wp2_with (first
                | (at_builtin; refine wpList_append_any _ rfl (.tmp 32) (.tmp 35) 22 rfl w.heap.size 41 i0 _ 6 56 Tryz.underlying22 H1.out H2.out H3.out H4.out rfl (by decide) _ 0 [] rfl (empty_row wc w.heap.size _ hBw) none 0 0 [] rfl rfl (by simp) (fun _ _ _ _ h => by simp at h) (by simp) (by unfold maxLen; omega) (by omega) (by simp only [World.size_alloc]; omega) ?_; intro v1 w1 hown1 hg1 ha1;
                                  have HW1 := Lib.hid (ins_step HBc.out HOc.out (empty_row wc w.heap.size _ hBw) hg1.out ha1.out hne0.out hBw); obtain ⟨ad', had', _, d0, d1, d2, d3, d4, d5⟩ := (HL.out.at_ HW1.out.1).six HX.out; cases had'; have HO1 := Lib.hid hown1; clear hown1)
                | (at_builtin; refine wpList_append_any _ rfl (.tmp 37) (.tmp 42) 22 rfl w.heap.size 41 i0 _ 6 56 Tryz.underlying22 H1.out H2.out H3.out H4.out rfl (by decide) _ (0 + 0) _ rfl (HO1.out.alloc _) (some ⟨w1.heap.size, 0, none⟩) 1 1 (encL x) rfl rfl (by simp) (fun a e => by cases e; exact six_new w1 x _) (encL_one x) (by unfold maxLen; omega) (by omega) (by simp only [World.size_alloc]; have := HW1.out.1.size; omega) ?_; intro v2 w2 hown2 hg2 ha2;
                                  have HW2 := Lib.hid (ins_more HW1.out HO1.out hg2.out ha2.out); have HO2 := Lib.hid hown2; clear hown2)
                | (at_builtin; refine wpList_append_any _ rfl (.tmp 44) (.tmp 47) 22 rfl w.heap.size 41 i0 _ 6 56 Tryz.underlying22 H1.out H2.out H3.out H4.out rfl (by decide) _ (0 + 0 + 1) _ rfl HO2.out none 0 0 [] rfl rfl (by simp) (fun _ _ _ _ h => by simp at h) (by simp) (by unfold maxLen; omega) (by omega) HW2.out.1.size ?_; intro v3 w3 hown3 hg3 ha3;
                                  have HB3 := Lib.hid (HW2.out.1.grown hg3.out HW2.out.1.size (fun k hk => (HO2.out.lt k hk).1)); have HO3 := Lib.hid hown3; clear hown3))
              go_roundw
              case rel => exact ⟨k + 1, [x], by omega, by simp at hk1 hk2 ⊢; omega, by go_num, hins, Lib.hid (by simpa [lcells] using HO3.out), HB3⟩
              case measure => simp [intOf]; omega
            · have hgl : g < wA.heap.size := (Array.getElem?_eq_some_iff.1 hgh).1
              injection hvv with hv1 hv2 hv3
              subst hv1 hv3
              have hOc := row_below HR.out hbx
              have hBc : Below w.heap.size w wc := HB.out.trans (hbx.mono hBs)
              have HOc := Lib.hid (hOc.alloc (.cells #[] 41))
              have HBc := Lib.hid hBc
              have hBw := hBc.size
              have hne0 : Hid (∀ k, (Value.slice (some ⟨wc.heap.size, 0, none⟩) 0 0).ownBlock = some k → (Value.slice (some ⟨g, 0, none⟩) O.length co).ownBlock ≠ some k) := Lib.hid (by
                intro k hk hk'
                simp [Value.ownBlock] at hk hk'
                have := (hOc.lt g rfl).2
                omega)
              have HT3 : Hid ((lcells O).length = O.length * 6) := Lib.hid (lcells_length O)
              clear hBc hOc HBi hbx
              go_wp2_with (first
                | (at_builtin; refine wpList_append_any _ rfl (.tmp 32) (.tmp 35) 22 rfl w.heap.size 41 i0 _ 6 56 Tryz.underlying22 H1.out H2.out H3.out H4.out rfl (by decide) _ 0 [] rfl (empty_row wc w.heap.size _ hBw) (some ⟨g, 0, none⟩) 0 co [] rfl rfl (by simp) (fun _ _ _ _ h => by simp at h) (by simp) (by unfold maxLen; omega) (by omega) (by simp only [World.size_alloc]; omega) ?_; intro v1 w1 hown1 hg1 ha1;
                                  have HW1 := Lib.hid (ins_step HBc.out HOc.out (empty_row wc w.heap.size _ hBw) hg1.out ha1.out hne0.out hBw); obtain ⟨ad', had', _, d0, d1, d2, d3, d4, d5⟩ := (HL.out.at_ HW1.out.1).six HX.out; cases had'; have HO1 := Lib.hid hown1; clear hown1)
                | (at_builtin; refine wpList_append_any _ rfl (.tmp 37) (.tmp 42) 22 rfl w.heap.size 41 i0 _ 6 56 Tryz.underlying22 H1.out H2.out H3.out H4.out rfl (by decide) _ (0 + 0) _ rfl (HO1.out.alloc _) (some ⟨w1.heap.size, 0, none⟩) 1 1 (encL x) rfl rfl (by simp) (fun a e => by cases e; exact six_new w1 x _) (encL_one x) (by unfold maxLen; omega) (by omega) (by simp only [World.size_alloc]; have := HW1.out.1.size; omega) ?_; intro v2 w2 hown2 hg2 ha2;
                                  have HW2 := Lib.hid (ins_more HW1.out HO1.out hg2.out ha2.out); have HN3 := Lib.hid (all_news HW2.out.2.1); have HO2 := Lib.hid hown2; clear hown2)
                | (at_builtin; refine wpList_append_any _ rfl (.tmp 44) (.tmp 47) 22 rfl w.heap.size 41 i0 _ 6 56 Tryz.underlying22 H1.out H2.out H3.out H4.out rfl (by decide) _ (0 + 0 + 1) _ rfl HO2.out (some ⟨g, 0, none⟩) O.length co (lcells O) rfl HT3.out (by simp) HN3.out (lcells_one _) (by unfold maxLen; omega) (by omega) HW2.out.1.size ?_; intro v3 w3 hown3 hg3 ha3;
                                  have HB3 := Lib.hid (HW2.out.1.grown hg3.out HW2.out.1.size (fun k hk => (HO2.out.lt k hk).1)); have HO3 := Lib.hid hown3; clear hown3))
              go_roundw
              case rel => exact ⟨k + 1, x :: O, by omega, by rw [List.length_cons]; omega, by go_num, hins, Lib.hid (ins_all HO3.out), HB3⟩
              case measure => simp [intOf]; omega
    · obtain rfl : k = l.length := by omega
      have hst := HS.out
      rw [List.take_length] at hst
      have HST := Lib.hid hst
      clear hst
      go_wp2
      go_ret
      exact ⟨_, O, rfl, HST.out, LSl.own HR.out, HB.out⟩
end Go.Proofs.YtjhijinbpdnmeaaGreat
end
section
/- A list of lots that was lent: as a slice of lots, and with its marks; what the law asks, on lists alone. No walk. -/
namespace Go.Proofs.YtjhijinbpdnmeaaGreat
open Go.ChangeShapes Go.WideShapes Go.ChangeAt Go.RowKit Go.Maps
set_option linter.unusedVariables false

def LentAt (w : World) (g : Nat) (l : List Lt) : Prop := w.ownsRow g 41 6 (.slice (some ⟨g, 0, none⟩) (l.length + 12) (l.length + 12)) (l.length + 12) (lcells (l ++ marksL 1 12))
theorem LentAt.row {w : World} {g : Nat} {l : List Lt} (h : LentAt w g l) : w.ownsRow g 41 6 (.slice (some ⟨g, 0, none⟩) (l.length + 12) (l.length + 12)) (l.length + 12) (lcells (l ++ marksL 1 12)) := h
theorem LentAt.still {w w' : World} {g : Nat} {l : List Lt} (h : LentAt w g l) (hb : w.grownBy w' none) : LentAt w' g l := World.ownsRow.kept h hb (.inr (by simp [Value.ownBlock]))
theorem LentAt.block {w : World} {g : Nat} {l : List Lt} (h : LentAt w g l) : g < w.heap.size := (World.ownsRow.lt h g rfl).2
theorem LentAt.lies {w : World} {g B : Nat} {l : List Lt} (h : LentAt w g l) (hB : g < B) : Lies w B (some ⟨g, 0, none⟩) (lcells (l ++ marksL 1 12)) := fun _ =>
  ⟨⟨g, 0, none⟩, rfl, hB, fun j u hj => by
    rw [addr0]
    have hlen : j < (lcells (l ++ marksL 1 12)).length := (List.getElem?_eq_some_iff.mp hj).1
    have h1 := h.1
    exact (World.ownsRow.cellAt h j (by omega)).trans hj⟩
theorem LentAt.lsl {w : World} {g : Nat} {l : List Lt} (h : LentAt w g l) : LSl w w.heap.size (.slice (some ⟨g, 0, none⟩) l.length (l.length + 12)) l := by
  have h1 := own_prefix (n := l.length) (m := 12) h
  rw [lcells_take _ _ (by simp), List.take_left] at h1
  exact LSl.own h1
theorem own_stay {w w' : World} {base e size n : Nat} {v : Value} {xs : List Value} (h : w.ownsRow base e size v n xs) (hg : w.grownBy w' none) : w'.ownsRow base e size v n xs := h.kept hg (by cases v.ownBlock <;> simp)
theorem own_over {w w' : World} {base e size n g : Nat} {v : Value} {xs : List Value} (h : w.ownsRow base e size v n xs) (hg : w.grownBy w' (some g)) (hb : g < base) : w'.ownsRow base e size v n xs :=
  h.kept hg (.inr fun hv => by have := (h.lt g hv).1; omega)
theorem below_over {w w1 w2 : World} {g : Nat} (h : Go.RowKit.Below w.heap.size w w1) (hg : w1.grownBy w2 (some g)) (hb : w.heap.size ≤ g) : Go.RowKit.Below w.heap.size w w2 :=
  h.grown hg h.size (fun k hk => by cases hk; exact hb)
theorem below_none0 {w w' : World} (h : Go.RowKit.Below w.heap.size w w') : w.grownBy w' none := ⟨h.os, h.tape, h.output, h.size, fun i hi _ => h.block i hi⟩

/-- The four lists that the law has, and where they are. -/
structure Four (w W : World) (v1 v2 v3 v4 : Value) (S O L G : List Lt) : Prop where
  low : Go.RowKit.Below w.heap.size w W
  ex : ∃ b1 b2 b3 b4, w.heap.size < b1 ∧ b1 ≤ b2 ∧ b2 ≤ b3 ∧ b3 ≤ b4 ∧
    W.ownsRow b1 41 6 v1 S.length (lcells S) ∧ W.ownsRow b2 41 6 v2 O.length (lcells O) ∧ W.ownsRow b3 41 6 v3 L.length (lcells L) ∧ W.ownsRow b4 41 6 v4 G.length (lcells G) ∧
    (∀ b, v1.ownBlock = some b → b < b2) ∧ (∀ b, v2.ownBlock = some b → b < b3) ∧ (∀ b, v3.ownBlock = some b → b < b4)
theorem Four.next {w W W' : World} {v1 v2 v3 v4 : Value} {S O L G : List Lt} (h : Four w W v1 v2 v3 v4 S O L G) (hb : Go.RowKit.Below W.heap.size W W') : Four w W' v1 v2 v3 v4 S O L G := by
  obtain ⟨hl, b1, b2, b3, b4, h0, h1, h2, h3, o1, o2, o3, o4, k⟩ := h
  exact ⟨hl.trans (hb.mono hl.size), b1, b2, b3, b4, h0, h1, h2, h3, own_stay o1 (below_none0 hb), own_stay o2 (below_none0 hb), own_stay o3 (below_none0 hb), own_stay o4 (below_none0 hb), k⟩
theorem Four.over {w W W' : World} {v1 v2 v3 v4 : Value} {S O L G : List Lt} (h : Four w W v1 v2 v3 v4 S O L G) (hg : W.grownBy W' (some w.heap.size)) : Four w W' v1 v2 v3 v4 S O L G := by
  obtain ⟨hl, b1, b2, b3, b4, h0, h1, h2, h3, o1, o2, o3, o4, k⟩ := h
  exact ⟨below_over hl hg (Nat.le_refl _), b1, b2, b3, b4, h0, h1, h2, h3, own_over o1 hg h0, own_over o2 hg (by omega), own_over o3 hg (by omega), own_over o4 hg (by omega), k⟩
theorem Four.s {w W : World} {v1 v2 v3 v4 : Value} {S O L G : List Lt} (h : Four w W v1 v2 v3 v4 S O L G) : LSl W W.heap.size v1 S := by
  obtain ⟨_, b1, b2, b3, b4, _, _, _, _, o1, o2, o3, o4, _⟩ := h; exact LSl.own o1
theorem Four.o {w W : World} {v1 v2 v3 v4 : Value} {S O L G : List Lt} (h : Four w W v1 v2 v3 v4 S O L G) : LSl W W.heap.size v2 O := by
  obtain ⟨_, b1, b2, b3, b4, _, _, _, _, o1, o2, o3, o4, _⟩ := h; exact LSl.own o2
theorem Four.l {w W : World} {v1 v2 v3 v4 : Value} {S O L G : List Lt} (h : Four w W v1 v2 v3 v4 S O L G) : LSl W W.heap.size v3 L := by
  obtain ⟨_, b1, b2, b3, b4, _, _, _, _, o1, o2, o3, o4, _⟩ := h; exact LSl.own o3
theorem Four.g {w W : World} {v1 v2 v3 v4 : Value} {S O L G : List Lt} (h : Four w W v1 v2 v3 v4 S O L G) : LSl W W.heap.size v4 G := by
  obtain ⟨_, b1, b2, b3, b4, _, _, _, _, o1, o2, o3, o4, _⟩ := h; exact LSl.own o4

/-- What the law asks, in words of lists alone. -/
structure LawFacts (day : Int) (s : List UInt8) (l S O L G : List Lt) (N : Int) : Prop where
  sizes : S.length ≤ 400 ∧ O.length ≤ 400 ∧ L.length ≤ 400 ∧ G.length ≤ 400
  sort : ∀ v W, LSl W W.heap.size v l → Calls Tryz.prog 8 #[v] W (KeepsTo S W)
  ofs : ∀ v W, LSl W W.heap.size v l → Calls Tryz.prog 9 #[v, .string ⟨s.toArray⟩] W (KeepsTo O W)
  sweep : ∀ v W, LSl W W.heap.size v l → Calls Tryz.prog 10 #[v, .int .i64 day] W (SweepsTo L G W)
  on : ∀ v W, LSl W W.heap.size v l → Calls Tryz.prog 11 #[v, .int .i64 day] W fun e w' => e = .returned (.int .i64 N) ∧ Go.RowKit.Below W.heap.size W w'
  rsort : ∀ v W, LSl W W.heap.size v l → Calls Tryz.prog 16 #[v] W (ReadsTo S W)
  rof : ∀ v W, LSl W W.heap.size v l → Calls Tryz.prog 17 #[v, .string ⟨s.toArray⟩] W (ReadsTo O W)
  rsweep : ∀ v W, LSl W W.heap.size v l → Calls Tryz.prog 14 #[v, .int .i64 day] W (ReadsTwo L G W)
  ron : ∀ v W, LSl W W.heap.size v l → Calls Tryz.prog 18 #[v, .int .i64 day] W fun e w' => e = .returned (.int .i64 N) ∧ Go.RowKit.Below W.heap.size W w'
theorem stab_ex (l : List Lt) : ∃ S, Stab l S := by
  refine ⟨(l.zipIdx.mergeSort (fun p q => !ltP q p)).map Prod.fst, _, rfl, List.mergeSort_perm _ _, ?_⟩
  have h := List.pairwise_mergeSort (le := fun p q => !ltP q p) (fun a b c h1 h2 => by
    simp only [Bool.not_eq_true', ltP_false] at h1 h2 ⊢
    omega) (fun a b => by
    by_cases h : ltP b a = true
    · have : ltP a b = false := by rw [ltP_true] at h; rw [ltP_false]; omega
      simp [this]
    · simp [h]) l.zipIdx
  exact h.imp fun {p q} hpq => by simpa using hpq
theorem lawFacts (day : Int) (s : List UInt8) (l : List Lt) (hl : l.length ≤ 400) : ∃ S O L G N, LawFacts day s l S O L G N := by
  obtain ⟨S, hS⟩ := stab_ex l
  have hSl := hS.length
  refine ⟨S, l.filter (ofB s), l.filter (fun x => !overB day x), l.filter (overB day), onSum day l, ⟨⟨by omega, Nat.le_trans (List.length_filter_le _ _) hl, Nat.le_trans (List.length_filter_le _ _) hl, Nat.le_trans (List.length_filter_le _ _) hl⟩,
    fun v W h => ?_, fun v W h => ofList_any s v l W (by omega) h, fun v W h => sweep_any day v l W (by omega) h, fun v W h => onSum_any day v l W (by omega) h, fun v W h => ?_, fun v W h => refOf_any s v l W (by omega) h, fun v W h => refSweep_any day v l W (by omega) h, fun v W h => refOn_any day v l W (by omega) h⟩⟩
  · refine (sort_any v l W (by omega) h).mono ?_
    rintro e w' ⟨v', out, he, ho, hr, hb⟩
    obtain rfl := ho.unique hS
    exact ⟨v', he, hr, hb⟩
  · refine (refSort_any v l W (by omega) h).mono ?_
    rintro e w' ⟨v', out, he, ho, hr, hb⟩
    obtain rfl := ho.unique hS
    exact ⟨v', he, hr, hb⟩
end Go.Proofs.YtjhijinbpdnmeaaGreat
end
section
/- Four lists that lie apart. -/
namespace Go.Proofs.YtjhijinbpdnmeaaGreat
open Go.ChangeShapes Go.WideShapes Go.ChangeAt Go.RowKit Go.Maps
set_option linter.unusedVariables false

def quad {α : Type} (a b c d : α) : Nat → α := fun j => if j = 0 then a else if j = 1 then b else if j = 2 then c else d
theorem quad_new (w : World) (a b c d : Value) : (w.alloc (.cells #[a, b, c, d] 22)).ownsRow w.heap.size 22 1 (.slice (some ⟨w.heap.size, 0, none⟩) 4 4) 4 (listOf 4 (quad a b c d)) :=
  ⟨rfl, .inr ⟨w.heap.size, 4, _, rfl, Nat.le_refl _, heap_alloc_new w _, Nat.le_refl _, by decide, rfl, rfl⟩⟩
theorem four_cases {P : Nat → Prop} (h0 : P 0) (h1 : P 1) (h2 : P 2) (h3 : P 3) : ∀ j, j < 4 → P j := fun j hj => by
  match j, hj with
  | 0, _ => exact h0
  | 1, _ => exact h1
  | 2, _ => exact h2
  | 3, _ => exact h3
theorem apart4 {w W : World} {v1 v2 v3 v4 : Value} {S O L G : List Lt} (g : Nat) (hg : W.heap.size = g) (h : Four w W v1 v2 v3 v4 S O L G) (hl : S.length ≤ 1048576 ∧ O.length ≤ 1048576 ∧ L.length ≤ 1048576 ∧ G.length ≤ 1048576) :
    Calls Tryz.prog 19 #[.slice (some ⟨g, 0, none⟩) 4 4] (W.alloc (.cells #[v1, v2, v3, v4] 22)) fun e w' => e = .returned (.bool true) ∧ Go.RowKit.Below w.heap.size w w' := by
  subst hg
  obtain ⟨hlow, b1, b2, b3, b4, g0, g1, g2, g3, o1, o2, o3, o4, k1, k2, k3⟩ := h
  have hsz := hlow.size
  have hbs : ∀ j, j < 4 → ∀ b, (quad v1 v2 v3 v4 j).ownBlock = some b → quad b1 b2 b3 b4 j ≤ b :=
    four_cases (fun b hb => (o1.lt b hb).1) (fun b hb => (o2.lt b hb).1) (fun b hb => (o3.lt b hb).1) (fun b hb => (o4.lt b hb).1)
  have hup : ∀ i, i < 4 → ∀ j, j < 4 → i < j → ∀ b, (quad v1 v2 v3 v4 i).ownBlock = some b → b < quad b1 b2 b3 b4 j := by
    refine four_cases (four_cases ?_ ?_ ?_ ?_) (four_cases ?_ ?_ ?_ ?_) (four_cases ?_ ?_ ?_ ?_) (four_cases ?_ ?_ ?_ ?_) <;> intro hij b hb <;> first | (exfalso; omega) | (simp only [quad] at hb ⊢; first | (have := k1 b hb; simp; omega) | (have := k2 b hb; simp; omega) | (have := k3 b hb; simp; omega))
  refine (apartl_any 4 W.heap.size 4 W.heap.size w.heap.size w.heap.size (quad v1 v2 v3 v4) (quad S.length O.length L.length G.length) (quad (lcells S) (lcells O) (lcells L) (lcells G)) _ (by omega) (by omega) (four_cases hl.1 hl.2.1 hl.2.2.1 hl.2.2.2) (quad_new W v1 v2 v3 v4) ?_ ?_ (Nat.le_refl _) (by simp only [World.size_alloc]; omega)).mono ?_
  · exact four_cases ((base_less o1 (by omega)).alloc _) ((base_less o2 (by omega)).alloc _) ((base_less o3 (by omega)).alloc _) ((base_less o4 (by omega)).alloc _)
  · intro i j hi hj hne b hb hb'
    rcases Nat.lt_or_gt_of_ne hne with h | h
    · have := hup i hi j hj h b hb
      have := hbs j hj b hb'
      omega
    · have := hup j hj i hi h b hb'
      have := hbs i hi b hb
      omega
  · rintro e w' ⟨he, hb⟩
    exact ⟨he, (hlow.alloc hsz _).trans hb⟩
end Go.Proofs.YtjhijinbpdnmeaaGreat
end
section
/- The law LotLists; the walk. -/
namespace Go.Proofs.YtjhijinbpdnmeaaGreat
open Go.ChangeShapes Go.WideShapes Go.ChangeAt Go.RowKit Go.Maps
set_option linter.unusedVariables false

theorem below_lsl {w W : World} {v : Value} {l : List Lt} (h : LSl w w.heap.size v l) (hb : Go.RowKit.Below w.heap.size w W) : LSl W w.heap.size v l := h.below hb

set_option maxRecDepth 100000 in
set_option maxHeartbeats 4000000 in
theorem lists_any (v : Value) (l : List Lt) (day : Int) (s : List UInt8) (w : World) (hv : LSl w w.heap.size v l) (hs : Sized l) (hlen : l.length ≤ 140737488355328) (hsl : s.length ≤ 140737488355328) :
    Calls Tryz.prog 3 #[v, .int .i64 day, .string ⟨s.toArray⟩] w fun e w' => e = .returned (.bool true) ∧ Go.RowKit.Below w.heap.size w w' := by
  have HS : Hid (Sized l) := Lib.hid hs
  have HV := Lib.hid hv
  clear hs hv
  go_enter Tryz.func3, Tryz.ntmps3
  go_wp2_with (go_at_call 5; fail)
  refine (great_any v l w HV.out HS.out hlen).mono ?_
  rintro e w' ⟨bg, rfl, rfl, hfew⟩
  cases bg
  · have hl400 : l.length ≤ 400 := hfew rfl
    clear hfew HS hlen
    by_cases hi : s.length ≤ 10000
    · obtain ⟨S, O, L, G, N, hF⟩ := lawFacts day s l hl400
      have F := Lib.hid hF
      obtain ⟨z1, z2, z3, z4⟩ := hF.sizes
      clear hF
      go_wp2_with (first
        | (go_at_call 7; ((with_reducible refine (lentl_any v l w.heap.size _ HV.out (Nat.le_refl _) (by omega)).mono ?_); rintro e w1 ⟨rfl, hb, ho⟩; have B1 := Lib.hid hb; have X1 : Hid (LentAt w1 w.heap.size l) := Lib.hid ho; have n1 := X1.out.block; clear hb ho))
        | (go_at_call 8; ((with_reducible refine (F.out.sort _ _ X1.out.lsl).mono ?_); rintro e w2 ⟨v1, rfl, ho, hb⟩; obtain ⟨A1, c1, rfl, q1, q2, q3⟩ := own_form ho; clear q3; have B2 := Lib.hid (below_two B1.out hb); have X2 := Lib.hid (X1.out.still (below_none0 hb)); have S2 := Lib.hid ho; have n2 := hb.size; clear hb ho))
        | (go_at_call 9; ((with_reducible refine (F.out.ofs _ _ X2.out.lsl).mono ?_); rintro e w3 ⟨v2, rfl, ho, hb⟩; obtain ⟨A2, c2, rfl, q4, q5, q6⟩ := own_form ho; clear q6; have B3 := Lib.hid (below_two B2.out hb); have X3 := Lib.hid (X2.out.still (below_none0 hb)); have t3 := Lib.hid (fun b hb' => (S2.out.lt b hb').2); have S3 := Lib.hid (own_stay S2.out (below_none0 hb)); have O3 := Lib.hid ho; have n3 := hb.size; clear hb ho))
        | (go_at_call 10; ((with_reducible refine (F.out.sweep _ _ X3.out.lsl).mono ?_); rintro e w4 ⟨v3, v4, rfl, ho, ⟨m, hm, ho', hk⟩, hb⟩; obtain ⟨A3, c3, rfl, q7, q8, q9⟩ := own_form ho; obtain ⟨A4, c4, rfl, q10, q11, q12⟩ := own_form ho'; clear q9 q12; have F4 := Lib.hid (Four.mk (below_two B3.out hb) ⟨_, _, _, _, n1, n2, n3, hm, own_stay S3.out (below_none0 hb), own_stay O3.out (below_none0 hb), ho, ho', t3.out, fun b hb' => (O3.out.lt b hb').2, hk⟩); have X4 := Lib.hid (X3.out.still (below_none0 hb)); clear hb ho ho' hk hm B1 B2 B3 X1 X2 X3 S2 S3 O3 t3 n1 n2 n3))
        | (go_at_call 11; ((with_reducible refine (F.out.on _ _ X4.out.lsl).mono ?_); rintro e w5 ⟨rfl, hb⟩; have F5 := Lib.hid (F4.out.next hb); have X5 := Lib.hid (X4.out.still (below_none0 hb)); clear hb F4 X4))
        | (go_at_call 12; ((with_reducible refine (keptl_any v l w5.heap.size w.heap.size _ ((below_lsl HV.out F5.out.low).mono F5.out.low.size) (X5.out.lies X5.out.block) (Nat.le_refl _) (by omega)).mono ?_); rintro e w6 ⟨rfl, hb⟩; have F6 := Lib.hid (F5.out.next hb); have X6 := Lib.hid (X5.out.still (below_none0 hb)); clear hb F5 X5))
        | (go_at_call 13; ((with_reducible refine (overl_any l.length w.heap.size _ _ _ X6.out.row (by omega)).mono ?_); rintro e w7 ⟨rfl, hg⟩; have F7 := Lib.hid (F6.out.over hg); clear hg F6 X6))
        | (go_at_call 14; ((with_reducible refine (F.out.rsweep _ _ ((below_lsl HV.out F7.out.low).mono F7.out.low.size)).mono ?_); rintro e w8 ⟨u1, u2, rfl, hu1, hu2, hb⟩; obtain ⟨E1, d1, rfl, p1, p2, _⟩ := id hu1; obtain ⟨E2, d2, rfl, p3, p4, _⟩ := id hu2; have F8 := Lib.hid (F7.out.next hb); have U8 := Lib.hid hu1; have V8 := Lib.hid hu2; clear hb hu1 hu2 F7))
        | (go_at_call 16; ((with_reducible refine (F.out.rsort _ _ ((below_lsl HV.out F8.out.low).mono F8.out.low.size)).mono ?_); rintro e w9 ⟨u3, rfl, hu, hb⟩; obtain ⟨E3, d3, rfl, p5, p6, _⟩ := id hu; have F9 := Lib.hid (F8.out.next hb); have U9 := Lib.hid (U8.out.at_ hb); have V9 := Lib.hid (V8.out.at_ hb); have R9 := Lib.hid hu; clear hb hu F8 U8 V8))
        | (go_at_call 17; ((with_reducible refine (F.out.rof _ _ ((below_lsl HV.out F10.out.low).mono F10.out.low.size)).mono ?_); rintro e w11 ⟨u4, rfl, hu, hb⟩; obtain ⟨E4, d4, rfl, p7, p8, _⟩ := id hu; have F11 := Lib.hid (F10.out.next hb); have U11 := Lib.hid (U10.out.at_ hb); have V11 := Lib.hid (V10.out.at_ hb); have R11 := Lib.hid hu; clear hb hu F10 U10 V10))
        | (go_at_call 18; ((with_reducible refine (F.out.ron _ _ ((below_lsl HV.out F14.out.low).mono F14.out.low.size)).mono ?_); rintro e w15 ⟨rfl, hb⟩; have F15 := Lib.hid (F14.out.next hb); clear hb F14))
        | (go_at_call 15; (first
            | ((with_reducible refine (same_yes S _ _ _ F9.out.s R9.out (by omega)).mono ?_); rintro e w10 ⟨rfl, hb⟩; have F10 := Lib.hid (F9.out.next hb); have U10 := Lib.hid (U9.out.at_ hb); have V10 := Lib.hid (V9.out.at_ hb); clear hb F9 U9 V9 R9)
            | ((with_reducible refine (same_yes O _ _ _ F11.out.o R11.out (by omega)).mono ?_); rintro e w12 ⟨rfl, hb⟩; have F12 := Lib.hid (F11.out.next hb); have U12 := Lib.hid (U11.out.at_ hb); have V12 := Lib.hid (V11.out.at_ hb); clear hb F11 U11 V11 R11)
            | ((with_reducible refine (same_yes L _ _ _ F12.out.l U12.out (by omega)).mono ?_); rintro e w13 ⟨rfl, hb⟩; have F13 := Lib.hid (F12.out.next hb); have V13 := Lib.hid (V12.out.at_ hb); clear hb F12 U12 V12)
            | ((with_reducible refine (same_yes G _ _ _ F13.out.g V13.out (by omega)).mono ?_); rintro e w14 ⟨rfl, hb⟩; have F14 := Lib.hid (F13.out.next hb); clear hb F13 V13)))
        | (go_at_call 19; ((with_reducible refine (apart4 _ rfl F15.out (by omega)).mono ?_); rintro e w16 ⟨rfl, hb⟩; have B16 := Lib.hid hb; clear hb F15))
        | (go_at_call 6; ((with_reducible refine (awake_any _).mono ?_); rintro e w17 ⟨rfl, hb⟩; have B17 := Lib.hid (below_two B16.out hb); clear hb)))
      go_ret
      exact ⟨rfl, B17.out⟩
    · go_wp2_with (go_at_call 6; ((with_reducible refine (awake_any _).mono ?_); rintro e w1 ⟨rfl, hbx⟩))
      go_ret
      exact ⟨rfl, hbx⟩
  · go_wp2_with (go_at_call 6; ((with_reducible refine (awake_any _).mono ?_); rintro e w1 ⟨rfl, hbx⟩))
    go_ret
    exact ⟨rfl, hbx⟩
end Go.Proofs.YtjhijinbpdnmeaaGreat
end
