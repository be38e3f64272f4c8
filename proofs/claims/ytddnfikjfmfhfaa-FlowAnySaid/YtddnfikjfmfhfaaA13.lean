/- Texts of this proof, one behind the other. -/
import Derived.Deep.OwnRows
import Derived.Deep.QuietTactic
import Derived.BigQuiet
import Derived.Test.YtddnfikjfmfhfaaA12
import Derived.Test.YtddnfikjfmfhfaaA00
import Derived.Test.YtddnfikjfmfhfaaA11
section
/- The reference's Has, Right, Serves, May. Written by gen_fref.py. -/
namespace Go.Proofs.Ytddnfikjfmfhfaa
open Go.ChangeShapes Go.WideShapes Go.ChangeAt Go.RowKit
set_option linter.unusedVariables false
set_option maxHeartbeats 2000000 in
theorem rwin_any (f u : Int) (w : World) : Calls Try.prog 65 #[.agg #[.int .i64 f, .int .i64 u]] w fun e w' => e = .returned (.bool (wrightB f u)) ∧ Below w.heap.size w w' := by
  by_cases h0 : 0 ≤ f
  ·
    by_cases h1 : f ≤ u
    ·
      by_cases h2 : u ≤ 4001
      ·
        have d0 : decide (0 ≤ f) = true := decide_eq_true h0
        have d1 : decide (f ≤ u) = true := decide_eq_true h1
        have d2 : decide (u ≤ 4001) = true := decide_eq_true h2
        have hv : wrightB f u = true := by unfold wrightB; simp; omega
        rw [hv]
        clear hv
        go_enter Try.func65, Try.ntmps65
        go_wp2_with (fail)
        go_ret
        exact ⟨rfl, below_alloc1 _ _⟩
      ·
        have d0 : decide (0 ≤ f) = true := decide_eq_true h0
        have d1 : decide (f ≤ u) = true := decide_eq_true h1
        have d2 : decide (u ≤ 4001) = false := decide_eq_false h2
        have hv : wrightB f u = false := by unfold wrightB; simp; omega
        rw [hv]
        clear hv
        go_enter Try.func65, Try.ntmps65
        go_wp2_with (fail)
        go_ret
        exact ⟨rfl, below_alloc1 _ _⟩
    ·
      have d0 : decide (0 ≤ f) = true := decide_eq_true h0
      have d1 : decide (f ≤ u) = false := decide_eq_false h1
      have hv : wrightB f u = false := by unfold wrightB; simp; omega
      rw [hv]
      clear hv
      go_enter Try.func65, Try.ntmps65
      go_wp2_with (fail)
      go_ret
      exact ⟨rfl, below_alloc1 _ _⟩
  ·
    have d0 : decide (0 ≤ f) = false := decide_eq_false h0
    have hv : wrightB f u = false := by unfold wrightB; simp; omega
    rw [hv]
    clear hv
    go_enter Try.func65, Try.ntmps65
    go_wp2_with (fail)
    go_ret
    exact ⟨rfl, below_alloc1 _ _⟩
theorem rwin_b (b : Bool) (f u : Int) (w : World) (h : wrightB f u = b) : Calls Try.prog 65 #[.agg #[.int .i64 f, .int .i64 u]] w fun e w' => e = .returned (.bool b) ∧ Below w.heap.size w w' := by
  rw [← h]; exact rwin_any f u w
set_option maxHeartbeats 2000000 in
theorem rhas_any (f u day : Int) (w : World) : Calls Try.prog 52 #[.agg #[.int .i64 f, .int .i64 u], .int .i64 day] w fun e w' => e = .returned (.bool (hasB f u day)) ∧ Below w.heap.size w w' := by
  by_cases h0 : wrightB f u = true
  ·
    by_cases h1 : f ≤ day
    ·
      by_cases h2 : day < u
      ·
        have H0 : Hid (wrightB f u = true) := Lib.hid (by simpa using h0)
        have d1 : decide (f ≤ day) = true := decide_eq_true h1
        have d2 : decide (day < u) = true := decide_eq_true h2
        have hv : hasB f u day = true := by have hw := H0.out; unfold wrightB at hw; simp at hw; unfold hasB; simp; omega
        rw [hv]
        clear hv h0
        go_enter Try.func52, Try.ntmps52
        go_wp2_with (go_at_call 65; ((with_reducible refine (rwin_b _ f u _ H0.out).mono ?_); rintro e w1 ⟨rfl, hb1⟩; obtain ⟨hc, hf⟩ := bcell hb1))
        go_ret
        exact ⟨rfl, below_alloc2 _ hb1⟩
      ·
        have H0 : Hid (wrightB f u = true) := Lib.hid (by simpa using h0)
        have d1 : decide (f ≤ day) = true := decide_eq_true h1
        have d2 : decide (day < u) = false := decide_eq_false h2
        have hv : hasB f u day = false := by have hw := H0.out; unfold wrightB at hw; simp at hw; unfold hasB; simp; omega
        rw [hv]
        clear hv h0
        go_enter Try.func52, Try.ntmps52
        go_wp2_with (go_at_call 65; ((with_reducible refine (rwin_b _ f u _ H0.out).mono ?_); rintro e w1 ⟨rfl, hb1⟩; obtain ⟨hc, hf⟩ := bcell hb1))
        go_ret
        exact ⟨rfl, below_alloc2 _ hb1⟩
    ·
      have H0 : Hid (wrightB f u = true) := Lib.hid (by simpa using h0)
      have d1 : decide (f ≤ day) = false := decide_eq_false h1
      have hv : hasB f u day = false := by have hw := H0.out; unfold wrightB at hw; simp at hw; unfold hasB; simp; omega
      rw [hv]
      clear hv h0
      go_enter Try.func52, Try.ntmps52
      go_wp2_with (go_at_call 65; ((with_reducible refine (rwin_b _ f u _ H0.out).mono ?_); rintro e w1 ⟨rfl, hb1⟩; obtain ⟨hc, hf⟩ := bcell hb1))
      go_ret
      exact ⟨rfl, below_alloc2 _ hb1⟩
  ·
    have H0 : Hid (wrightB f u = false) := Lib.hid (by simpa using h0)
    have hv : hasB f u day = false := by have hw := H0.out; unfold wrightB at hw; simp at hw; unfold hasB; simp; omega
    rw [hv]
    clear hv h0
    go_enter Try.func52, Try.ntmps52
    go_wp2_with (go_at_call 65; ((with_reducible refine (rwin_b _ f u _ H0.out).mono ?_); rintro e w1 ⟨rfl, hb1⟩; obtain ⟨hc, hf⟩ := bcell hb1))
    go_ret
    exact ⟨rfl, below_alloc2 _ hb1⟩
theorem rhas_b (b : Bool) (f u d : Int) (w : World) (h : hasB f u d = b) : Calls Try.prog 52 #[.agg #[.int .i64 f, .int .i64 u], .int .i64 d] w fun e w' => e = .returned (.bool b) ∧ Below w.heap.size w w' := by
  rw [← h]; exact rhas_any f u d w
theorem crref_b (b : Bool) (s : List UInt8) (w : World) (h : rightL s = b) : Calls Try.prog 64 #[.string ⟨s.toArray⟩] w fun e w' => e = .returned (.bool b) ∧ w = w' := by
  cases b
  · exact crref_no s w h
  · exact crref_yes s w h
set_option maxHeartbeats 2000000 in
theorem rwant_any (x : Wt) (w : World) : Calls Try.prog 51 #[aggW x] w fun e w' => e = .returned (.bool (wantB x)) ∧ Below w.heap.size w w' := by
  by_cases h0 : rightL x.item = true
  ·
    by_cases h1 : 0 ≤ x.day
    ·
      by_cases h2 : x.day ≤ 4000
      ·
        by_cases h3 : 1 ≤ x.qty
        ·
          by_cases h4 : x.qty ≤ 1125899906842624
          ·
            have H0 : Hid (rightL x.item = true) := Lib.hid (by simpa using h0)
            have d1 : decide (0 ≤ x.day) = true := decide_eq_true h1
            have d2 : decide (x.day ≤ 4000) = true := decide_eq_true h2
            have d3 : decide (1 ≤ x.qty) = true := decide_eq_true h3
            have d4 : decide (x.qty ≤ 1125899906842624) = true := decide_eq_true h4
            have hv : wantB x = true := by unfold wantB; simp [H0.out]; try omega
            rw [hv]
            clear hv h0
            go_enter Try.func51, Try.ntmps51
            go_wp2_with (go_at_call 64; ((with_reducible refine (crref_b _ x.item _ H0.out).mono ?_); rintro e w1 ⟨rfl, rfl⟩))
            go_ret
            exact ⟨rfl, below_alloc1 _ _⟩
          ·
            have H0 : Hid (rightL x.item = true) := Lib.hid (by simpa using h0)
            have d1 : decide (0 ≤ x.day) = true := decide_eq_true h1
            have d2 : decide (x.day ≤ 4000) = true := decide_eq_true h2
            have d3 : decide (1 ≤ x.qty) = true := decide_eq_true h3
            have d4 : decide (x.qty ≤ 1125899906842624) = false := decide_eq_false h4
            have hv : wantB x = false := by unfold wantB; simp [H0.out]; try omega
            rw [hv]
            clear hv h0
            go_enter Try.func51, Try.ntmps51
            go_wp2_with (go_at_call 64; ((with_reducible refine (crref_b _ x.item _ H0.out).mono ?_); rintro e w1 ⟨rfl, rfl⟩))
            go_ret
            exact ⟨rfl, below_alloc1 _ _⟩
        ·
          have H0 : Hid (rightL x.item = true) := Lib.hid (by simpa using h0)
          have d1 : decide (0 ≤ x.day) = true := decide_eq_true h1
          have d2 : decide (x.day ≤ 4000) = true := decide_eq_true h2
          have d3 : decide (1 ≤ x.qty) = false := decide_eq_false h3
          have hv : wantB x = false := by unfold wantB; simp [H0.out]; try omega
          rw [hv]
          clear hv h0
          go_enter Try.func51, Try.ntmps51
          go_wp2_with (go_at_call 64; ((with_reducible refine (crref_b _ x.item _ H0.out).mono ?_); rintro e w1 ⟨rfl, rfl⟩))
          go_ret
          exact ⟨rfl, below_alloc1 _ _⟩
      ·
        have H0 : Hid (rightL x.item = true) := Lib.hid (by simpa using h0)
        have d1 : decide (0 ≤ x.day) = true := decide_eq_true h1
        have d2 : decide (x.day ≤ 4000) = false := decide_eq_false h2
        have hv : wantB x = false := by unfold wantB; simp [H0.out]; try omega
        rw [hv]
        clear hv h0
        go_enter Try.func51, Try.ntmps51
        go_wp2_with (go_at_call 64; ((with_reducible refine (crref_b _ x.item _ H0.out).mono ?_); rintro e w1 ⟨rfl, rfl⟩))
        go_ret
        exact ⟨rfl, below_alloc1 _ _⟩
    ·
      have H0 : Hid (rightL x.item = true) := Lib.hid (by simpa using h0)
      have d1 : decide (0 ≤ x.day) = false := decide_eq_false h1
      have hv : wantB x = false := by unfold wantB; simp [H0.out]; try omega
      rw [hv]
      clear hv h0
      go_enter Try.func51, Try.ntmps51
      go_wp2_with (go_at_call 64; ((with_reducible refine (crref_b _ x.item _ H0.out).mono ?_); rintro e w1 ⟨rfl, rfl⟩))
      go_ret
      exact ⟨rfl, below_alloc1 _ _⟩
  ·
    have H0 : Hid (rightL x.item = false) := Lib.hid (by simpa using h0)
    have hv : wantB x = false := by unfold wantB; simp [H0.out]; try omega
    rw [hv]
    clear hv h0
    go_enter Try.func51, Try.ntmps51
    go_wp2_with (go_at_call 64; ((with_reducible refine (crref_b _ x.item _ H0.out).mono ?_); rintro e w1 ⟨rfl, rfl⟩))
    go_ret
    exact ⟨rfl, below_alloc1 _ _⟩
theorem rwant_b (b : Bool) (x : Wt) (w : World) (h : wantB x = b) : Calls Try.prog 51 #[aggW x] w fun e w' => e = .returned (.bool b) ∧ Below w.heap.size w w' := by
  rw [← h]; exact rwant_any x w
theorem lrref_b (b : Bool) (x : Lt) (w : World) (h : lrightB x = b) : Calls Try.prog 50 #[aggL x] w fun e w' => e = .returned (.bool b) ∧ Below w.heap.size w w' := by
  rw [← h]; exact lrref_any x w
set_option maxHeartbeats 2000000 in
theorem rserves_any (l : Lt) (x : Wt) (w : World) : Calls Try.prog 34 #[aggL l, aggW x] w fun e w' => e = .returned (.bool (servesB l x)) ∧ Below w.heap.size w w' := by
  by_cases h0 : l.item = x.item
  · have hv : servesB l x = hasB l.fr l.un x.day := by unfold servesB; simp [h0]
    have he : (l.item == x.item) = true := by simp [h0]
    rw [hv]
    clear hv h0
    obtain ⟨b, hb⟩ : ∃ b, hasB l.fr l.un x.day = b := ⟨_, rfl⟩
    rw [hb]
    have HB := Lib.hid hb
    clear hb
    go_enter Try.func34, Try.ntmps34
    go_wp2_with (go_at_call 52; ((with_reducible refine (rhas_b b l.fr l.un x.day _ HB.out).mono ?_); rintro e w1 ⟨rfl, hb1⟩))
    go_ret
    exact ⟨rfl, below_alloc2 _ (below_alloc2 _ hb1)⟩
  · have hv : servesB l x = false := by unfold servesB; simp [h0]
    have he : (l.item == x.item) = false := beq_eq_false_iff_ne.2 h0
    rw [hv]
    clear hv h0
    go_enter Try.func34, Try.ntmps34
    go_wp2
    go_ret
    exact ⟨rfl, below_alloc2 _ (below_alloc1 _ _)⟩
theorem rserves_b (b : Bool) (l : Lt) (x : Wt) (w : World) (h : servesB l x = b) : Calls Try.prog 34 #[aggL l, aggW x] w fun e w' => e = .returned (.bool b) ∧ Below w.heap.size w w' := by
  rw [← h]; exact rserves_any l x w

/-! ### May -/
theorem mayB_no_right {l : List Lt} {ws : List Wt} {k : Nat} {x : Lt} (hx : l[k]? = some x) (h : lrightB x = false) : mayB l ws = false := by
  cases hm : mayB l ws with
  | false => rfl
  | true =>
    have := (mayB_true hm).2.2.1 x (List.mem_of_getElem? hx)
    rw [h] at this; cases this
theorem mayB_no_want {l : List Lt} {ws : List Wt} {k : Nat} {x : Wt} (hx : ws[k]? = some x) (h : wantB x = false) : mayB l ws = false := by
  cases hm : mayB l ws with
  | false => rfl
  | true =>
    have := (mayB_true hm).2.2.2.1 x (List.mem_of_getElem? hx)
    rw [h] at this; cases this
theorem mayB_no_twice {l : List Lt} {ws : List Wt} {i k : Nat} {x y : Lt} (hx : l[i]? = some x) (hy : l[k]? = some y) (hik : k < i) (h : y.id = x.id) : mayB l ws = false := by
  cases hm : mayB l ws with
  | false => rfl
  | true =>
    have hn := (mayB_true hm).2.2.2.2
    obtain ⟨hi, ex⟩ := List.getElem?_eq_some_iff.1 hx
    obtain ⟨hk, ey⟩ := List.getElem?_eq_some_iff.1 hy
    have hil : i < (l.map Lt.id).length := by rw [List.length_map]; exact hi
    have hkl : k < (l.map Lt.id).length := by rw [List.length_map]; exact hk
    have h1 : (l.map Lt.id)[k]'hkl = (l.map Lt.id)[i]'hil := by rw [List.getElem_map, List.getElem_map, ex, ey, h]
    have := (List.getElem_inj hn).1 h1
    omega
theorem mayB_long {l : List Lt} {ws : List Wt} (h : ¬ (l.length ≤ 300 ∧ ws.length ≤ 20000)) : mayB l ws = false := by
  unfold mayB; rw [decide_eq_false h]; rfl
/-- The lots ahead of the k-th are right, no two of one number. -/
def LotsTo (l : List Lt) (k : Nat) : Prop := (∀ i x, i < k → l[i]? = some x → lrightB x = true) ∧ ∀ i j x y, i < k → j < i → l[i]? = some x → l[j]? = some y → y.id ≠ x.id
theorem lotsTo_all {l : List Lt} (h : LotsTo l l.length) : (∀ x ∈ l, lrightB x = true) ∧ (l.map Lt.id).Nodup := by
  refine ⟨fun x hx => ?_, ?_⟩
  · obtain ⟨i, hi⟩ := List.getElem?_of_mem hx
    exact h.1 i x (List.getElem?_eq_some_iff.1 hi).1 hi
  · rw [List.nodup_iff_pairwise_ne, List.pairwise_iff_getElem]
    intro i j hi hj hij e
    rw [List.length_map] at hi hj
    rw [List.getElem_map, List.getElem_map] at e
    exact h.2 j i l[j] l[i] hj hij (List.getElem?_eq_getElem hj) (List.getElem?_eq_getElem hi) e
set_option maxHeartbeats 4000000 in
set_option maxRecDepth 100000 in
theorem may_any (v1 v2 : Value) (l : List Lt) (ws : List Wt) (w : World) (h1 : LSl w w.heap.size v1 l) (h2 : WSl w w.heap.size v2 ws) :
    Calls Try.prog 33 #[v1, v2] w fun e w' => e = .returned (.bool (mayB l ws)) ∧ Below w.heap.size w w' := by
  obtain ⟨A1, c1, rfl, hc11, hc12, hcz1, hl1⟩ := id h1
  obtain ⟨A2, c2, rfl, hc21, hc22, hcz2, hl2⟩ := id h2
  have HL1 := Lib.hid hl1
  have HL2 := Lib.hid hl2
  clear h1 h2 hl1 hl2
  obtain ⟨r, hr⟩ : ∃ r, mayB l ws = r := ⟨_, rfl⟩
  rw [hr]
  have HR := Lib.hid hr
  clear hr
  by_cases h300 : l.length ≤ 300
  · have d1 : decide (300 < (l.length : Int)) = false := decide_eq_false (by omega)
    by_cases h20 : ws.length ≤ 20000
    · have d2 : decide (20000 < (ws.length : Int)) = false := decide_eq_false (by omega)
      go_enter Try.func33, Try.ntmps33
      go_wp2
      clear d1 d2
      go_loopw [5] (fun i wr => ∃ k : Nat, k ≤ l.length ∧ i = .int .i64 k ∧ Hid (LotsTo l k) ∧ Hid (Below w.heap.size w wr)) (fun i _ => l.length - (intOf i).toNat)
      case atStart => exact ⟨0, Nat.zero_le _, rfl, Lib.hid ⟨fun i x h => absurd h (by omega), fun i j x y h => absurd h (by omega)⟩, Lib.hid (Below.refl _ _)⟩
      case round =>
        obtain ⟨k, hk, rfl, HT, HB⟩ := hrel
        by_cases hlt : k < l.length
        · obtain ⟨x, hx⟩ : ∃ x, l[k]? = some x := ⟨_, List.getElem?_eq_getElem hlt⟩
          obtain ⟨ad, rfl, hab, hc0, hc1', hc2', hc3, hc4, hc5⟩ := (HL1.out.below HB.out).six hx
          have HX := Lib.hid hx
          clear hx
          cases hrt : lrightB x with
          | false =>
            have HRT := Lib.hid hrt
            have hrf : r = false := by rw [← HR.out]; exact mayB_no_right HX.out hrt
            subst hrf
            clear hrt
            go_wp2_with (go_at_call 50; ((with_reducible refine (lrref_b _ x _ HRT.out).mono ?_); rintro e w1 ⟨rfl, hb1'⟩; have HB1 := Lib.hid (HB.out.trans (hb1'.mono HB.out.size)); clear hb1'))
            go_ret
            exact ⟨rfl, HB1.out⟩
          | true =>
            have HRT := Lib.hid hrt
            clear hrt
            go_wp2_with (go_at_call 50; ((with_reducible refine (lrref_b _ x _ HRT.out).mono ?_); rintro e w1 ⟨rfl, hb1'⟩; have HB1 := Lib.hid (HB.out.trans (hb1'.mono HB.out.size)); clear hb1'))
            clear hc0 hc1' hc2' hc3 hc4 hc5 HB
            go_loopw [6] (fun i wi => ∃ j : Nat, j ≤ k ∧ i = .int .i64 j ∧ Hid (∀ i y, i < j → l[i]? = some y → y.id ≠ x.id) ∧ Hid (Below w.heap.size w wi)) (fun i _ => k - (intOf i).toNat)
            case atStart => exact ⟨0, Nat.zero_le _, rfl, Lib.hid (fun i y h => absurd h (by omega)), HB1⟩
            case round =>
              obtain ⟨j, hj, rfl, HJ, HBi⟩ := hrel
              by_cases hjk : j < k
              · have hjl : j < l.length := by omega
                obtain ⟨y, hy⟩ : ∃ y, l[j]? = some y := ⟨_, List.getElem?_eq_getElem hjl⟩
                obtain ⟨ad1, e1, _, p0, _, _, _, _, _⟩ := (HL1.out.below HBi.out).six hy
                cases e1
                obtain ⟨ad2, e2, _, q0, _, _, _, _, _⟩ := (HL1.out.below HBi.out).six HX.out
                cases e2
                have HY := Lib.hid hy
                clear hy
                by_cases hxy : y.id = x.id
                · have hrf : r = false := by rw [← HR.out]; exact mayB_no_twice HX.out HY.out hjk hxy
                  subst hrf
                  have hd : (y.id == x.id) = true := by simp [hxy]
                  go_wp2
                  go_quiet (fail)
                  go_wp2
                  go_ret
                  exact ⟨rfl, by first | exact below_draws HBi.out _ | exact HBi.out.drew⟩
                · have hd : (y.id == x.id) = false := by simp [hxy]
                  have HXY := Lib.hid hxy
                  clear hxy
                  go_wp2
                  go_quiet (fail)
                  go_wp2
                  go_roundw
                  case rel => exact ⟨j + 1, by omega, by go_num, Lib.hid (fun i z hi hz => by
                    rcases Nat.lt_succ_iff_lt_or_eq.1 hi with h | h
                    · exact HJ.out i z h hz
                    · subst h; rw [HY.out] at hz; cases hz; exact HXY.out), Lib.hid (below_draws HBi.out _)⟩
                  case measure => simp [intOf]; omega
              · obtain rfl : j = k := by omega
                go_wp2
                go_roundw
                case rel => exact ⟨j + 1, by omega, by go_num, Lib.hid ⟨fun i z hi hz => by
                    rcases Nat.lt_succ_iff_lt_or_eq.1 hi with h | h
                    · exact HT.out.1 i z h hz
                    · subst h; rw [HX.out] at hz; cases hz; exact HRT.out, fun i m z y hi hm hz hy => by
                    rcases Nat.lt_succ_iff_lt_or_eq.1 hi with h | h
                    · exact HT.out.2 i m z y h hm hz hy
                    · subst h; rw [HX.out] at hz; cases hz; exact HJ.out m y hm hy⟩, HBi⟩
                case measure => simp [intOf]; omega
        · obtain rfl : k = l.length := by omega
          have HTA := Lib.hid (lotsTo_all HT.out)
          go_wp2
          clear HT
          obtain ⟨w0, rfl⟩ : ∃ W, W = wr := ⟨_, rfl⟩
          go_loopw [7] (fun i wr => ∃ k : Nat, k ≤ ws.length ∧ i = .int .i64 k ∧ Hid (∀ i x, i < k → ws[i]? = some x → wantB x = true) ∧ Hid (Below w.heap.size w wr)) (fun i _ => ws.length - (intOf i).toNat)
          case atStart => exact ⟨0, Nat.zero_le _, rfl, Lib.hid (fun i x h => absurd h (by omega)), HB⟩
          case round =>
            clear HB
            obtain ⟨k, hk, rfl, HT, HB⟩ := hrel
            by_cases hlt : k < ws.length
            · obtain ⟨x, hx⟩ : ∃ x, ws[k]? = some x := ⟨_, List.getElem?_eq_getElem hlt⟩
              obtain ⟨ad, rfl, hab, hc0, hc1', hc2'⟩ := (HL2.out.below HB.out).rowW hx
              have HX := Lib.hid hx
              clear hx
              cases hrt : wantB x with
              | false =>
                have HRT := Lib.hid hrt
                have hrf : r = false := by rw [← HR.out]; exact mayB_no_want HX.out hrt
                subst hrf
                clear hrt
                go_wp2_with (go_at_call 51; ((with_reducible refine (rwant_b _ x _ HRT.out).mono ?_); rintro e w1 ⟨rfl, hb1'⟩; have HB1 := Lib.hid (HB.out.trans (hb1'.mono HB.out.size)); clear hb1'))
                go_ret
                exact ⟨rfl, HB1.out⟩
              | true =>
                have HRT := Lib.hid hrt
                clear hrt
                go_wp2_with (go_at_call 51; ((with_reducible refine (rwant_b _ x _ HRT.out).mono ?_); rintro e w1 ⟨rfl, hb1'⟩; have HB1 := Lib.hid (HB.out.trans (hb1'.mono HB.out.size)); clear hb1'))
                go_roundw
                case rel => exact ⟨k + 1, by omega, by go_num, Lib.hid (fun i z hi hz => by
                    rcases Nat.lt_succ_iff_lt_or_eq.1 hi with h | h
                    · exact HT.out i z h hz
                    · subst h; rw [HX.out] at hz; cases hz; exact HRT.out), HB1⟩
                case measure => simp [intOf]; omega
            · obtain rfl : k = ws.length := by omega
              have hrt : r = true := by
                rw [← HR.out]
                exact mayB_of h300 h20 HTA.out.1 (fun x hx => by
                  obtain ⟨i, hi⟩ := List.getElem?_of_mem hx
                  exact HT.out i x (List.getElem?_eq_some_iff.1 hi).1 hi) HTA.out.2
              subst hrt
              go_wp2
              go_ret
              exact ⟨rfl, HB.out⟩
    · have d2 : decide (20000 < (ws.length : Int)) = true := decide_eq_true (by omega)
      have hrf : r = false := by rw [← HR.out]; exact mayB_long (by omega)
      subst hrf
      go_enter Try.func33, Try.ntmps33
      go_wp2
      go_ret
      exact ⟨rfl, Below.refl _ _⟩
  · have d1 : decide (300 < (l.length : Int)) = true := decide_eq_true (by omega)
    have hrf : r = false := by rw [← HR.out]; exact mayB_long (by omega)
    subst hrf
    go_enter Try.func33, Try.ntmps33
    go_wp2
    go_ret
    exact ⟨rfl, Below.refl _ _⟩
end Go.Proofs.Ytddnfikjfmfhfaa
end
section
/- storemanref05.along: a way is gone. Written by gen_falong.py. -/
namespace Go.Proofs.Ytddnfikjfmfhfaa
open Go.ChangeShapes Go.WideShapes Go.ChangeAt Go.RowKit Go.Maps
set_option linter.unusedVariables false
/-- Numbers by their places, in a block of their own. -/
def NumRow (w : World) (g : Nat) (t : TypeId) (n : Nat) (f : Nat → Int) : Prop := w.rowIs g t n (fun i => .int .i64 (f i))
theorem NumRow.below {w w' : World} {g : Nat} {t : TypeId} {n : Nat} {f : Nat → Int} (h : NumRow w g t n f) (hb : Below w.heap.size w w') : NumRow w' g t n f := World.rowIs.of_block h (hb.block g (World.rowIs.lt h))
theorem NumRow.other {w : World} {g : Nat} {t : TypeId} {n : Nat} {f : Nat → Int} (h : NumRow w g t n f) {a : Addr} (ha : g ≠ a.block) (v : Value) : NumRow (w.setCell a v) g t n f := World.rowIs.setOther h ha v
theorem NumRow.set_ {w : World} {g : Nat} {t : TypeId} {n : Nat} {f : Nat → Int} (h : NumRow w g t n f) (i : Nat) (x : Int) : NumRow (w.setCell ⟨g, i, none⟩ (.int .i64 x)) g t n (fun j => if j = i then x else f j) :=
  World.rowIs.congr (World.rowIs.set h i (.int .i64 x)) (fun j _ => by (try simp only); split <;> rfl)
theorem NumRow.cell {w : World} {g : Nat} {t : TypeId} {n : Nat} {f : Nat → Int} (h : NumRow w g t n f) {i : Nat} (hi : i < n) : w.cell? ⟨g, i, none⟩ = some (.int .i64 (f i)) := World.rowIs.cell h hi
/-- A table: a row of rows, each in a block of its own. -/
structure Grid (w : World) (gh : Nat) (R : Nat → Nat) (N M : Nat) (h : Nat → Nat → Int) : Prop where
  rows : w.rowIs gh 59 M (fun u => .slice (some ⟨R u, 0, none⟩) N N)
  nums : ∀ u, u < M → NumRow w (R u) 2 N (h u)
  far : ∀ u, u < M → R u ≠ gh
  apart : ∀ u v, u < M → v < M → u ≠ v → R u ≠ R v
section
variable {w w' : World} {gh : Nat} {R : Nat → Nat} {N M : Nat} {h : Nat → Nat → Int}
theorem Grid.below (hG : Grid w gh R N M h) (hb : Below w.heap.size w w') : Grid w' gh R N M h :=
  ⟨World.rowIs.of_block hG.rows (hb.block gh (World.rowIs.lt hG.rows)), fun u hu => (hG.nums u hu).below hb, hG.far, hG.apart⟩
theorem Grid.other (hG : Grid w gh R N M h) {a : Addr} (h1 : gh ≠ a.block) (h2 : ∀ u, u < M → R u ≠ a.block) (v : Value) : Grid (w.setCell a v) gh R N M h :=
  ⟨World.rowIs.setOther hG.rows h1 v, fun u hu => (hG.nums u hu).other (h2 u hu) v, hG.far, hG.apart⟩
theorem Grid.drew (hG : Grid w gh R N M h) : Grid w.drew gh R N M h := ⟨hG.rows, hG.nums, hG.far, hG.apart⟩
theorem Grid.upd (hG : Grid w gh R N M h) {v k : Nat} (hv : v < M) (t : Int) : Grid (w.setCell ⟨R v, k, none⟩ (.int .i64 (h v k + t))) gh R N M (upd2 h v k t) :=
  ⟨World.rowIs.setOther hG.rows (fun e => hG.far v hv e.symm) _, fun u hu => by
    by_cases e : u = v
    · subst e
      refine World.rowIs.congr ((hG.nums u hu).set_ k (h u k + t)) (fun j _ => ?_)
      by_cases ej : j = k
      · subst ej; simp [upd2]
      · simp [upd2, ej]
    · refine World.rowIs.congr ((hG.nums u hu).other (a := ⟨R v, k, none⟩) (hG.apart u v hu hv e) _) (fun j _ => ?_)
      rw [upd2_row _ _ _ _ _ e], hG.far, hG.apart⟩
end
theorem steps_all {l : List Lt} {ws : List Wt} {w : Nat} {h : Nat → Nat → Int} {f b : Nat → Int} {G : Nat → Prop} {rk : Nat → Nat} {e L : Nat} (hw : Ways l ws w h f b G rk) (h0 : Step l ws f b G e 0) (hb : ∀ j, j < L → 0 ≤ b (wayV f b e j)) : ∀ j, j ≤ L → Step l ws f b G e j
  | 0, _ => h0
  | j + 1, hj => (step_next hw (steps_all hw h0 hb j (by omega)) (hb j (by omega))).2.2.1
theorem Mid2.bound {l : List Lt} {ws : List Wt} {h h2 : Nat → Nat → Int} {left2 : Nat → Int} {f b : Nat → Int} {rk : Nat → Nat} {e i : Nat} {m : Int} (hM : Mid2 l ws h h2 left2 f b rk e i m) (hm : 0 ≤ m) (hq : ∀ k, k < l.length → (lotAt l k).qty ≤ 1073741824) {u k : Nat} (hu : u < ws.length) (hk : k < l.length) : 0 ≤ h2 u k ∧ h2 u k ≤ 1073741824 := by
  have h0 := hM.pos u k hu hk
  have h1 := sumN_mem (f := fun u => h2 u k) (n := ws.length) (fun u hu => hM.pos u k hu hk) u hu
  have h3 := hM.col k hk
  have h4 := hM.lft k hk
  have h5 := hq k hk
  refine ⟨h0, ?_⟩
  split at h3 <;> (try simp only at h1) <;> omega
theorem Has.bound {l : List Lt} {ws : List Wt} {w : Nat} {need : Int} {h : Nat → Nat → Int} {left : Nat → Int} (hM : Has l ws w need h left) (hq : ∀ k, k < l.length → (lotAt l k).qty ≤ 1073741824) {k : Nat} (hk : k < l.length) : left k ≤ 1073741824 ∧ ∀ u, u < ws.length → h u k ≤ 1073741824 := by
  have h3 := hM.col k hk
  have h4 := hM.lft k hk
  have h5 := hq k hk
  have h6 := sumN_nonneg (f := fun u => h u k) (n := ws.length) (fun u hu => hM.pos u k hu hk)
  refine ⟨by omega, fun u hu => ?_⟩
  have h1 := sumN_mem (f := fun u => h u k) (n := ws.length) (fun u hu => hM.pos u k hu hk) u hu
  (try simp only at h1)
  omega
/-- What along answers, and leaves. -/
def AlongTo (l : List Lt) (ws : List Wt) (w : Nat) (need : Int) (gh gl : Nat) (R : Nat → Nat) (W : World) (en : Ending) (W' : World) : Prop :=
  ∃ m h' left', en = .returned (.int .i64 m) ∧ 1 ≤ m ∧ m ≤ need ∧ Has l ws w (need - m) h' left' ∧ Grid W' gh R l.length ws.length h' ∧ NumRow W' gl 2 l.length left' ∧ ∀ B W0, Below B W0 W → B ≤ gl → (∀ u, u < ws.length → B ≤ R u) → Below B W0 W'
set_option maxHeartbeats 8000000 in
set_option maxRecDepth 100000 in
theorem along_any (l : List Lt) (ws : List Wt) (w : Nat) (need : Int) (h : Nat → Nat → Int) (left f b : Nat → Int) (GG : Nat → Prop) (rk : Nat → Nat) (e gh gl gf gb : Nat) (R : Nat → Nat) (W : World)
    (hG : Grid W gh R l.length ws.length h) (hL : NumRow W gl 2 l.length left) (hF : NumRow W gf 3 l.length f) (hBy : NumRow W gb 3 ws.length b)
    (n1 : gh ≠ gl) (n2 : gf ≠ gl) (n3 : gb ≠ gl) (n4 : ∀ u, u < ws.length → R u ≠ gl ∧ R u ≠ gf ∧ R u ≠ gb)
    (hh : Has l ws w need h left) (hw : Ways l ws w h f b GG rk) (h0 : Step l ws f b GG e 0) (hl0 : 0 < left e) (hn0 : 0 < need) (hn1 : need ≤ 1125899906842624) (hq : ∀ k, k < l.length → (lotAt l k).qty ≤ 1073741824) (h40 : l.length ≤ 40) (h60 : ws.length ≤ 60) :
    Calls Try.prog 58 #[.slice (some ⟨gh, 0, none⟩) ws.length ws.length, .slice (some ⟨gl, 0, none⟩) l.length l.length, .slice (some ⟨gf, 0, none⟩) l.length l.length, .slice (some ⟨gb, 0, none⟩) ws.length ws.length, .int .i64 (e : Int), .int .i64 need] W (AlongTo l ws w need gh gl R W) := by
  have hel : e < l.length := h0.1
  have hlb := (hh.bound hq hel).1
  have HQ := Lib.hid hq
  have HH := Lib.hid hh
  have HW := Lib.hid hw
  have H0 := Lib.hid h0
  have HG := Lib.hid hG
  have HL := Lib.hid hL
  have HF := Lib.hid hF
  have HBy := Lib.hid hBy
  have HN4 := Lib.hid n4
  have hcl := hL.cell hel
  obtain ⟨m0, hm0⟩ : ∃ m0, min need (left e) = m0 := ⟨_, rfl⟩
  have hm0b : 1 ≤ m0 ∧ m0 ≤ need ∧ m0 ≤ left e := by omega
  clear hq hh hw h0 hG hL hF hBy n4
  go_enter Try.func58, Try.ntmps58
  go_wp2_with fail
  clear hcl hm0
  go_loopw [13, 14] (fun mv kv wr => ∃ (i : Nat) (m : Int), mv = .int .i64 m ∧ kv = .int .i64 (wayK f b e i : Int) ∧ Hid (∀ j, j < i → 0 ≤ b (wayV f b e j) ∧ m ≤ h (wayV f b e j) (wayK f b e (j + 1))) ∧ 1 ≤ m ∧ m ≤ need ∧ m ≤ left e ∧ Hid (Below W.heap.size W wr)) (fun _ kv _ => rk (f (intOf kv).toNat).toNat)
  case atStart => exact ⟨0, m0, rfl, rfl, Lib.hid (fun j h => absurd h (by omega)), hm0b.1, hm0b.2.1, hm0b.2.2, Lib.hid (Below.refl _ _)⟩
  case round =>
    obtain ⟨i, m, rfl, rfl, HP, hm1, hm2, hm3, HB⟩ := hrel
    have HST : Hid (Step l ws f b GG e i) := Lib.hid (steps_all HW.out H0.out (fun j hj => (HP.out j hj).1) i (Nat.le_refl _))
    obtain ⟨hkl, hfv, hgv, _⟩ := HST.out
    have hvl := (HW.out _ hgv).1
    have cf := (HF.out.below HB.out).cell hkl
    have cb := (HBy.out.below HB.out).cell hvl
    rw [hfv] at cf
    have HFV := Lib.hid hfv
    clear hfv hgv
    by_cases hb : 0 ≤ b (wayV f b e i)
    · obtain ⟨s1, s2, s3, s4⟩ := step_next HW.out HST.out hb
      have hk2 := s3.1
      have cg := World.rowIs.cell (HG.out.below HB.out).rows hvl
      have ch := ((HG.out.below HB.out).nums _ hvl).cell hk2
      rw [s1] at cb
      have HRK := Lib.hid s4
      have hhb := (HH.out.bound HQ.out hk2).2 _ hvl
      have HFN := Lib.hid s3.2.1
      have HKE : Hid (wayV f b e i = (f (wayK f b e i)).toNat ∧ wayV f b e (i + 1) = (f (wayK f b e (i + 1))).toNat) := Lib.hid ⟨rfl, rfl⟩
      have hbr : (0 : Int) ≤ (wayK f b e (i + 1) : Int) := by omega
      have HBG := Lib.hid hb
      generalize hvv : wayV f b e i = v at cf cb cg ch hvl s2 hhb
      generalize hkk : wayK f b e i = k at cf hkl ⊢
      generalize hkk2 : wayK f b e (i + 1) = k2 at cb ch hk2 s2 hhb hbr
      obtain ⟨mm, hmm⟩ : ∃ mm, min m (h v k2) = mm := ⟨_, rfl⟩
      have hmmb : 1 ≤ mm ∧ mm ≤ m ∧ mm ≤ h v k2 := by omega
      have HVV := Lib.hid hvv
      have HKK := Lib.hid hkk
      have HKK2 := Lib.hid hkk2
      clear s1 s3 s4 hvv hkk hkk2 hb
      go_wp2
      go_roundw
      case rel => exact ⟨i + 1, mm, rfl, by rw [HKK2.out], Lib.hid (fun j hj => by
        rcases Nat.lt_succ_iff_lt_or_eq.1 hj with h | h
        · have := HP.out j h; exact ⟨this.1, by omega⟩
        · subst h; rw [HVV.out, HKK2.out]; exact ⟨by rw [← HVV.out]; exact HBG.out, hmmb.2.2⟩), hmmb.1, by omega, by omega, HB⟩
      case measure =>
        have h1 := HRK.out
        rw [HKE.out.1, HKE.out.2, HKK.out, HKK2.out] at h1
        simp [intOf]; omega
    · have hbn : b (wayV f b e i) < 0 := by omega
      have hdb : decide (0 ≤ b (wayV f b e i)) = false := decide_eq_false hb
      have HBN := Lib.hid hbn
      have hlr := (HL.out.below HB.out).cell hel
      have hfr : wr.frozen? ⟨gl, e, none⟩ = false := World.rowIs.frozen (HL.out.below HB.out) e
      have hgr := World.rowIs.lt (HL.out.below HB.out)
      have hsub : IntKind.i64.wrap (left e - m) = left e - m := by rw [IntKind.wrap_i64]; omega
      generalize hvv : wayV f b e i = v at cf cb hvl hdb
      generalize hkk : wayK f b e i = k at cf hkl ⊢
      have HVV := Lib.hid hvv
      have HKK := Lib.hid hkk
      obtain ⟨w1, rfl⟩ : ∃ W, W = wr := ⟨_, rfl⟩
      clear hb hbn hvv hkk
      go_wp2_with fail
      have HL2 : Hid (NumRow (w1.setCell ⟨gl, e, none⟩ (.int .i64 (left e - m))) gl 2 l.length (fun k => if k = e then left k - m else left k)) := Lib.hid (World.rowIs.congr ((HL.out.below HB.out).set_ e (left e - m)) (fun j _ => by (try simp only); split; (rename_i h; subst h; rfl); rfl))
      have HG2 : Hid (Grid (w1.setCell ⟨gl, e, none⟩ (.int .i64 (left e - m))) gh R l.length ws.length h) := Lib.hid ((HG.out.below HB.out).other (a := ⟨gl, e, none⟩) n1 (fun u hu => (HN4.out u hu).1) _)
      have HF2 : Hid (NumRow (w1.setCell ⟨gl, e, none⟩ (.int .i64 (left e - m))) gf 3 l.length f) := Lib.hid ((HF.out.below HB.out).other (a := ⟨gl, e, none⟩) n2 _)
      have HBy2 : Hid (NumRow (w1.setCell ⟨gl, e, none⟩ (.int .i64 (left e - m))) gb 3 ws.length b) := Lib.hid ((HBy.out.below HB.out).other (a := ⟨gl, e, none⟩) n3 _)
      have HKP : Hid (∀ B W0, Below B W0 W → B ≤ gl → (∀ u, u < ws.length → B ≤ R u) → Below B W0 (w1.setCell ⟨gl, e, none⟩ (.int .i64 (left e - m)))) := Lib.hid (fun B W0 a b c => (a.trans ((HB.out.mono (by have := World.rowIs.lt HL.out; omega)) : Below B W w1)).setCell (p := ⟨gl, e, none⟩) b _)
      obtain ⟨w2, hw2⟩ : ∃ W, W = w1.setCell ⟨gl, e, none⟩ (.int .i64 (left e - m)) := ⟨_, rfl⟩
      rw [← hw2] at HL2 HG2 HF2 HBy2 HKP ⊢
      clear hw2 hlr hfr cf cb hdb hgr HL HG HF HBy HB
      have HMS : Hid (Mid2 l ws h h (fun k => if k = e then left k - m else left k) f b rk e 0 m) := Lib.hid (mid2_start HH.out (by omega) hm3)
      go_loopw [14] (fun kv wr => ∃ (j : Nat) (h2 : Nat → Nat → Int), j ≤ i ∧ kv = .int .i64 (wayK f b e j : Int) ∧ Hid (Mid2 l ws h h2 (fun k => if k = e then left k - m else left k) f b rk e j m) ∧ Hid (Grid wr gh R l.length ws.length h2) ∧ Hid (NumRow wr gl 2 l.length (fun k => if k = e then left k - m else left k)) ∧ Hid (NumRow wr gf 3 l.length f) ∧ Hid (NumRow wr gb 3 ws.length b) ∧ Hid (∀ B W0, Below B W0 W → B ≤ gl → (∀ u, u < ws.length → B ≤ R u) → Below B W0 wr)) (fun kv _ => rk (f (intOf kv).toNat).toNat)
      case atStart => exact ⟨0, h, Nat.zero_le _, rfl, HMS, HG2, HL2, HF2, HBy2, HKP⟩
      case round =>
        clear HL2 HG2 HF2 HBy2 HKP HMS
        obtain ⟨j, h2, hji, rfl, HM, HG, HL, HF, HBy, HKP⟩ := hrel
        have HST2 : Hid (Step l ws f b GG e j) := Lib.hid (steps_all HW.out H0.out (fun t ht => (HP.out t (by omega)).1) j (Nat.le_refl _))
        obtain ⟨hkl2, hfv, hgv, _⟩ := HST2.out
        have hvl2 := (HW.out _ hgv).1
        have cf := HF.out.cell hkl2
        have cb := HBy.out.cell hvl2
        rw [hfv] at cf
        have hbd := HM.out.bound (by omega) HQ.out hvl2 hkl2
        have hsame := HM.out.same (wayV f b e j) (wayK f b e j) (Nat.le_refl _)
        have HADD : Hid (IntKind.i64.wrap (h2 (wayV f b e j) (wayK f b e j) + m) = h2 (wayV f b e j) (wayK f b e j) + m) := Lib.hid (by rw [IntKind.wrap_i64]; omega)
        have HCG := Lib.hid (World.rowIs.cell HG.out.rows hvl2)
        have hch := (HG.out.nums _ hvl2).cell hkl2
        have hcz := World.rowIs.frozen (HG.out.nums _ hvl2) (wayK f b e j)
        have hcl := World.rowIs.lt (HG.out.nums _ hvl2)
        have HFAR : Hid (R (wayV f b e j) ≠ gh) := Lib.hid (HG.out.far _ hvl2)
        have HFAR2 : Hid (R (wayV f b e j) ≠ gb) := Lib.hid (HN4.out _ hvl2).2.2
        have HVD : Hid (wayV f b e j = (f (wayK f b e j)).toNat) := Lib.hid rfl
        have HMN : Hid (0 ≤ b (wayV f b e j) → Mid2 l ws h (upd2 (upd2 h2 (wayV f b e j) (wayK f b e j) m) (wayV f b e j) (wayK f b e (j + 1)) (-m)) (fun k => if k = e then left k - m else left k) f b rk e (j + 1) m ∧ j < i ∧ b (wayV f b e j) = (wayK f b e (j + 1) : Int) ∧ wayK f b e (j + 1) < l.length ∧ h2 (wayV f b e j) (wayK f b e (j + 1)) = h (wayV f b e j) (wayK f b e (j + 1)) ∧ m ≤ h (wayV f b e j) (wayK f b e (j + 1)) ∧ wayK f b e (j + 1) ≠ wayK f b e j ∧ rk (f (wayK f b e (j + 1))).toNat < rk (f (wayK f b e j)).toNat) := Lib.hid (fun hb => by
          have hji2 : j < i := by
            rcases Nat.lt_or_eq_of_le hji with h | h
            · exact h
            · subst h; have := HBN.out; omega
          obtain ⟨s1, s2, s3, s4⟩ := step_next HW.out HST2.out hb
          have hp := (HP.out j hji2).2
          refine ⟨HM.out.next HW.out HST2.out hb (by omega) hp, hji2, s1, s3.1, HM.out.same _ _ (Nat.le_refl _), hp, fun e' => ?_, s4⟩
          have : wayV f b e (j + 1) = wayV f b e j := by unfold wayV; rw [e']
          rw [this] at s4; omega)
        have HME : Hid (b (wayV f b e j) < 0 → Has l ws w (need - m) (upd2 h2 (wayV f b e j) (wayK f b e j) m) (fun k => if k = e then left k - m else left k)) := Lib.hid (fun hb => HM.out.end_ HH.out HW.out HST2.out hb (by omega))
        have HJK : Hid (wayK f b e (j + 1) = wayK f b e (j + 1)) := Lib.hid rfl
        generalize hvv2 : wayV f b e j = v at *
        generalize hkk2 : wayK f b e j = k at *
        obtain ⟨w3, rfl⟩ : ∃ W, W = wr := ⟨_, rfl⟩
        have HCB := Lib.hid cb
        have HWX := hkl2
        clear cb hsame hfv hgv
        go_upto_region 10 with (fail)
        refine wp_region_held_drew (S := fun w' => w'.cell? ⟨gh, v, none⟩ = some (.slice (some ⟨R v, 0, none⟩) l.length l.length)) (by kernel_rfl) ((HCG.out : w3.drew.cell? ⟨gh, v, none⟩ = _)) (fun hS => ?_)
        refine wpAnyH_take (i := 0) (v := (.slice (some ⟨gh, 0, none⟩) ws.length ws.length)) rfl (by kernel_rfl) (by kernel_rfl) (by kernel_rfl) (fun _ _ _ h => h) (Or.inl ⟨by kernel_rfl, fun w' hS' => by go_simp⟩) hS ?_
        refine wpAnyH_take (i := 1) (v := (.int .i64 (v : Int))) rfl (by kernel_rfl) (by kernel_rfl) (by kernel_rfl) (fun _ _ _ h => h) (Or.inl ⟨by kernel_rfl, fun w' hS' => by go_simp⟩) hS ?_
        refine wpAnyH_take (i := 2) (v := (.pointer (some ⟨gh, v, none⟩))) rfl (by kernel_rfl) (by kernel_rfl) (by kernel_rfl) (fun _ _ _ h => h) (Or.inl ⟨by kernel_rfl, fun w' hS' => by go_simp⟩) hS ?_
        refine wpAnyH_take (i := 3) (v := (.slice (some ⟨R v, 0, none⟩) l.length l.length)) rfl (by kernel_rfl) (by kernel_rfl) (by kernel_rfl) (fun _ _ _ h => h) (Or.inl ⟨by kernel_rfl, fun w' hS' => by have cg := hS'; go_simp⟩) hS ?_
        refine wpAnyH_take (i := 4) (v := (.int .i64 (k : Int))) rfl (by kernel_rfl) (by kernel_rfl) (by kernel_rfl) (fun _ _ _ h => h) (Or.inl ⟨by kernel_rfl, fun w' hS' => by go_simp⟩) hS ?_
        refine wpAnyH_take (i := 5) (v := (.slice (some ⟨gh, 0, none⟩) ws.length ws.length)) rfl (by kernel_rfl) (by kernel_rfl) (by kernel_rfl) (fun _ _ _ h => h) (Or.inl ⟨by kernel_rfl, fun w' hS' => by go_simp⟩) hS ?_
        refine wpAnyH_take (i := 6) (v := (.int .i64 (v : Int))) rfl (by kernel_rfl) (by kernel_rfl) (by kernel_rfl) (fun _ _ _ h => h) (Or.inl ⟨by kernel_rfl, fun w' hS' => by go_simp⟩) hS ?_
        refine wpAnyH_take (i := 7) (v := (.pointer (some ⟨gh, v, none⟩))) rfl (by kernel_rfl) (by kernel_rfl) (by kernel_rfl) (fun _ _ _ h => h) (Or.inl ⟨by kernel_rfl, fun w' hS' => by go_simp⟩) hS ?_
        refine wpAnyH_take (i := 8) (v := (.slice (some ⟨R v, 0, none⟩) l.length l.length)) rfl (by kernel_rfl) (by kernel_rfl) (by kernel_rfl) (fun _ _ _ h => h) (Or.inl ⟨by kernel_rfl, fun w' hS' => by have cg := hS'; go_simp⟩) hS ?_
        refine wpAnyH_take (i := 9) (v := (.int .i64 (k : Int))) rfl (by kernel_rfl) (by kernel_rfl) (by kernel_rfl) (fun _ _ _ h => h) (Or.inl ⟨by kernel_rfl, fun w' hS' => by go_simp⟩) hS ?_
        refine wpAnyH_take (i := 10) (v := (.pointer (some ⟨R v, k, none⟩))) rfl (by kernel_rfl) (by kernel_rfl) (by kernel_rfl) (fun _ _ _ h => h) (Or.inl ⟨by kernel_rfl, fun w' hS' => by go_simp⟩) hS ?_
        refine wpAnyH_take (i := 12) (v := (.int .i64 m)) rfl (by kernel_rfl) (by kernel_rfl) (by kernel_rfl) (fun _ _ _ h => h) (Or.inl ⟨by kernel_rfl, fun w' hS' => by go_simp⟩) hS ?_
        refine wpAnyH_ready (rs := [11]) (by kernel_rfl) (by simp) ?_
        refine AllReadyH.cons rfl (fun K hK => ?_) AllReadyH.nil
        go_simp
        skip
        refine hK.out _ _ (hS) (fun hS => ?_)
        clear hK K
        refine wpAnyH_take (i := 13) (v := (.int .i64 (h2 v k + m))) rfl (by kernel_rfl) (by kernel_rfl) (by kernel_rfl) (fun _ _ _ h => h) (Or.inl ⟨by kernel_rfl, fun w' hS' => by have ha := HADD.out; go_simp⟩) hS ?_
        refine wpAnyH_take (i := 14) (v := (.pointer (some ⟨R v, k, none⟩))) rfl (by kernel_rfl) (by kernel_rfl) (by kernel_rfl) (fun _ _ _ h => h) (Or.inl ⟨by kernel_rfl, fun w' hS' => by go_simp⟩) hS ?_
        refine wpAnyH_ready (rs := [15]) (by kernel_rfl) (by simp) ?_
        refine AllReadyH.cons rfl (fun K hK => ?_) AllReadyH.nil
        go_simp
        skip
        refine hK.out _ _ ((World.cell?_setCell_far _ _ _ _ HFAR.out).trans hS) (fun hS => ?_)
        clear hK K
        refine wpAnyH_done (by kernel_rfl) ?_ _
        go_simp
        first | (rename_i hnext; refine hnext _ _ ?_; clear hnext) | (rename_i hnext _; refine hnext _ _ ?_; clear hnext) | (rename_i hnext _ _; refine hnext _ _ ?_; clear hnext) | (rename_i hnext _ _ _; refine hnext _ _ ?_; clear hnext) | (rename_i hnext _ _ _ _; refine hnext _ _ ?_; clear hnext) | (rename_i hnext _ _ _ _ _; refine hnext _ _ ?_; clear hnext) | (rename_i hnext _ _ _ _ _ _; refine hnext _ _ ?_; clear hnext) | (rename_i hnext _ _ _ _ _ _ _; refine hnext _ _ ?_; clear hnext) | (rename_i hnext _ _ _ _ _ _ _ _; refine hnext _ _ ?_; clear hnext) | (rename_i hnext _ _ _ _ _ _ _ _ _; refine hnext _ _ ?_; clear hnext) | (rename_i hnext _ _ _ _ _ _ _ _ _ _; refine hnext _ _ ?_; clear hnext) | (rename_i hnext _ _ _ _ _ _ _ _ _ _ _; refine hnext _ _ ?_; clear hnext) | (rename_i hnext _ _ _ _ _ _ _ _ _ _ _ _; refine hnext _ _ ?_; clear hnext) | (rename_i hnext _ _ _ _ _ _ _ _ _ _ _ _ _; refine hnext _ _ ?_; clear hnext)
        have HG4 : Hid (Grid (w3.setCell ⟨R v, k, none⟩ (.int .i64 (h2 v k + m))).drew gh R l.length ws.length (upd2 h2 v k m)) := Lib.hid (Grid.drew (HG.out.upd (k := k) hvl2 m))
        have HL4 : Hid (NumRow (w3.setCell ⟨R v, k, none⟩ (.int .i64 (h2 v k + m))).drew gl 2 l.length (fun k => if k = e then left k - m else left k)) := Lib.hid (HL.out.other (a := ⟨R v, k, none⟩) (fun h => (HN4.out v hvl2).1 h.symm) _)
        have HF4 : Hid (NumRow (w3.setCell ⟨R v, k, none⟩ (.int .i64 (h2 v k + m))).drew gf 3 l.length f) := Lib.hid (HF.out.other (a := ⟨R v, k, none⟩) (fun h => (HN4.out v hvl2).2.1 h.symm) _)
        have HBy4 : Hid (NumRow (w3.setCell ⟨R v, k, none⟩ (.int .i64 (h2 v k + m))).drew gb 3 ws.length b) := Lib.hid (HBy.out.other (a := ⟨R v, k, none⟩) (fun h => (HN4.out v hvl2).2.2 h.symm) _)
        have HKP4 : Hid (∀ B W0, Below B W0 W → B ≤ gl → (∀ u, u < ws.length → B ≤ R u) → Below B W0 (w3.setCell ⟨R v, k, none⟩ (.int .i64 (h2 v k + m))).drew) := Lib.hid (fun B W0 a1 a2 a3 => ((HKP.out B W0 a1 a2 a3).setCell (p := ⟨R v, k, none⟩) (a3 v hvl2) _).drew)
        obtain ⟨w4, hw4⟩ : ∃ W, W = (w3.setCell ⟨R v, k, none⟩ (.int .i64 (h2 v k + m))).drew := ⟨_, rfl⟩
        rw [← hw4] at HG4 HL4 HF4 HBy4 HKP4 ⊢
        clear hw4 hS HG HL HF HBy HKP hch hcz hcl cf HCG HCB HADD
        have cb := HBy4.out.cell hvl2
        by_cases hb : 0 ≤ b v
        · obtain ⟨m1, m2, m3, m4, m5, m6, m7, m8⟩ := HMN.out hb
          have hb' : decide ((wayK f b e (j + 1) : Int) < 0) = false := decide_eq_false (by omega)
          have HM9 := Lib.hid m1
          have HRK := Lib.hid m8
          rw [m3] at cb
          have hub := (HH.out.bound HQ.out m4).2 v hvl2
          have HSUB2 : Hid (IntKind.i64.wrap (h v (wayK f b e (j + 1)) - m) = h v (wayK f b e (j + 1)) - m) := Lib.hid (by rw [IntKind.wrap_i64]; omega)
          have HVAL : Hid (upd2 h2 v k m v (wayK f b e (j + 1)) = h v (wayK f b e (j + 1))) := Lib.hid (by rw [upd2_col _ _ _ _ _ m7]; exact m5)
          have hch : w4.cell? ⟨R v, wayK f b e (j + 1), none⟩ = some (.int .i64 (h v (wayK f b e (j + 1)))) := by rw [← HVAL.out]; exact (HG4.out.nums v hvl2).cell m4
          have hcz := World.rowIs.frozen (HG4.out.nums v hvl2) (wayK f b e (j + 1))
          have hcl := World.rowIs.lt (HG4.out.nums v hvl2)
          have HCGB : Hid (w4.cell? ⟨gh, v, none⟩ = some (.slice (some ⟨R v, 0, none⟩) l.length l.length) ∧ w4.cell? ⟨gb, v, none⟩ = some (.int .i64 (wayK f b e (j + 1) : Int))) := Lib.hid ⟨World.rowIs.cell HG4.out.rows hvl2, cb⟩
          have HVB : Hid (b v = (wayK f b e (j + 1) : Int)) := Lib.hid m3
          clear m1 m3 m5 m7 m8 hb HMN HME
          generalize hkk3 : wayK f b e (j + 1) = k2 at *
          go_upto_region 13 with (fail)
          refine wp_region_held_drew (S := fun w' => w'.cell? ⟨gh, v, none⟩ = some (.slice (some ⟨R v, 0, none⟩) l.length l.length) ∧ w'.cell? ⟨gb, v, none⟩ = some (.int .i64 (k2 : Int))) (by kernel_rfl) ((HCGB.out : w4.drew.cell? ⟨gh, v, none⟩ = _ ∧ w4.drew.cell? ⟨gb, v, none⟩ = _)) (fun hS => ?_)
          refine wpAnyH_take (i := 0) (v := (.slice (some ⟨gh, 0, none⟩) ws.length ws.length)) rfl (by kernel_rfl) (by kernel_rfl) (by kernel_rfl) (fun _ _ _ h => h) (Or.inl ⟨by kernel_rfl, fun w' hS' => by go_simp⟩) hS ?_
          refine wpAnyH_take (i := 1) (v := (.int .i64 (v : Int))) rfl (by kernel_rfl) (by kernel_rfl) (by kernel_rfl) (fun _ _ _ h => h) (Or.inl ⟨by kernel_rfl, fun w' hS' => by go_simp⟩) hS ?_
          refine wpAnyH_take (i := 2) (v := (.pointer (some ⟨gh, v, none⟩))) rfl (by kernel_rfl) (by kernel_rfl) (by kernel_rfl) (fun _ _ _ h => h) (Or.inl ⟨by kernel_rfl, fun w' hS' => by go_simp⟩) hS ?_
          refine wpAnyH_take (i := 3) (v := (.slice (some ⟨R v, 0, none⟩) l.length l.length)) rfl (by kernel_rfl) (by kernel_rfl) (by kernel_rfl) (fun _ _ _ h => h) (Or.inl ⟨by kernel_rfl, fun w' hS' => by obtain ⟨cg, cb⟩ := hS'; go_simp⟩) hS ?_
          refine wpAnyH_take (i := 4) (v := (.slice (some ⟨gb, 0, none⟩) ws.length ws.length)) rfl (by kernel_rfl) (by kernel_rfl) (by kernel_rfl) (fun _ _ _ h => h) (Or.inl ⟨by kernel_rfl, fun w' hS' => by go_simp⟩) hS ?_
          refine wpAnyH_take (i := 5) (v := (.int .i64 (v : Int))) rfl (by kernel_rfl) (by kernel_rfl) (by kernel_rfl) (fun _ _ _ h => h) (Or.inl ⟨by kernel_rfl, fun w' hS' => by go_simp⟩) hS ?_
          refine wpAnyH_take (i := 6) (v := (.pointer (some ⟨gb, v, none⟩))) rfl (by kernel_rfl) (by kernel_rfl) (by kernel_rfl) (fun _ _ _ h => h) (Or.inl ⟨by kernel_rfl, fun w' hS' => by go_simp⟩) hS ?_
          refine wpAnyH_take (i := 7) (v := (.int .i64 (k2 : Int))) rfl (by kernel_rfl) (by kernel_rfl) (by kernel_rfl) (fun _ _ _ h => h) (Or.inl ⟨by kernel_rfl, fun w' hS' => by obtain ⟨cg, cb⟩ := hS'; go_simp⟩) hS ?_
          refine wpAnyH_take (i := 8) (v := (.slice (some ⟨gh, 0, none⟩) ws.length ws.length)) rfl (by kernel_rfl) (by kernel_rfl) (by kernel_rfl) (fun _ _ _ h => h) (Or.inl ⟨by kernel_rfl, fun w' hS' => by go_simp⟩) hS ?_
          refine wpAnyH_take (i := 9) (v := (.int .i64 (v : Int))) rfl (by kernel_rfl) (by kernel_rfl) (by kernel_rfl) (fun _ _ _ h => h) (Or.inl ⟨by kernel_rfl, fun w' hS' => by go_simp⟩) hS ?_
          refine wpAnyH_take (i := 10) (v := (.pointer (some ⟨gh, v, none⟩))) rfl (by kernel_rfl) (by kernel_rfl) (by kernel_rfl) (fun _ _ _ h => h) (Or.inl ⟨by kernel_rfl, fun w' hS' => by go_simp⟩) hS ?_
          refine wpAnyH_take (i := 11) (v := (.slice (some ⟨R v, 0, none⟩) l.length l.length)) rfl (by kernel_rfl) (by kernel_rfl) (by kernel_rfl) (fun _ _ _ h => h) (Or.inl ⟨by kernel_rfl, fun w' hS' => by obtain ⟨cg, cb⟩ := hS'; go_simp⟩) hS ?_
          refine wpAnyH_take (i := 12) (v := (.slice (some ⟨gb, 0, none⟩) ws.length ws.length)) rfl (by kernel_rfl) (by kernel_rfl) (by kernel_rfl) (fun _ _ _ h => h) (Or.inl ⟨by kernel_rfl, fun w' hS' => by go_simp⟩) hS ?_
          refine wpAnyH_take (i := 13) (v := (.int .i64 (v : Int))) rfl (by kernel_rfl) (by kernel_rfl) (by kernel_rfl) (fun _ _ _ h => h) (Or.inl ⟨by kernel_rfl, fun w' hS' => by go_simp⟩) hS ?_
          refine wpAnyH_take (i := 14) (v := (.pointer (some ⟨gb, v, none⟩))) rfl (by kernel_rfl) (by kernel_rfl) (by kernel_rfl) (fun _ _ _ h => h) (Or.inl ⟨by kernel_rfl, fun w' hS' => by go_simp⟩) hS ?_
          refine wpAnyH_take (i := 15) (v := (.int .i64 (k2 : Int))) rfl (by kernel_rfl) (by kernel_rfl) (by kernel_rfl) (fun _ _ _ h => h) (Or.inl ⟨by kernel_rfl, fun w' hS' => by obtain ⟨cg, cb⟩ := hS'; go_simp⟩) hS ?_
          refine wpAnyH_take (i := 16) (v := (.pointer (some ⟨R v, k2, none⟩))) rfl (by kernel_rfl) (by kernel_rfl) (by kernel_rfl) (fun _ _ _ h => h) (Or.inl ⟨by kernel_rfl, fun w' hS' => by go_simp⟩) hS ?_
          refine wpAnyH_take (i := 18) (v := (.int .i64 m)) rfl (by kernel_rfl) (by kernel_rfl) (by kernel_rfl) (fun _ _ _ h => h) (Or.inl ⟨by kernel_rfl, fun w' hS' => by go_simp⟩) hS ?_
          refine wpAnyH_ready (rs := [17]) (by kernel_rfl) (by simp) ?_
          refine AllReadyH.cons rfl (fun K hK => ?_) AllReadyH.nil
          go_simp
          skip
          refine hK.out _ _ (hS) (fun hS => ?_)
          clear hK K
          refine wpAnyH_take (i := 19) (v := (.int .i64 (h v k2 - m))) rfl (by kernel_rfl) (by kernel_rfl) (by kernel_rfl) (fun _ _ _ h => h) (Or.inl ⟨by kernel_rfl, fun w' hS' => by have ha := HSUB2.out; go_simp⟩) hS ?_
          refine wpAnyH_take (i := 20) (v := (.pointer (some ⟨R v, k2, none⟩))) rfl (by kernel_rfl) (by kernel_rfl) (by kernel_rfl) (fun _ _ _ h => h) (Or.inl ⟨by kernel_rfl, fun w' hS' => by go_simp⟩) hS ?_
          refine wpAnyH_ready (rs := [21]) (by kernel_rfl) (by simp) ?_
          refine AllReadyH.cons rfl (fun K hK => ?_) AllReadyH.nil
          go_simp
          skip
          refine hK.out _ _ (⟨(World.cell?_setCell_far _ _ _ _ HFAR.out).trans hS.1, (World.cell?_setCell_far _ _ _ _ HFAR2.out).trans hS.2⟩) (fun hS => ?_)
          clear hK K
          refine wpAnyH_done (by kernel_rfl) ?_ _
          go_simp
          first | (rename_i hnext; refine hnext _ _ ?_; clear hnext) | (rename_i hnext _; refine hnext _ _ ?_; clear hnext) | (rename_i hnext _ _; refine hnext _ _ ?_; clear hnext) | (rename_i hnext _ _ _; refine hnext _ _ ?_; clear hnext) | (rename_i hnext _ _ _ _; refine hnext _ _ ?_; clear hnext) | (rename_i hnext _ _ _ _ _; refine hnext _ _ ?_; clear hnext) | (rename_i hnext _ _ _ _ _ _; refine hnext _ _ ?_; clear hnext) | (rename_i hnext _ _ _ _ _ _ _; refine hnext _ _ ?_; clear hnext) | (rename_i hnext _ _ _ _ _ _ _ _; refine hnext _ _ ?_; clear hnext) | (rename_i hnext _ _ _ _ _ _ _ _ _; refine hnext _ _ ?_; clear hnext) | (rename_i hnext _ _ _ _ _ _ _ _ _ _; refine hnext _ _ ?_; clear hnext) | (rename_i hnext _ _ _ _ _ _ _ _ _ _ _; refine hnext _ _ ?_; clear hnext) | (rename_i hnext _ _ _ _ _ _ _ _ _ _ _ _; refine hnext _ _ ?_; clear hnext) | (rename_i hnext _ _ _ _ _ _ _ _ _ _ _ _ _; refine hnext _ _ ?_; clear hnext)
          have HG5 : Hid (Grid (w4.setCell ⟨R v, k2, none⟩ (.int .i64 (h v k2 - m))).drew gh R l.length ws.length (upd2 (upd2 h2 v k m) v k2 (-m))) := Lib.hid (by have h := HG4.out.upd (k := k2) hvl2 (-m); rw [HVAL.out, ← Int.sub_eq_add_neg] at h; exact Grid.drew h)
          have HL5 : Hid (NumRow (w4.setCell ⟨R v, k2, none⟩ (.int .i64 (h v k2 - m))).drew gl 2 l.length (fun k => if k = e then left k - m else left k)) := Lib.hid (HL4.out.other (a := ⟨R v, k2, none⟩) (fun h => (HN4.out v hvl2).1 h.symm) _)
          have HF5 : Hid (NumRow (w4.setCell ⟨R v, k2, none⟩ (.int .i64 (h v k2 - m))).drew gf 3 l.length f) := Lib.hid (HF4.out.other (a := ⟨R v, k2, none⟩) (fun h => (HN4.out v hvl2).2.1 h.symm) _)
          have HBy5 : Hid (NumRow (w4.setCell ⟨R v, k2, none⟩ (.int .i64 (h v k2 - m))).drew gb 3 ws.length b) := Lib.hid (HBy4.out.other (a := ⟨R v, k2, none⟩) (fun h => (HN4.out v hvl2).2.2 h.symm) _)
          have HKP5 : Hid (∀ B W0, Below B W0 W → B ≤ gl → (∀ u, u < ws.length → B ≤ R u) → Below B W0 (w4.setCell ⟨R v, k2, none⟩ (.int .i64 (h v k2 - m))).drew) := Lib.hid (fun B W0 a1 a2 a3 => ((HKP4.out B W0 a1 a2 a3).setCell (p := ⟨R v, k2, none⟩) (a3 v hvl2) _).drew)
          obtain ⟨w5, hw5⟩ : ∃ W, W = (w4.setCell ⟨R v, k2, none⟩ (.int .i64 (h v k2 - m))).drew := ⟨_, rfl⟩
          rw [← hw5] at HG5 HL5 HF5 HBy5 HKP5 ⊢
          clear hw5 hS HG4 HL4 HF4 HBy4 HKP4 hch hcz hcl cb HCGB HSUB2
          have cb := HBy5.out.cell hvl2
          rw [HVB.out] at cb
          go_wp2
          go_roundw
          case rel => exact ⟨j + 1, _, m2, by rw [hkk3], HM9, HG5, HL5, HF5, HBy5, HKP5⟩
          case measure => have h1 := HRK.out; simp [intOf]; omega
        · have hbn : decide (b v < 0) = true := decide_eq_true (by omega)
          have HAS := Lib.hid (HME.out (by omega))
          clear hb HMN HME
          go_wp2
          go_ret
          exact ⟨m, _, _, rfl, hm1, hm2, HAS.out, HG4.out, HL4.out, HKP4.out⟩
end Go.Proofs.Ytddnfikjfmfhfaa
end
section
/- Which wants and lots are come to, step by step: no walk. -/
namespace Go.Proofs.Ytddnfikjfmfhfaa
set_option linter.unusedVariables false
def updF (f : Nat → Int) (i : Nat) (x : Int) : Nat → Int := fun j => if j = i then x else f j
theorem updF_same (f : Nat → Int) (i : Nat) (x : Int) : updF f i x i = x := by simp [updF]
theorem updF_other (f : Nat → Int) (i : Nat) (x : Int) {j : Nat} (h : j ≠ i) : updF f i x j = f j := by simp [updF, h]
/-- The wants of r have been come to, and by which lot; the lots, and by which want; op: what is still to be looked at. -/
structure Came (l : List Lt) (ws : List Wt) (w : Nat) (h : Nat → Nat → Int) (left : Nat → Int) (r : List Nat) (f b : Nat → Int) (rk : Nat → Nat) (op : Nat → Nat → Prop) : Prop where
  own : w ∈ r
  lt : ∀ u, u ∈ r → u < ws.length
  rank : ∀ u, u ∈ r → rk u < r.length
  by_ : ∀ u, u < ws.length → (u ∉ r ∧ b u = -2) ∨ (u ∈ r ∧ u = w ∧ b u = -1) ∨ (u ∈ r ∧ ∃ k : Nat, b u = (k : Int) ∧ k < l.length ∧ 0 < h u k ∧ ∃ v : Nat, f k = (v : Int) ∧ rk v < rk u ∧ v ∈ r ∧ svAt l ws k v = true)
  from_ : ∀ k, k < l.length → f k = -1 ∨ ∃ v : Nat, f k = (v : Int) ∧ v ∈ r ∧ svAt l ws k v = true
  shut : ∀ k, k < l.length → 0 ≤ f k → left k = 0 ∧ ∀ u, u < ws.length → 0 < h u k → u ∈ r ∨ op k u
section
variable {l : List Lt} {ws : List Wt} {w : Nat} {h : Nat → Nat → Int} {left : Nat → Int} {r : List Nat} {f b : Nat → Int} {rk : Nat → Nat} {op : Nat → Nat → Prop}
theorem came_start (hw : w < ws.length) : Came l ws w h left [w] (fun _ => -1) (updF (fun _ => -2) w (-1)) (fun _ => 0) (fun _ _ => False) :=
  ⟨by simp, fun u hu => by rw [List.mem_singleton.1 hu]; exact hw, fun u hu => by simp, fun u hu => by
    by_cases e : u = w
    · subst e; exact .inr (.inl ⟨by simp, rfl, updF_same _ _ _⟩)
    · exact .inl ⟨by simpa using e, updF_other _ _ _ e⟩, fun k hk => .inl rfl, fun k hk hf => absurd hf (by omega)⟩
theorem Came.ways (hc : Came l ws w h left r f b rk op) : Ways l ws w h f b (fun v => v ∈ r) rk := fun v hv => by
  refine ⟨hc.lt v hv, ?_⟩
  rcases hc.by_ v (hc.lt v hv) with ⟨h1, _⟩ | ⟨_, h1, h2⟩ | ⟨_, k, h1, h2, h3, v', h4, h5, h6, h7⟩
  · exact absurd hv h1
  · exact .inl ⟨by omega, h1⟩
  · exact .inr ⟨k, h1, h2, h3, v', h4, h5, h6, h7⟩
/-- A lot that nobody has come to is come to by v: the ways stay. -/
theorem Came.ways_from (hc : Came l ws w h left r f b rk op) {k v : Nat} (hk : f k = -1) : Ways l ws w h (updF f k v) b (fun v => v ∈ r) rk := fun u hu => by
  obtain ⟨h1, h2⟩ := hc.ways u hu
  refine ⟨h1, ?_⟩
  rcases h2 with h2 | ⟨k', g1, g2, g3, v', g4, g5, g6, g7⟩
  · exact .inl h2
  · refine .inr ⟨k', g1, g2, g3, v', ?_, g5, g6, g7⟩
    rw [updF_other]
    · exact g4
    · intro e; subst e; omega
theorem Came.take (hc : Came l ws w h left r f b rk (fun _ _ => False)) {k v : Nat} (hk : k < l.length) (hf : f k = -1) (hv : v ∈ r) (hs : svAt l ws k v = true) (hl : left k = 0) : Came l ws w h left r (updF f k v) b rk (fun k' u => k' = k ∧ 0 ≤ u) := by
  refine ⟨hc.own, hc.lt, hc.rank, fun u hu => ?_, fun k' hk' => ?_, fun k' hk' hf' => ?_⟩
  · rcases hc.by_ u hu with g | g | ⟨h0, k', g1, g2, g3, v', g4, g5, g6, g7⟩
    · exact .inl g
    · exact .inr (.inl g)
    · exact .inr (.inr ⟨h0, k', g1, g2, g3, v', by rw [updF_other]; exact g4; intro e; subst e; omega, g5, g6, g7⟩)
  · by_cases e : k' = k
    · subst e; exact .inr ⟨v, updF_same _ _ _, hv, hs⟩
    · rw [updF_other _ _ _ e]; exact hc.from_ k' hk'
  · by_cases e : k' = k
    · subst e; exact ⟨hl, fun u _ _ => .inr ⟨rfl, Nat.zero_le _⟩⟩
    · rw [updF_other _ _ _ e] at hf'
      obtain ⟨g1, g2⟩ := hc.shut k' hk' hf'
      exact ⟨g1, fun u hu hp => .inl ((g2 u hu hp).resolve_right (fun h => h))⟩
theorem Came.add {k uu v : Nat} (hc : Came l ws w h left r f b rk (fun k' u => k' = k ∧ uu ≤ u)) (hu : uu < ws.length) (hk : k < l.length) (hb : b uu = -2) (hp : 0 < h uu k) (hf : f k = (v : Int)) (hv : v ∈ r) (hs : svAt l ws k v = true) :
    Came l ws w h left (r ++ [uu]) f (updF b uu k) (fun x => if x = uu then r.length else rk x) (fun k' u => k' = k ∧ uu + 1 ≤ u) := by
  have hnr : uu ∉ r := by
    rcases hc.by_ uu hu with g | ⟨_, _, g⟩ | ⟨_, k', g, _⟩
    · exact g.1
    · omega
    · omega
  have hne : ∀ x, x ∈ r → x ≠ uu := fun x hx e => hnr (e ▸ hx)
  refine ⟨by simp [hc.own], fun u hm => ?_, fun u hm => ?_, fun u hul => ?_, fun k' hk' => ?_, fun k' hk' hf' => ?_⟩
  · rcases List.mem_append.1 hm with h | h
    · exact hc.lt u h
    · rw [List.mem_singleton.1 h]; exact hu
  · rw [List.length_append, List.length_singleton]
    rcases List.mem_append.1 hm with h | h
    · rw [if_neg (hne u h)]; have := hc.rank u h; omega
    · rw [List.mem_singleton.1 h, if_pos rfl]; omega
  · by_cases e : u = uu
    · subst e
      refine .inr (.inr ⟨by simp, k, updF_same _ _ _, hk, hp, v, hf, ?_, by simp [hv], hs⟩)
      rw [if_neg (hne v hv), if_pos rfl]
      exact hc.rank v hv
    · rw [updF_other _ _ _ e]
      rcases hc.by_ u hul with ⟨g1, g2⟩ | ⟨g1, g2⟩ | ⟨h0, k', g1, g2, g3, v', g4, g5, g6, g7⟩
      · exact .inl ⟨by simp [g1, e], g2⟩
      · exact .inr (.inl ⟨by simp [g1], g2⟩)
      · exact .inr (.inr ⟨by simp [h0], k', g1, g2, g3, v', g4, by rw [if_neg (hne v' g6), if_neg e]; exact g5, by simp [g6], g7⟩)
  · rcases hc.from_ k' hk' with g | ⟨v', g1, g2, g3⟩
    · exact .inl g
    · exact .inr ⟨v', g1, by simp [g2], g3⟩
  · obtain ⟨g1, g2⟩ := hc.shut k' hk' hf'
    refine ⟨g1, fun u hul hp' => ?_⟩
    rcases g2 u hul hp' with g | ⟨g, g'⟩
    · exact .inl (by simp [g])
    · by_cases e : u = uu
      · subst e; exact .inl (by simp)
      · exact .inr ⟨g, by omega⟩
theorem Came.pass {k uu : Nat} (hc : Came l ws w h left r f b rk (fun k' u => k' = k ∧ uu ≤ u)) (hu : uu < ws.length) (hn : ¬ (b uu = -2 ∧ 0 < h uu k)) : Came l ws w h left r f b rk (fun k' u => k' = k ∧ uu + 1 ≤ u) :=
  ⟨hc.own, hc.lt, hc.rank, hc.by_, hc.from_, fun k' hk' hf' => by
    obtain ⟨g1, g2⟩ := hc.shut k' hk' hf'
    refine ⟨g1, fun u hul hp' => ?_⟩
    rcases g2 u hul hp' with g | ⟨g, g'⟩
    · exact .inl g
    · by_cases e : u = uu
      · subst e; subst g
        rcases hc.by_ u hul with ⟨_, q⟩ | ⟨q, _⟩ | ⟨q, _⟩
        · exact absurd ⟨q, hp'⟩ hn
        · exact .inl q
        · exact .inl q
      · exact .inr ⟨g, by omega⟩⟩
theorem Came.done {k uu : Nat} (hc : Came l ws w h left r f b rk (fun k' u => k' = k ∧ uu ≤ u)) (hu : ws.length ≤ uu) : Came l ws w h left r f b rk (fun _ _ => False) :=
  ⟨hc.own, hc.lt, hc.rank, hc.by_, hc.from_, fun k' hk' hf' => by
    obtain ⟨g1, g2⟩ := hc.shut k' hk' hf'
    exact ⟨g1, fun u hul hp' => by
      rcases g2 u hul hp' with g | ⟨g, g'⟩
      · exact .inl g
      · omega⟩⟩
/-- The wants ahead of a in the row have come to all lots that can serve them; the a-th one to those ahead of kk. -/
def Gone (l : List Lt) (ws : List Wt) (r : List Nat) (f : Nat → Int) (a kk : Nat) : Prop :=
  (∀ i v, i < a → r[i]? = some v → ∀ k, k < l.length → svAt l ws k v = true → 0 ≤ f k) ∧ ∀ v, r[a]? = some v → ∀ k, k < kk → k < l.length → svAt l ws k v = true → 0 ≤ f k
theorem Gone.grow {a kk : Nat} (hg : Gone l ws r f a kk) (ha : a < r.length) (s : List Nat) : Gone l ws (r ++ s) f a kk :=
  ⟨fun i v hi hv => hg.1 i v hi (by rwa [List.getElem?_append_left (by omega)] at hv), fun v hv => hg.2 v (by rwa [List.getElem?_append_left ha] at hv)⟩
theorem Gone.set_ {a kk k : Nat} {x : Nat} (hg : Gone l ws r f a kk) : Gone l ws r (updF f k x) a kk :=
  ⟨fun i v hi hv k' hk' hs => by unfold updF; split; omega; exact hg.1 i v hi hv k' hk' hs, fun v hv k' h1 h2 hs => by unfold updF; split; omega; exact hg.2 v hv k' h1 h2 hs⟩
theorem Gone.next {a kk v : Nat} (hg : Gone l ws r f a kk) (hv : r[a]? = some v) (hs : svAt l ws kk v = true → 0 ≤ f kk) : Gone l ws r f a (kk + 1) :=
  ⟨hg.1, fun v' hv' k h1 h2 h3 => by
    rw [hv] at hv'; cases hv'
    by_cases e : k = kk
    · subst e; exact hs h3
    · exact hg.2 v hv k (by omega) h2 h3⟩
theorem Gone.turn {a : Nat} (hg : Gone l ws r f a l.length) : Gone l ws r f (a + 1) 0 :=
  ⟨fun i v hi hv k hk hs => by
    by_cases e : i = a
    · subst e; exact hg.2 v hv k hk hk hs
    · exact hg.1 i v (by omega) hv k hk hs, fun v hv k h1 => absurd h1 (by omega)⟩
theorem Came.stuck (hc : Came l ws w h left r f b rk (fun _ _ => False)) (hg : Gone l ws r f r.length 0) : Stuck l ws w h left (fun u => decide (u ∈ r)) := by
  refine ⟨decide_eq_true hc.own, fun u hu hr => ?_, fun u hu hr k hk hs => ?_⟩
  · have hm := of_decide_eq_true hr
    rcases hc.by_ u hu with ⟨g, _⟩ | ⟨_, g, _⟩ | ⟨_, k, _, g2, g3, _⟩
    · exact absurd hm g
    · exact .inl g
    · exact .inr ⟨k, g2, g3⟩
  · have hm := of_decide_eq_true hr
    obtain ⟨i, hi⟩ := List.getElem?_of_mem hm
    have hf := hg.1 i u (List.getElem?_eq_some_iff.1 hi).1 hi k hk hs
    obtain ⟨g1, g2⟩ := hc.shut k hk hf
    exact ⟨g1, fun v hv hp => decide_eq_true ((g2 v hv hp).resolve_right (fun h => h))⟩
end
end Go.Proofs.Ytddnfikjfmfhfaa
end
