/- The contracts of window.Right, Has, of lot.hasDays, Right and of the reference's Right. Written by gen_lsc.py. -/
import Derived.Test.YtdmgnafafafdpaaLWords
import Derived.Test.YtdmgnafafafdpaaCRref
namespace Go.Proofs.Ytdmgnafafafdpaa
open Go.ChangeShapes Go.WideShapes Go.ChangeAt Go.RowKit
set_option linter.unusedVariables false

def wrightB (f u : Int) : Bool := decide (0 ≤ f ∧ f ≤ u ∧ u ≤ 4001)
def hasB (f u day : Int) : Bool := decide (0 ≤ f ∧ f ≤ u ∧ u ≤ 4001 ∧ f ≤ day ∧ day < u)
def daysB (f u : Int) : Bool := decide (0 ≤ f ∧ f < u ∧ u ≤ 4001)
def qtyB (q : Int) : Bool := decide (1 ≤ q ∧ q ≤ 1073741824)
def lrightB (x : Lt) : Bool := decide (1 ≤ x.id) && (rightL x.item && (daysB x.fr x.un && qtyB x.qty))
theorem below_alloc1 (w : World) (o : Obj) : Below w.heap.size w (w.alloc o) := (Below.refl _ _).alloc (Nat.le_refl _) _
theorem below_alloc2 {w w1 : World} (o : Obj) (h : Below (w.alloc o).heap.size (w.alloc o) w1) : Below w.heap.size w w1 := (below_alloc1 w o).trans (h.mono (by simp))
theorem below_two {w w1 w2 : World} (h1 : Below w.heap.size w w1) (h2 : Below w1.heap.size w1 w2) : Below w.heap.size w w2 := h1.trans (h2.mono h1.size)
theorem str_size {s : List UInt8} (h : s.length ≤ maxLen) : (⟨s.toArray⟩ : ByteArray).size = s.length := by simp [ByteArray.size]
theorem bcell {W w1 : World} (hb : Below W.heap.size W w1) : (∀ b o, b < W.heap.size → w1.cell? ⟨b, o, none⟩ = W.cell? ⟨b, o, none⟩) ∧ (∀ b o, b < W.heap.size → w1.frozen? ⟨b, o, none⟩ = W.frozen? ⟨b, o, none⟩) :=
  ⟨fun b o h => hb.cell (p := ⟨b, o, none⟩) h, fun b o h => hb.frozen (p := ⟨b, o, none⟩) h⟩
set_option maxHeartbeats 1000000 in
theorem wright_any (f u : Int) (w : World) : Calls Try.prog 39 #[.agg #[.int .i64 f, .int .i64 u]] w fun e w' => e = .returned (.bool (wrightB f u)) ∧ Below w.heap.size w w' := by
  by_cases h0 : 0 ≤ f
  ·
    by_cases h1 : f ≤ u
    ·
      by_cases h2 : u ≤ 4001
      ·
        have d0 : decide (0 ≤ f) = true := decide_eq_true h0
        have d1 : decide (f ≤ u) = true := decide_eq_true h1
        have d2 : decide (u ≤ 4001) = true := decide_eq_true h2
        have hv : wrightB f u = true := by unfold wrightB; simp; omega
        rw [hv]
        clear hv
        go_enter Try.func39, Try.ntmps39
        go_wp2
        go_ret
        exact ⟨rfl, below_alloc1 _ _⟩
      ·
        have d0 : decide (0 ≤ f) = true := decide_eq_true h0
        have d1 : decide (f ≤ u) = true := decide_eq_true h1
        have d2 : decide (u ≤ 4001) = false := decide_eq_false h2
        have hv : wrightB f u = false := by unfold wrightB; simp; omega
        rw [hv]
        clear hv
        go_enter Try.func39, Try.ntmps39
        go_wp2
        go_ret
        exact ⟨rfl, below_alloc1 _ _⟩
    ·
      have d0 : decide (0 ≤ f) = true := decide_eq_true h0
      have d1 : decide (f ≤ u) = false := decide_eq_false h1
      have hv : wrightB f u = false := by unfold wrightB; simp; omega
      rw [hv]
      clear hv
      go_enter Try.func39, Try.ntmps39
      go_wp2
      go_ret
      exact ⟨rfl, below_alloc1 _ _⟩
  ·
    have d0 : decide (0 ≤ f) = false := decide_eq_false h0
    have hv : wrightB f u = false := by unfold wrightB; simp; omega
    rw [hv]
    clear hv
    go_enter Try.func39, Try.ntmps39
    go_wp2
    go_ret
    exact ⟨rfl, below_alloc1 _ _⟩
theorem wright_yes (f u : Int) (w : World) (h : wrightB f u = true) : Calls Try.prog 39 #[.agg #[.int .i64 f, .int .i64 u]] w fun e w' => e = .returned (.bool true) ∧ Below w.heap.size w w' := by
  have := wright_any f u w; rwa [h] at this
theorem wright_no (f u : Int) (w : World) (h : wrightB f u = false) : Calls Try.prog 39 #[.agg #[.int .i64 f, .int .i64 u]] w fun e w' => e = .returned (.bool false) ∧ Below w.heap.size w w' := by
  have := wright_any f u w; rwa [h] at this
set_option maxHeartbeats 1000000 in
theorem has_any (f u day : Int) (w : World) : Calls Try.prog 31 #[.agg #[.int .i64 f, .int .i64 u], .int .i64 day] w fun e w' => e = .returned (.bool (hasB f u day)) ∧ Below w.heap.size w w' := by
  by_cases h0 : wrightB f u = true
  ·
    by_cases h1 : f ≤ day
    ·
      by_cases h2 : day < u
      ·
        have H0 := Lib.hid h0
        have d1 : decide (f ≤ day) = true := decide_eq_true h1
        have d2 : decide (day < u) = true := decide_eq_true h2
        have hv : hasB f u day = true := by have hw := H0.out; unfold wrightB at hw; simp at hw; unfold hasB; simp; omega
        rw [hv]
        clear hv h0
        go_enter Try.func31, Try.ntmps31
        go_wp2_with (go_at_call 39; ((with_reducible refine (wright_yes f u _ H0.out).mono ?_); rintro e w1 ⟨rfl, hb1⟩; obtain ⟨hc, hf⟩ := bcell hb1))
        go_ret
        exact ⟨rfl, below_alloc2 _ hb1⟩
      ·
        have H0 := Lib.hid h0
        have d1 : decide (f ≤ day) = true := decide_eq_true h1
        have d2 : decide (day < u) = false := decide_eq_false h2
        have hv : hasB f u day = false := by have hw := H0.out; unfold wrightB at hw; simp at hw; unfold hasB; simp; omega
        rw [hv]
        clear hv h0
        go_enter Try.func31, Try.ntmps31
        go_wp2_with (go_at_call 39; ((with_reducible refine (wright_yes f u _ H0.out).mono ?_); rintro e w1 ⟨rfl, hb1⟩; obtain ⟨hc, hf⟩ := bcell hb1))
        go_ret
        exact ⟨rfl, below_alloc2 _ hb1⟩
    ·
      have H0 := Lib.hid h0
      have d1 : decide (f ≤ day) = false := decide_eq_false h1
      have hv : hasB f u day = false := by have hw := H0.out; unfold wrightB at hw; simp at hw; unfold hasB; simp; omega
      rw [hv]
      clear hv h0
      go_enter Try.func31, Try.ntmps31
      go_wp2_with (go_at_call 39; ((with_reducible refine (wright_yes f u _ H0.out).mono ?_); rintro e w1 ⟨rfl, hb1⟩; obtain ⟨hc, hf⟩ := bcell hb1))
      go_ret
      exact ⟨rfl, below_alloc2 _ hb1⟩
  ·
    have H0 : Hid (wrightB f u = false) := Lib.hid (by simpa using h0)
    have hv : hasB f u day = false := by have hw := H0.out; unfold wrightB at hw; simp at hw; unfold hasB; simp; omega
    rw [hv]
    clear hv h0
    go_enter Try.func31, Try.ntmps31
    go_wp2_with (go_at_call 39; ((with_reducible refine (wright_no f u _ H0.out).mono ?_); rintro e w1 ⟨rfl, hb1⟩; obtain ⟨hc, hf⟩ := bcell hb1))
    go_ret
    exact ⟨rfl, below_alloc2 _ hb1⟩
theorem has_yes (f u day : Int) (w : World) (h : hasB f u day = true) : Calls Try.prog 31 #[.agg #[.int .i64 f, .int .i64 u], .int .i64 day] w fun e w' => e = .returned (.bool true) ∧ Below w.heap.size w w' := by
  have := has_any f u day w; rwa [h] at this
theorem has_no (f u day : Int) (w : World) (h : hasB f u day = false) : Calls Try.prog 31 #[.agg #[.int .i64 f, .int .i64 u], .int .i64 day] w fun e w' => e = .returned (.bool false) ∧ Below w.heap.size w w' := by
  have := has_any f u day w; rwa [h] at this
theorem hasB_days (f u : Int) : hasB f u f = daysB f u := by
  unfold hasB daysB; congr 1; apply propext; constructor <;> intro h <;> omega
set_option maxHeartbeats 1000000 in
theorem days_any (f u : Int) (w : World) : Calls Try.prog 20 #[.agg #[.int .i64 f, .int .i64 u]] w fun e w' => e = .returned (.bool (daysB f u)) ∧ Below w.heap.size w w' := by
  rw [← hasB_days]
  cases hv : hasB f u f
  all_goals
    have HV := Lib.hid hv
    clear hv
    go_enter Try.func20, Try.ntmps20
    go_wp2_with (go_at_call 31; (first | ((with_reducible refine (has_yes f u f _ HV.out).mono ?_); rintro e w1 ⟨rfl, hb1⟩) | ((with_reducible refine (has_no f u f _ HV.out).mono ?_); rintro e w1 ⟨rfl, hb1⟩)))
    go_ret
    exact ⟨rfl, below_alloc2 _ hb1⟩
theorem days_yes (f u : Int) (w : World) (h : daysB f u = true) : Calls Try.prog 20 #[.agg #[.int .i64 f, .int .i64 u]] w fun e w' => e = .returned (.bool true) ∧ Below w.heap.size w w' := by
  have := days_any f u w; rwa [h] at this
theorem days_no (f u : Int) (w : World) (h : daysB f u = false) : Calls Try.prog 20 #[.agg #[.int .i64 f, .int .i64 u]] w fun e w' => e = .returned (.bool false) ∧ Below w.heap.size w w' := by
  have := days_any f u w; rwa [h] at this
theorem cright_yes (s : List UInt8) (w : World) (h : rightL s = true) : Calls Try.prog 19 #[strV s] w fun e w' => e = .returned (.bool true) ∧ Below w.heap.size w w' := by
  have := right_any ⟨s.toArray⟩ w; rw [show (⟨s.toArray⟩ : ByteArray).data.toList = s from rfl, h] at this; exact this
theorem cright_no (s : List UInt8) (w : World) (h : rightL s = false) : Calls Try.prog 19 #[strV s] w fun e w' => e = .returned (.bool false) ∧ Below w.heap.size w w' := by
  have := right_any ⟨s.toArray⟩ w; rw [show (⟨s.toArray⟩ : ByteArray).data.toList = s from rfl, h] at this; exact this
theorem crref_yes (s : List UInt8) (w : World) (h : rightL s = true) : Calls Try.prog 21 #[strV s] w fun e w' => e = .returned (.bool true) ∧ w = w' := by
  have := rright_any ⟨s.toArray⟩ w; rw [show (⟨s.toArray⟩ : ByteArray).data.toList = s from rfl, h] at this; exact this
theorem crref_no (s : List UInt8) (w : World) (h : rightL s = false) : Calls Try.prog 21 #[strV s] w fun e w' => e = .returned (.bool false) ∧ w = w' := by
  have := rright_any ⟨s.toArray⟩ w; rw [show (⟨s.toArray⟩ : ByteArray).data.toList = s from rfl, h] at this; exact this
set_option maxHeartbeats 2000000 in
theorem lright_any (x : Lt) (w : World) : Calls Try.prog 6 #[aggL x] w fun e w' => e = .returned (.bool (lrightB x)) ∧ Below w.heap.size w w' := by
  by_cases h0 : 1 ≤ x.id
  ·
    by_cases h1 : rightL x.item = true
    ·
      by_cases h2 : daysB x.fr x.un = true
      ·
        by_cases h3 : 1 ≤ x.qty
        ·
          by_cases h4 : x.qty ≤ 1073741824
          ·
            have d0 : decide (1 ≤ x.id) = true := decide_eq_true h0
            have H1 : Hid (rightL x.item = true) := Lib.hid (by simpa using h1)
            have H2 : Hid (daysB x.fr x.un = true) := Lib.hid (by simpa using h2)
            have d3 : decide (1 ≤ x.qty) = true := decide_eq_true h3
            have d4 : decide (x.qty ≤ 1073741824) = true := decide_eq_true h4
            have hv : lrightB x = true := by unfold lrightB qtyB; simp [d0, H1.out, H2.out]; try omega
            rw [hv]
            clear hv h1 h2
            go_enter Try.func6, Try.ntmps6
            go_wp2_with (first | (go_at_call 19; ((with_reducible refine (cright_yes x.item _ H1.out).mono ?_); rintro e w1 ⟨rfl, hb1⟩; obtain ⟨hc1, hf1⟩ := bcell hb1; have hz1 : w.heap.size < w1.heap.size := by (have := hb1.size; simp only [World.size_alloc] at this; omega))) | (go_at_call 20; ((with_reducible refine (days_yes x.fr x.un _ H2.out).mono ?_); rintro e w2 ⟨rfl, hb2⟩; obtain ⟨hc, hf⟩ := bcell hb2)))
            go_ret
            exact ⟨rfl, below_alloc2 _ (below_two hb1 hb2)⟩
          ·
            have d0 : decide (1 ≤ x.id) = true := decide_eq_true h0
            have H1 : Hid (rightL x.item = true) := Lib.hid (by simpa using h1)
            have H2 : Hid (daysB x.fr x.un = true) := Lib.hid (by simpa using h2)
            have d3 : decide (1 ≤ x.qty) = true := decide_eq_true h3
            have d4 : decide (x.qty ≤ 1073741824) = false := decide_eq_false h4
            have hv : lrightB x = false := by unfold lrightB qtyB; simp [d0, H1.out, H2.out]; try omega
            rw [hv]
            clear hv h1 h2
            go_enter Try.func6, Try.ntmps6
            go_wp2_with (first | (go_at_call 19; ((with_reducible refine (cright_yes x.item _ H1.out).mono ?_); rintro e w1 ⟨rfl, hb1⟩; obtain ⟨hc1, hf1⟩ := bcell hb1; have hz1 : w.heap.size < w1.heap.size := by (have := hb1.size; simp only [World.size_alloc] at this; omega))) | (go_at_call 20; ((with_reducible refine (days_yes x.fr x.un _ H2.out).mono ?_); rintro e w2 ⟨rfl, hb2⟩; obtain ⟨hc, hf⟩ := bcell hb2)))
            go_ret
            exact ⟨rfl, below_alloc2 _ (below_two hb1 hb2)⟩
        ·
          have d0 : decide (1 ≤ x.id) = true := decide_eq_true h0
          have H1 : Hid (rightL x.item = true) := Lib.hid (by simpa using h1)
          have H2 : Hid (daysB x.fr x.un = true) := Lib.hid (by simpa using h2)
          have d3 : decide (1 ≤ x.qty) = false := decide_eq_false h3
          have hv : lrightB x = false := by unfold lrightB qtyB; simp [d0, H1.out, H2.out]; try omega
          rw [hv]
          clear hv h1 h2
          go_enter Try.func6, Try.ntmps6
          go_wp2_with (first | (go_at_call 19; ((with_reducible refine (cright_yes x.item _ H1.out).mono ?_); rintro e w1 ⟨rfl, hb1⟩; obtain ⟨hc1, hf1⟩ := bcell hb1; have hz1 : w.heap.size < w1.heap.size := by (have := hb1.size; simp only [World.size_alloc] at this; omega))) | (go_at_call 20; ((with_reducible refine (days_yes x.fr x.un _ H2.out).mono ?_); rintro e w2 ⟨rfl, hb2⟩; obtain ⟨hc, hf⟩ := bcell hb2)))
          go_ret
          exact ⟨rfl, below_alloc2 _ (below_two hb1 hb2)⟩
      ·
        have d0 : decide (1 ≤ x.id) = true := decide_eq_true h0
        have H1 : Hid (rightL x.item = true) := Lib.hid (by simpa using h1)
        have H2 : Hid (daysB x.fr x.un = false) := Lib.hid (by simpa using h2)
        have hv : lrightB x = false := by unfold lrightB qtyB; simp [d0, H1.out, H2.out]; try omega
        rw [hv]
        clear hv h1 h2
        go_enter Try.func6, Try.ntmps6
        go_wp2_with (first | (go_at_call 19; ((with_reducible refine (cright_yes x.item _ H1.out).mono ?_); rintro e w1 ⟨rfl, hb1⟩; obtain ⟨hc1, hf1⟩ := bcell hb1; have hz1 : w.heap.size < w1.heap.size := by (have := hb1.size; simp only [World.size_alloc] at this; omega))) | (go_at_call 20; ((with_reducible refine (days_no x.fr x.un _ H2.out).mono ?_); rintro e w2 ⟨rfl, hb2⟩; obtain ⟨hc, hf⟩ := bcell hb2)))
        go_ret
        exact ⟨rfl, below_alloc2 _ (below_two hb1 hb2)⟩
    ·
      have d0 : decide (1 ≤ x.id) = true := decide_eq_true h0
      have H1 : Hid (rightL x.item = false) := Lib.hid (by simpa using h1)
      have hv : lrightB x = false := by unfold lrightB qtyB; simp [d0, H1.out]; try omega
      rw [hv]
      clear hv h1
      go_enter Try.func6, Try.ntmps6
      go_wp2_with (first | (go_at_call 19; ((with_reducible refine (cright_no x.item _ H1.out).mono ?_); rintro e w1 ⟨rfl, hb1⟩; obtain ⟨hc1, hf1⟩ := bcell hb1; have hz1 : w.heap.size < w1.heap.size := by (have := hb1.size; simp only [World.size_alloc] at this; omega))))
      go_ret
      exact ⟨rfl, below_alloc2 _ hb1⟩
  ·
    have d0 : decide (1 ≤ x.id) = false := decide_eq_false h0
    have hv : lrightB x = false := by unfold lrightB qtyB; simp [d0]; try omega
    rw [hv]
    clear hv
    go_enter Try.func6, Try.ntmps6
    go_wp2
    go_ret
    exact ⟨rfl, below_alloc1 _ _⟩
set_option maxHeartbeats 2000000 in
theorem lrref_any (x : Lt) (w : World) : Calls Try.prog 7 #[aggL x] w fun e w' => e = .returned (.bool (lrightB x)) ∧ Below w.heap.size w w' := by
  by_cases h0 : 1 ≤ x.id
  ·
    by_cases h1 : rightL x.item = true
    ·
      by_cases h2 : 0 ≤ x.fr
      ·
        by_cases h3 : x.fr < x.un
        ·
          by_cases h4 : x.un ≤ 4001
          ·
            by_cases h5 : 1 ≤ x.qty
            ·
              by_cases h6 : x.qty ≤ 1073741824
              ·
                have d0 : decide (1 ≤ x.id) = true := decide_eq_true h0
                have H1 : Hid (rightL x.item = true) := Lib.hid (by simpa using h1)
                have d2 : decide (0 ≤ x.fr) = true := decide_eq_true h2
                have d3 : decide (x.fr < x.un) = true := decide_eq_true h3
                have d4 : decide (x.un ≤ 4001) = true := decide_eq_true h4
                have d5 : decide (1 ≤ x.qty) = true := decide_eq_true h5
                have d6 : decide (x.qty ≤ 1073741824) = true := decide_eq_true h6
                have hv : lrightB x = true := by unfold lrightB qtyB daysB; simp [d0, H1.out]; try omega
                rw [hv]
                clear hv h1
                go_enter Try.func7, Try.ntmps7
                go_wp2_with (first | (go_at_call 21; ((with_reducible refine (crref_yes x.item _ H1.out).mono ?_); rintro e w1 ⟨rfl, rfl⟩)))
                go_ret
                exact ⟨rfl, below_alloc1 _ _⟩
              ·
                have d0 : decide (1 ≤ x.id) = true := decide_eq_true h0
                have H1 : Hid (rightL x.item = true) := Lib.hid (by simpa using h1)
                have d2 : decide (0 ≤ x.fr) = true := decide_eq_true h2
                have d3 : decide (x.fr < x.un) = true := decide_eq_true h3
                have d4 : decide (x.un ≤ 4001) = true := decide_eq_true h4
                have d5 : decide (1 ≤ x.qty) = true := decide_eq_true h5
                have d6 : decide (x.qty ≤ 1073741824) = false := decide_eq_false h6
                have hv : lrightB x = false := by unfold lrightB qtyB daysB; simp [d0, H1.out]; try omega
                rw [hv]
                clear hv h1
                go_enter Try.func7, Try.ntmps7
                go_wp2_with (first | (go_at_call 21; ((with_reducible refine (crref_yes x.item _ H1.out).mono ?_); rintro e w1 ⟨rfl, rfl⟩)))
                go_ret
                exact ⟨rfl, below_alloc1 _ _⟩
            ·
              have d0 : decide (1 ≤ x.id) = true := decide_eq_true h0
              have H1 : Hid (rightL x.item = true) := Lib.hid (by simpa using h1)
              have d2 : decide (0 ≤ x.fr) = true := decide_eq_true h2
              have d3 : decide (x.fr < x.un) = true := decide_eq_true h3
              have d4 : decide (x.un ≤ 4001) = true := decide_eq_true h4
              have d5 : decide (1 ≤ x.qty) = false := decide_eq_false h5
              have hv : lrightB x = false := by unfold lrightB qtyB daysB; simp [d0, H1.out]; try omega
              rw [hv]
              clear hv h1
              go_enter Try.func7, Try.ntmps7
              go_wp2_with (first | (go_at_call 21; ((with_reducible refine (crref_yes x.item _ H1.out).mono ?_); rintro e w1 ⟨rfl, rfl⟩)))
              go_ret
              exact ⟨rfl, below_alloc1 _ _⟩
          ·
            have d0 : decide (1 ≤ x.id) = true := decide_eq_true h0
            have H1 : Hid (rightL x.item = true) := Lib.hid (by simpa using h1)
            have d2 : decide (0 ≤ x.fr) = true := decide_eq_true h2
            have d3 : decide (x.fr < x.un) = true := decide_eq_true h3
            have d4 : decide (x.un ≤ 4001) = false := decide_eq_false h4
            have hv : lrightB x = false := by unfold lrightB qtyB daysB; simp [d0, H1.out]; try omega
            rw [hv]
            clear hv h1
            go_enter Try.func7, Try.ntmps7
            go_wp2_with (first | (go_at_call 21; ((with_reducible refine (crref_yes x.item _ H1.out).mono ?_); rintro e w1 ⟨rfl, rfl⟩)))
            go_ret
            exact ⟨rfl, below_alloc1 _ _⟩
        ·
          have d0 : decide (1 ≤ x.id) = true := decide_eq_true h0
          have H1 : Hid (rightL x.item = true) := Lib.hid (by simpa using h1)
          have d2 : decide (0 ≤ x.fr) = true := decide_eq_true h2
          have d3 : decide (x.fr < x.un) = false := decide_eq_false h3
          have hv : lrightB x = false := by unfold lrightB qtyB daysB; simp [d0, H1.out]; try omega
          rw [hv]
          clear hv h1
          go_enter Try.func7, Try.ntmps7
          go_wp2_with (first | (go_at_call 21; ((with_reducible refine (crref_yes x.item _ H1.out).mono ?_); rintro e w1 ⟨rfl, rfl⟩)))
          go_ret
          exact ⟨rfl, below_alloc1 _ _⟩
      ·
        have d0 : decide (1 ≤ x.id) = true := decide_eq_true h0
        have H1 : Hid (rightL x.item = true) := Lib.hid (by simpa using h1)
        have d2 : decide (0 ≤ x.fr) = false := decide_eq_false h2
        have hv : lrightB x = false := by unfold lrightB qtyB daysB; simp [d0, H1.out]; try omega
        rw [hv]
        clear hv h1
        go_enter Try.func7, Try.ntmps7
        go_wp2_with (first | (go_at_call 21; ((with_reducible refine (crref_yes x.item _ H1.out).mono ?_); rintro e w1 ⟨rfl, rfl⟩)))
        go_ret
        exact ⟨rfl, below_alloc1 _ _⟩
    ·
      have d0 : decide (1 ≤ x.id) = true := decide_eq_true h0
      have H1 : Hid (rightL x.item = false) := Lib.hid (by simpa using h1)
      have hv : lrightB x = false := by unfold lrightB qtyB daysB; simp [d0, H1.out]; try omega
      rw [hv]
      clear hv h1
      go_enter Try.func7, Try.ntmps7
      go_wp2_with (first | (go_at_call 21; ((with_reducible refine (crref_no x.item _ H1.out).mono ?_); rintro e w1 ⟨rfl, rfl⟩)))
      go_ret
      exact ⟨rfl, below_alloc1 _ _⟩
  ·
    have d0 : decide (1 ≤ x.id) = false := decide_eq_false h0
    have hv : lrightB x = false := by unfold lrightB qtyB daysB; simp [d0]; try omega
    rw [hv]
    clear hv
    go_enter Try.func7, Try.ntmps7
    go_wp2
    go_ret
    exact ⟨rfl, below_alloc1 _ _⟩
end Go.Proofs.Ytdmgnafafafdpaa
