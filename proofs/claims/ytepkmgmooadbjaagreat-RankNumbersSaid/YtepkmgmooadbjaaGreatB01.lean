/- Texts of this proof, one behind the other. -/
import Derived.Deep.RegionHeld3
import Derived.Sort.Grow
import Derived.Sort.LotA
import Derived.Sort.Lot0
import Derived.Test.YtepkmgmooadbjaaGreatProg
import Derived.Shelf.SlSortCmp.KitK
import Derived.Deep.LoopGhost
import Derived.ProofKit
import Derived.Lib.Hide
import Derived.Test.YtepkmgmooadbjaaGreatB00
section
/- rank.Right and what it calls, the reference's: part of the contracts. Written by gen_rsc.py. -/
namespace Go.Proofs.YtepkmgmooadbjaaGreat
open Go.ChangeShapes Go.WideShapes Go.ChangeAt Go.RowKit
set_option linter.unusedVariables false

theorem stands_vals (x : Lt) : (x.state = 1 → standsB x = (confB x || backB x)) ∧ (x.state = 2 → standsB x = confB x) ∧ (x.state = 3 → standsB x = backB x) ∧ (x.state ≠ 1 → x.state ≠ 2 → x.state ≠ 3 → standsB x = false) := by
  unfold standsB
  refine ⟨fun h => by rw [if_pos h], fun h => by rw [if_neg (by omega), if_pos h], fun h => by rw [if_neg (by omega), if_neg (by omega), if_pos h], fun a b c => by rw [if_neg a, if_neg b, if_neg c]⟩
/- What the reference tells of a line whose other fields are right. -/
set_option maxHeartbeats 4000000 in
theorem rest_any (x : Lt) (w : World) (h1 : rightL x.item = true) (d0 : decide (x.id < 1) = false) (d2 : decide (x.qty < 1) = false) (d3 : decide (1073741824 < x.qty) = false) (d4 : decide (x.asked < 0) = false) (d5 : decide (4000 < x.asked) = false) (d6 : decide (x.rank < 0) = false) (d7 : decide (99 < x.rank) = false) :
    Calls Tryz.prog 30 #[aggL x] w fun e w' => e = .returned (.bool (standsB x)) ∧ Below w.heap.size w w' := by
  have H1 := Lib.hid h1
  clear h1
  by_cases n0 : x.day = -1
  · have e0 : (x.day == -1) = true := by simp [n0]
    have e1 : decide (0 ≤ x.day) = false := by simp [n0]
    have HS : Hid (confB x = false) := Lib.hid (by unfold confB dayB; simp [n0])
    by_cases n1 : x.code = []
    · have e2 : (x.code == []) = true := by simp [n1]
      have HN : Hid (backB x = true) := Lib.hid (by unfold backB; simp [n0, n1])
      clear n0 n1
      have hs := stands_vals x
      rw [HN.out, HS.out] at hs
      by_cases s1 : x.state = 1
      · have t1 : (x.state == 1) = true := by simp [s1]
        rw [hs.1 s1]
        clear s1 hs
        go_enter Tryz.func30, Tryz.ntmps30
        go_wp2_with (first | (go_at_call 62; ((with_reducible refine (crref_yes x.item _ H1.out).mono ?_); rintro e w1 ⟨rfl, rfl⟩)))
        go_ret
        exact ⟨rfl, below_alloc1 _ _⟩
      · have t1 : (x.state == 1) = false := by simpa using s1
        by_cases s2 : x.state = 2
        · have t2 : (x.state == 2) = true := by simp [s2]
          rw [hs.2.1 s2]
          clear s2 hs
          clear s1
          go_enter Tryz.func30, Tryz.ntmps30
          go_wp2_with (first | (go_at_call 62; ((with_reducible refine (crref_yes x.item _ H1.out).mono ?_); rintro e w1 ⟨rfl, rfl⟩)))
          go_ret
          exact ⟨rfl, below_alloc1 _ _⟩
        · have t2 : (x.state == 2) = false := by simpa using s2
          by_cases s3 : x.state = 3
          · have t3 : (x.state == 3) = true := by simp [s3]
            rw [hs.2.2.1 s3]
            clear s3 hs
            clear s1 s2
            go_enter Tryz.func30, Tryz.ntmps30
            go_wp2_with (first | (go_at_call 62; ((with_reducible refine (crref_yes x.item _ H1.out).mono ?_); rintro e w1 ⟨rfl, rfl⟩)))
            go_ret
            exact ⟨rfl, below_alloc1 _ _⟩
          · have t3 : (x.state == 3) = false := by simpa using s3
            rw [hs.2.2.2 s1 s2 s3]
            clear s1 s2 s3 hs
            go_enter Tryz.func30, Tryz.ntmps30
            go_wp2_with (first | (go_at_call 62; ((with_reducible refine (crref_yes x.item _ H1.out).mono ?_); rintro e w1 ⟨rfl, rfl⟩)))
            go_ret
            exact ⟨rfl, below_alloc1 _ _⟩
    · have e2 : (x.code == []) = false := beq_eq_false_iff_ne.2 n1
      have HN : Hid (backB x = false) := Lib.hid (by unfold backB; simp [n1])
      clear n0 n1
      have hs := stands_vals x
      rw [HN.out, HS.out] at hs
      by_cases s1 : x.state = 1
      · have t1 : (x.state == 1) = true := by simp [s1]
        rw [hs.1 s1]
        clear s1 hs
        go_enter Tryz.func30, Tryz.ntmps30
        go_wp2_with (first | (go_at_call 62; ((with_reducible refine (crref_yes x.item _ H1.out).mono ?_); rintro e w1 ⟨rfl, rfl⟩)))
        go_ret
        exact ⟨rfl, below_alloc1 _ _⟩
      · have t1 : (x.state == 1) = false := by simpa using s1
        by_cases s2 : x.state = 2
        · have t2 : (x.state == 2) = true := by simp [s2]
          rw [hs.2.1 s2]
          clear s2 hs
          clear s1
          go_enter Tryz.func30, Tryz.ntmps30
          go_wp2_with (first | (go_at_call 62; ((with_reducible refine (crref_yes x.item _ H1.out).mono ?_); rintro e w1 ⟨rfl, rfl⟩)))
          go_ret
          exact ⟨rfl, below_alloc1 _ _⟩
        · have t2 : (x.state == 2) = false := by simpa using s2
          by_cases s3 : x.state = 3
          · have t3 : (x.state == 3) = true := by simp [s3]
            rw [hs.2.2.1 s3]
            clear s3 hs
            clear s1 s2
            go_enter Tryz.func30, Tryz.ntmps30
            go_wp2_with (first | (go_at_call 62; ((with_reducible refine (crref_yes x.item _ H1.out).mono ?_); rintro e w1 ⟨rfl, rfl⟩)))
            go_ret
            exact ⟨rfl, below_alloc1 _ _⟩
          · have t3 : (x.state == 3) = false := by simpa using s3
            rw [hs.2.2.2 s1 s2 s3]
            clear s1 s2 s3 hs
            go_enter Tryz.func30, Tryz.ntmps30
            go_wp2_with (first | (go_at_call 62; ((with_reducible refine (crref_yes x.item _ H1.out).mono ?_); rintro e w1 ⟨rfl, rfl⟩)))
            go_ret
            exact ⟨rfl, below_alloc1 _ _⟩
  · have e0 : (x.day == -1) = false := beq_eq_false_iff_ne.2 n0
    have HN : Hid (backB x = false) := Lib.hid (by unfold backB; simp [n0])
    by_cases n1 : 0 ≤ x.day
    · have e1 : decide (0 ≤ x.day) = true := decide_eq_true n1
      by_cases n2 : x.day ≤ 4000
      · have e2 : decide (x.day ≤ 4000) = true := decide_eq_true n2
        cases n3 : rightL x.code
        · have HS : Hid (confB x = false) := Lib.hid (by unfold confB dayB; simp [n1, n2, n3])
          have H8 := Lib.hid n3
          clear n0 n1 n2 n3
          have hs := stands_vals x
          rw [HN.out, HS.out] at hs
          by_cases s1 : x.state = 1
          · have t1 : (x.state == 1) = true := by simp [s1]
            rw [hs.1 s1]
            clear s1 hs
            go_enter Tryz.func30, Tryz.ntmps30
            go_wp2_with (first | (go_at_call 62; ((with_reducible refine (crref_yes x.item _ H1.out).mono ?_); rintro e w1 ⟨rfl, rfl⟩)) | (go_at_call 62; ((with_reducible refine (crref_no x.code _ H8.out).mono ?_); rintro e w1 ⟨rfl, rfl⟩)))
            go_ret
            exact ⟨rfl, below_alloc1 _ _⟩
          · have t1 : (x.state == 1) = false := by simpa using s1
            by_cases s2 : x.state = 2
            · have t2 : (x.state == 2) = true := by simp [s2]
              rw [hs.2.1 s2]
              clear s2 hs
              clear s1
              go_enter Tryz.func30, Tryz.ntmps30
              go_wp2_with (first | (go_at_call 62; ((with_reducible refine (crref_yes x.item _ H1.out).mono ?_); rintro e w1 ⟨rfl, rfl⟩)) | (go_at_call 62; ((with_reducible refine (crref_no x.code _ H8.out).mono ?_); rintro e w1 ⟨rfl, rfl⟩)))
              go_ret
              exact ⟨rfl, below_alloc1 _ _⟩
            · have t2 : (x.state == 2) = false := by simpa using s2
              by_cases s3 : x.state = 3
              · have t3 : (x.state == 3) = true := by simp [s3]
                rw [hs.2.2.1 s3]
                clear s3 hs
                clear s1 s2
                go_enter Tryz.func30, Tryz.ntmps30
                go_wp2_with (first | (go_at_call 62; ((with_reducible refine (crref_yes x.item _ H1.out).mono ?_); rintro e w1 ⟨rfl, rfl⟩)) | (go_at_call 62; ((with_reducible refine (crref_no x.code _ H8.out).mono ?_); rintro e w1 ⟨rfl, rfl⟩)))
                go_ret
                exact ⟨rfl, below_alloc1 _ _⟩
              · have t3 : (x.state == 3) = false := by simpa using s3
                rw [hs.2.2.2 s1 s2 s3]
                clear s1 s2 s3 hs
                go_enter Tryz.func30, Tryz.ntmps30
                go_wp2_with (first | (go_at_call 62; ((with_reducible refine (crref_yes x.item _ H1.out).mono ?_); rintro e w1 ⟨rfl, rfl⟩)) | (go_at_call 62; ((with_reducible refine (crref_no x.code _ H8.out).mono ?_); rintro e w1 ⟨rfl, rfl⟩)))
                go_ret
                exact ⟨rfl, below_alloc1 _ _⟩
        · have HS : Hid (confB x = true) := Lib.hid (by unfold confB dayB; simp [n1, n2, n3])
          have H8 := Lib.hid n3
          clear n0 n1 n2 n3
          have hs := stands_vals x
          rw [HN.out, HS.out] at hs
          by_cases s1 : x.state = 1
          · have t1 : (x.state == 1) = true := by simp [s1]
            rw [hs.1 s1]
            clear s1 hs
            go_enter Tryz.func30, Tryz.ntmps30
            go_wp2_with (first | (go_at_call 62; ((with_reducible refine (crref_yes x.item _ H1.out).mono ?_); rintro e w1 ⟨rfl, rfl⟩)) | (go_at_call 62; ((with_reducible refine (crref_yes x.code _ H8.out).mono ?_); rintro e w1 ⟨rfl, rfl⟩)))
            go_ret
            exact ⟨rfl, below_alloc1 _ _⟩
          · have t1 : (x.state == 1) = false := by simpa using s1
            by_cases s2 : x.state = 2
            · have t2 : (x.state == 2) = true := by simp [s2]
              rw [hs.2.1 s2]
              clear s2 hs
              clear s1
              go_enter Tryz.func30, Tryz.ntmps30
              go_wp2_with (first | (go_at_call 62; ((with_reducible refine (crref_yes x.item _ H1.out).mono ?_); rintro e w1 ⟨rfl, rfl⟩)) | (go_at_call 62; ((with_reducible refine (crref_yes x.code _ H8.out).mono ?_); rintro e w1 ⟨rfl, rfl⟩)))
              go_ret
              exact ⟨rfl, below_alloc1 _ _⟩
            · have t2 : (x.state == 2) = false := by simpa using s2
              by_cases s3 : x.state = 3
              · have t3 : (x.state == 3) = true := by simp [s3]
                rw [hs.2.2.1 s3]
                clear s3 hs
                clear s1 s2
                go_enter Tryz.func30, Tryz.ntmps30
                go_wp2_with (first | (go_at_call 62; ((with_reducible refine (crref_yes x.item _ H1.out).mono ?_); rintro e w1 ⟨rfl, rfl⟩)) | (go_at_call 62; ((with_reducible refine (crref_yes x.code _ H8.out).mono ?_); rintro e w1 ⟨rfl, rfl⟩)))
                go_ret
                exact ⟨rfl, below_alloc1 _ _⟩
              · have t3 : (x.state == 3) = false := by simpa using s3
                rw [hs.2.2.2 s1 s2 s3]
                clear s1 s2 s3 hs
                go_enter Tryz.func30, Tryz.ntmps30
                go_wp2_with (first | (go_at_call 62; ((with_reducible refine (crref_yes x.item _ H1.out).mono ?_); rintro e w1 ⟨rfl, rfl⟩)) | (go_at_call 62; ((with_reducible refine (crref_yes x.code _ H8.out).mono ?_); rintro e w1 ⟨rfl, rfl⟩)))
                go_ret
                exact ⟨rfl, below_alloc1 _ _⟩
      · have e2 : decide (x.day ≤ 4000) = false := decide_eq_false n2
        have HS : Hid (confB x = false) := Lib.hid (by unfold confB dayB; simp [n2])
        clear n0 n1 n2
        have hs := stands_vals x
        rw [HN.out, HS.out] at hs
        by_cases s1 : x.state = 1
        · have t1 : (x.state == 1) = true := by simp [s1]
          rw [hs.1 s1]
          clear s1 hs
          go_enter Tryz.func30, Tryz.ntmps30
          go_wp2_with (first | (go_at_call 62; ((with_reducible refine (crref_yes x.item _ H1.out).mono ?_); rintro e w1 ⟨rfl, rfl⟩)))
          go_ret
          exact ⟨rfl, below_alloc1 _ _⟩
        · have t1 : (x.state == 1) = false := by simpa using s1
          by_cases s2 : x.state = 2
          · have t2 : (x.state == 2) = true := by simp [s2]
            rw [hs.2.1 s2]
            clear s2 hs
            clear s1
            go_enter Tryz.func30, Tryz.ntmps30
            go_wp2_with (first | (go_at_call 62; ((with_reducible refine (crref_yes x.item _ H1.out).mono ?_); rintro e w1 ⟨rfl, rfl⟩)))
            go_ret
            exact ⟨rfl, below_alloc1 _ _⟩
          · have t2 : (x.state == 2) = false := by simpa using s2
            by_cases s3 : x.state = 3
            · have t3 : (x.state == 3) = true := by simp [s3]
              rw [hs.2.2.1 s3]
              clear s3 hs
              clear s1 s2
              go_enter Tryz.func30, Tryz.ntmps30
              go_wp2_with (first | (go_at_call 62; ((with_reducible refine (crref_yes x.item _ H1.out).mono ?_); rintro e w1 ⟨rfl, rfl⟩)))
              go_ret
              exact ⟨rfl, below_alloc1 _ _⟩
            · have t3 : (x.state == 3) = false := by simpa using s3
              rw [hs.2.2.2 s1 s2 s3]
              clear s1 s2 s3 hs
              go_enter Tryz.func30, Tryz.ntmps30
              go_wp2_with (first | (go_at_call 62; ((with_reducible refine (crref_yes x.item _ H1.out).mono ?_); rintro e w1 ⟨rfl, rfl⟩)))
              go_ret
              exact ⟨rfl, below_alloc1 _ _⟩
    · have e1 : decide (0 ≤ x.day) = false := decide_eq_false n1
      have HS : Hid (confB x = false) := Lib.hid (by unfold confB dayB; simp [n1])
      clear n0 n1
      have hs := stands_vals x
      rw [HN.out, HS.out] at hs
      by_cases s1 : x.state = 1
      · have t1 : (x.state == 1) = true := by simp [s1]
        rw [hs.1 s1]
        clear s1 hs
        go_enter Tryz.func30, Tryz.ntmps30
        go_wp2_with (first | (go_at_call 62; ((with_reducible refine (crref_yes x.item _ H1.out).mono ?_); rintro e w1 ⟨rfl, rfl⟩)))
        go_ret
        exact ⟨rfl, below_alloc1 _ _⟩
      · have t1 : (x.state == 1) = false := by simpa using s1
        by_cases s2 : x.state = 2
        · have t2 : (x.state == 2) = true := by simp [s2]
          rw [hs.2.1 s2]
          clear s2 hs
          clear s1
          go_enter Tryz.func30, Tryz.ntmps30
          go_wp2_with (first | (go_at_call 62; ((with_reducible refine (crref_yes x.item _ H1.out).mono ?_); rintro e w1 ⟨rfl, rfl⟩)))
          go_ret
          exact ⟨rfl, below_alloc1 _ _⟩
        · have t2 : (x.state == 2) = false := by simpa using s2
          by_cases s3 : x.state = 3
          · have t3 : (x.state == 3) = true := by simp [s3]
            rw [hs.2.2.1 s3]
            clear s3 hs
            clear s1 s2
            go_enter Tryz.func30, Tryz.ntmps30
            go_wp2_with (first | (go_at_call 62; ((with_reducible refine (crref_yes x.item _ H1.out).mono ?_); rintro e w1 ⟨rfl, rfl⟩)))
            go_ret
            exact ⟨rfl, below_alloc1 _ _⟩
          · have t3 : (x.state == 3) = false := by simpa using s3
            rw [hs.2.2.2 s1 s2 s3]
            clear s1 s2 s3 hs
            go_enter Tryz.func30, Tryz.ntmps30
            go_wp2_with (first | (go_at_call 62; ((with_reducible refine (crref_yes x.item _ H1.out).mono ?_); rintro e w1 ⟨rfl, rfl⟩)))
            go_ret
            exact ⟨rfl, below_alloc1 _ _⟩
end Go.Proofs.YtepkmgmooadbjaaGreat
end
section
/- rank.Right and what it calls, the reference's: part of the contracts. Written by gen_rsc.py. -/
namespace Go.Proofs.YtepkmgmooadbjaaGreat
open Go.ChangeShapes Go.WideShapes Go.ChangeAt Go.RowKit
set_option linter.unusedVariables false

set_option maxHeartbeats 2000000 in
theorem lrref_any (x : Lt) (w : World) : Calls Tryz.prog 30 #[aggL x] w fun e w' => e = .returned (.bool (lrightB x)) ∧ Below w.heap.size w w' := by
  by_cases h0 : x.id < 1
  ·
    have d0 : decide (x.id < 1) = true := decide_eq_true h0
    have hv : lrightB x = false := by unfold lrightB qtyB rankB dayB; simp []; try omega
    rw [hv]
    clear hv
    go_enter Tryz.func30, Tryz.ntmps30
    go_wp2
    go_ret
    exact ⟨rfl, below_alloc1 _ _⟩
  ·
    by_cases h1 : rightL x.item = true
    ·
      by_cases h2 : x.qty < 1
      ·
        have d0 : decide (x.id < 1) = false := decide_eq_false h0
        have H1 : Hid (rightL x.item = true) := Lib.hid (by simpa using h1)
        have d2 : decide (x.qty < 1) = true := decide_eq_true h2
        have hv : lrightB x = false := by unfold lrightB qtyB rankB dayB; simp [H1.out]; try omega
        rw [hv]
        clear hv h1
        go_enter Tryz.func30, Tryz.ntmps30
        go_wp2_with (first | (go_at_call 62; ((with_reducible refine (crref_yes x.item _ H1.out).mono ?_); rintro e w1 ⟨rfl, rfl⟩)))
        go_ret
        exact ⟨rfl, below_alloc1 _ _⟩
      ·
        by_cases h3 : 1073741824 < x.qty
        ·
          have d0 : decide (x.id < 1) = false := decide_eq_false h0
          have H1 : Hid (rightL x.item = true) := Lib.hid (by simpa using h1)
          have d2 : decide (x.qty < 1) = false := decide_eq_false h2
          have d3 : decide (1073741824 < x.qty) = true := decide_eq_true h3
          have hv : lrightB x = false := by unfold lrightB qtyB rankB dayB; simp [H1.out]; try omega
          rw [hv]
          clear hv h1
          go_enter Tryz.func30, Tryz.ntmps30
          go_wp2_with (first | (go_at_call 62; ((with_reducible refine (crref_yes x.item _ H1.out).mono ?_); rintro e w1 ⟨rfl, rfl⟩)))
          go_ret
          exact ⟨rfl, below_alloc1 _ _⟩
        ·
          by_cases h4 : x.asked < 0
          ·
            have d0 : decide (x.id < 1) = false := decide_eq_false h0
            have H1 : Hid (rightL x.item = true) := Lib.hid (by simpa using h1)
            have d2 : decide (x.qty < 1) = false := decide_eq_false h2
            have d3 : decide (1073741824 < x.qty) = false := decide_eq_false h3
            have d4 : decide (x.asked < 0) = true := decide_eq_true h4
            have hv : lrightB x = false := by unfold lrightB qtyB rankB dayB; simp [H1.out]; try omega
            rw [hv]
            clear hv h1
            go_enter Tryz.func30, Tryz.ntmps30
            go_wp2_with (first | (go_at_call 62; ((with_reducible refine (crref_yes x.item _ H1.out).mono ?_); rintro e w1 ⟨rfl, rfl⟩)))
            go_ret
            exact ⟨rfl, below_alloc1 _ _⟩
          ·
            by_cases h5 : 4000 < x.asked
            ·
              have d0 : decide (x.id < 1) = false := decide_eq_false h0
              have H1 : Hid (rightL x.item = true) := Lib.hid (by simpa using h1)
              have d2 : decide (x.qty < 1) = false := decide_eq_false h2
              have d3 : decide (1073741824 < x.qty) = false := decide_eq_false h3
              have d4 : decide (x.asked < 0) = false := decide_eq_false h4
              have d5 : decide (4000 < x.asked) = true := decide_eq_true h5
              have hv : lrightB x = false := by unfold lrightB qtyB rankB dayB; simp [H1.out]; try omega
              rw [hv]
              clear hv h1
              go_enter Tryz.func30, Tryz.ntmps30
              go_wp2_with (first | (go_at_call 62; ((with_reducible refine (crref_yes x.item _ H1.out).mono ?_); rintro e w1 ⟨rfl, rfl⟩)))
              go_ret
              exact ⟨rfl, below_alloc1 _ _⟩
            ·
              by_cases h6 : x.rank < 0
              ·
                have d0 : decide (x.id < 1) = false := decide_eq_false h0
                have H1 : Hid (rightL x.item = true) := Lib.hid (by simpa using h1)
                have d2 : decide (x.qty < 1) = false := decide_eq_false h2
                have d3 : decide (1073741824 < x.qty) = false := decide_eq_false h3
                have d4 : decide (x.asked < 0) = false := decide_eq_false h4
                have d5 : decide (4000 < x.asked) = false := decide_eq_false h5
                have d6 : decide (x.rank < 0) = true := decide_eq_true h6
                have hv : lrightB x = false := by unfold lrightB qtyB rankB dayB; simp [H1.out]; try omega
                rw [hv]
                clear hv h1
                go_enter Tryz.func30, Tryz.ntmps30
                go_wp2_with (first | (go_at_call 62; ((with_reducible refine (crref_yes x.item _ H1.out).mono ?_); rintro e w1 ⟨rfl, rfl⟩)))
                go_ret
                exact ⟨rfl, below_alloc1 _ _⟩
              ·
                by_cases h7 : 99 < x.rank
                ·
                  have d0 : decide (x.id < 1) = false := decide_eq_false h0
                  have H1 : Hid (rightL x.item = true) := Lib.hid (by simpa using h1)
                  have d2 : decide (x.qty < 1) = false := decide_eq_false h2
                  have d3 : decide (1073741824 < x.qty) = false := decide_eq_false h3
                  have d4 : decide (x.asked < 0) = false := decide_eq_false h4
                  have d5 : decide (4000 < x.asked) = false := decide_eq_false h5
                  have d6 : decide (x.rank < 0) = false := decide_eq_false h6
                  have d7 : decide (99 < x.rank) = true := decide_eq_true h7
                  have hv : lrightB x = false := by unfold lrightB qtyB rankB dayB; simp [H1.out]; try omega
                  rw [hv]
                  clear hv h1
                  go_enter Tryz.func30, Tryz.ntmps30
                  go_wp2_with (first | (go_at_call 62; ((with_reducible refine (crref_yes x.item _ H1.out).mono ?_); rintro e w1 ⟨rfl, rfl⟩)))
                  go_ret
                  exact ⟨rfl, below_alloc1 _ _⟩
                ·
                  have d0 : decide (x.id < 1) = false := decide_eq_false h0
                  have H1 : Hid (rightL x.item = true) := Lib.hid (by simpa using h1)
                  have d2 : decide (x.qty < 1) = false := decide_eq_false h2
                  have d3 : decide (1073741824 < x.qty) = false := decide_eq_false h3
                  have d4 : decide (x.asked < 0) = false := decide_eq_false h4
                  have d5 : decide (4000 < x.asked) = false := decide_eq_false h5
                  have d6 : decide (x.rank < 0) = false := decide_eq_false h6
                  have d7 : decide (99 < x.rank) = false := decide_eq_false h7
                  have hv : lrightB x = standsB x := by
                    unfold lrightB qtyB rankB dayB
                    rw [show decide (1 ≤ x.id) = true from decide_eq_true (by omega), H1.out, show decide (1 ≤ x.qty ∧ x.qty ≤ 1073741824) = true from decide_eq_true (by omega), show decide (0 ≤ x.asked ∧ x.asked ≤ 4000) = true from decide_eq_true (by omega), show decide (0 ≤ x.rank ∧ x.rank ≤ 99) = true from decide_eq_true (by omega)]
                    rfl
                  rw [hv]
                  clear hv h1
                  exact rest_any x w H1.out d0 d2 d3 d4 d5 d6 d7
    ·
      have d0 : decide (x.id < 1) = false := decide_eq_false h0
      have H1 : Hid (rightL x.item = false) := Lib.hid (by simpa using h1)
      have hv : lrightB x = false := by unfold lrightB qtyB rankB dayB; simp [H1.out]; try omega
      rw [hv]
      clear hv h1
      go_enter Tryz.func30, Tryz.ntmps30
      go_wp2_with (first | (go_at_call 62; ((with_reducible refine (crref_no x.item _ H1.out).mono ?_); rintro e w1 ⟨rfl, rfl⟩)))
      go_ret
      exact ⟨rfl, below_alloc1 _ _⟩
end Go.Proofs.YtepkmgmooadbjaaGreat
end
section
/- rank.Right and what it calls, the reference's: part of the contracts. Written by gen_rsc.py. -/
namespace Go.Proofs.YtepkmgmooadbjaaGreat
open Go.ChangeShapes Go.WideShapes Go.ChangeAt Go.RowKit
set_option linter.unusedVariables false


end Go.Proofs.YtepkmgmooadbjaaGreat
end
section
/- The contracts of cmp.Compare, cmp.Or, lot.Compare and of the reference's Compare. -/
namespace Go.Proofs.YtepkmgmooadbjaaGreat
open Go.ChangeShapes Go.WideShapes Go.ChangeAt Go.RowKit
set_option linter.unusedVariables false

def cmpI (a b : Int) : Int := if a < b then -1 else if b < a then 1 else 0
def cmpL (x y : Lt) : Int := if cmpI x.rank y.rank = 0 then cmpI x.id y.id else cmpI x.rank y.rank
def orI (a b : Int) : Int := if a = 0 then b else a
theorem cmpI_lt {a b : Int} (h : a < b) : cmpI a b = -1 := by unfold cmpI; rw [if_pos h]
theorem cmpI_gt {a b : Int} (h : b < a) : cmpI a b = 1 := by unfold cmpI; rw [if_neg (by omega), if_pos h]
theorem cmpI_eq {a b : Int} (h : a = b) : cmpI a b = 0 := by unfold cmpI; rw [if_neg (by omega), if_neg (by omega)]
theorem cmpI_cases (a b : Int) : (a < b ∧ cmpI a b = -1) ∨ (b < a ∧ cmpI a b = 1) ∨ (a = b ∧ cmpI a b = 0) := by
  by_cases h : a < b
  · exact .inl ⟨h, cmpI_lt h⟩
  · by_cases h' : b < a
    · exact .inr (.inl ⟨h', cmpI_gt h'⟩)
    · exact .inr (.inr ⟨by omega, cmpI_eq (by omega)⟩)
theorem cmpL_or (x y : Lt) : cmpL x y = orI (cmpI x.rank y.rank) (cmpI x.id y.id) := rfl

theorem nan_any (a : Int) (w : World) : Calls Tryz.prog 69 #[.int .i64 a] w fun e w' => e = .returned (.bool false) ∧ w = w' := by
  go_enter Tryz.func69, Tryz.ntmps69
  go_wp2
  go_ret
  simp
theorem ccmp_any (a b : Int) (w : World) : Calls Tryz.prog 37 #[.int .i64 a, .int .i64 b] w fun e w' => e = .returned (.int .i64 (cmpI a b)) ∧ w = w' := by
  rcases cmpI_cases a b with ⟨h, e⟩ | ⟨h, e⟩ | ⟨h, e⟩
  · rw [e]
    clear e
    go_enter Tryz.func37, Tryz.ntmps37
    go_wp2_with (go_at_call 69; ((with_reducible refine (nan_any _ _).mono ?_); rintro e w1 ⟨rfl, rfl⟩))
    go_ret
    exact ⟨rfl, rfl⟩
  · rw [e]
    clear e
    have h1 : decide (a < b) = false := decide_eq_false (by omega)
    go_enter Tryz.func37, Tryz.ntmps37
    go_wp2_with (go_at_call 69; ((with_reducible refine (nan_any _ _).mono ?_); rintro e w1 ⟨rfl, rfl⟩))
    go_ret
    exact ⟨rfl, rfl⟩
  · rw [e]
    clear e
    subst h
    go_enter Tryz.func37, Tryz.ntmps37
    go_wp2_with (go_at_call 69; ((with_reducible refine (nan_any _ _).mono ?_); rintro e w1 ⟨rfl, rfl⟩))
    go_ret
    exact ⟨rfl, rfl⟩
set_option maxHeartbeats 1000000 in
theorem or_any (u v : Int) (g : Nat) (w : World) (h0 : w.cell? ⟨g, 0, none⟩ = some (.int .i64 u)) (h1 : w.cell? ⟨g, 1, none⟩ = some (.int .i64 v)) :
    Calls Tryz.prog 36 #[.slice (some ⟨g, 0, none⟩) 2 2] w fun e w' => e = .returned (.int .i64 (orI u v)) ∧ w = w' := by
  by_cases hu : u = 0
  · subst hu
    by_cases hv : v = 0
    · subst hv
      go_enter Tryz.func36, Tryz.ntmps36
      go_wp2
      go_loop [8] (fun i => i = .int .i64 0 ∨ i = .int .i64 1 ∨ i = .int .i64 2) (fun i => 2 - (intOf i).toNat)
      case atStart => exact .inl rfl
      case round =>
        rcases hrel with rfl | rfl | rfl
        · go_wp2
          go_round
          case rel => exact .inr (.inl rfl)
          case measure => simp [intOf]
        · go_wp2
          go_round
          case rel => exact .inr (.inr rfl)
          case measure => simp [intOf]
        · go_wp2
          go_ret
          exact ⟨rfl, rfl⟩
    · have hb1 : (v != 0) = true := by simpa using hv
      have hb2 : (v == 0) = false := by simpa using hv
      have HV := Lib.hid hv
      clear hv
      go_enter Tryz.func36, Tryz.ntmps36
      go_wp2
      go_loop [8] (fun i => i = .int .i64 0 ∨ i = .int .i64 1) (fun i => 2 - (intOf i).toNat)
      case atStart => exact .inl rfl
      case round =>
        rcases hrel with rfl | rfl
        · go_wp2
          go_round
          case rel => exact .inr rfl
          case measure => simp [intOf]
        · go_wp2
          go_ret
          exact ⟨rfl, rfl⟩
  · have hb1 : (u != 0) = true := by simpa using hu
    have hb2 : (u == 0) = false := by simpa using hu
    have hor : orI u v = u := by unfold orI; rw [if_neg hu]
    rw [hor]
    clear hu hor
    go_enter Tryz.func36, Tryz.ntmps36
    go_wp2
    go_loop [8] (fun i => i = .int .i64 0) (fun i => 0)
    case atStart => rfl
    case round =>
      obtain rfl := hrel
      go_wp2
      go_ret
      exact ⟨rfl, rfl⟩
end Go.Proofs.YtepkmgmooadbjaaGreat
end
section
/- The contracts of lot.Compare and of the reference's Compare. -/
namespace Go.Proofs.YtepkmgmooadbjaaGreat
open Go.ChangeShapes Go.WideShapes Go.ChangeAt Go.RowKit Go.Sort
set_option linter.unusedVariables false

theorem two_cells (W : World) (g : Nat) (hg : g = W.heap.size) (u v : Value) (t : TypeId) : (W.alloc (.cells #[u, v] t)).drew.cell? ⟨g, 0, none⟩ = some u ∧ (W.alloc (.cells #[u, v] t)).drew.cell? ⟨g, 1, none⟩ = some v := by
  subst hg
  have h0 := fresh_cell W #[u, v] t 0
  have h1 := fresh_cell W #[u, v] t 1
  rw [addr0] at h0 h1
  exact ⟨h0, h1⟩
/-- A world that has drawn, and that has blocks more. -/
def Grown (w w' : World) : Prop := ∃ q os, w' = grow (w.drewN q) os
theorem Grown.refl (w : World) : Grown w w := ⟨0, #[], by rw [grow_empty]; rfl⟩
theorem Grown.alloc {w w' : World} (h : Grown w w') (o : Obj) : Grown w (w'.alloc o) := by
  obtain ⟨q, os, rfl⟩ := h
  exact ⟨q, os ++ #[o], by rw [alloc_eq_grow, grow_grow]⟩
theorem Grown.drew {w w' : World} (h : Grown w w') : Grown w w'.drew := by
  obtain ⟨q, os, rfl⟩ := h
  exact ⟨q + 1, os, rfl⟩
theorem Grown.below {w w' : World} (h : Grown w w') : Below w.heap.size w w' := by
  obtain ⟨q, os, rfl⟩ := h
  refine ⟨rfl, rfl, rfl, by simp [grow], fun i hi => ?_⟩
  show ((w.drewN q).heap ++ os)[i]? = _
  rw [Array.getElem?_append_left (by show i < w.heap.size; omega)]
  rfl
set_option maxHeartbeats 2000000 in
theorem compare_grown (x y : Lt) (w : World) : Calls Tryz.prog 24 #[aggL x, aggL y] w fun e w' => e = .returned (.int .i64 (cmpL x y)) ∧ ∃ q os, w' = grow (w.drewN q) os := by
  rw [cmpL_or]
  obtain ⟨u, hu⟩ : ∃ u, u = cmpI x.rank y.rank := ⟨_, rfl⟩
  obtain ⟨v, hv⟩ : ∃ v, v = cmpI x.id y.id := ⟨_, rfl⟩
  rw [← hu, ← hv]
  have hc1 : ∀ W, Calls Tryz.prog 37 #[.int .i64 x.rank, .int .i64 y.rank] W fun e w' => e = .returned (.int .i64 u) ∧ W = w' := fun W => by rw [hu]; exact ccmp_any _ _ W
  have hc2 : ∀ W, Calls Tryz.prog 37 #[.int .i64 x.id, .int .i64 y.id] W fun e w' => e = .returned (.int .i64 v) ∧ W = w' := fun W => by rw [hv]; exact ccmp_any _ _ W
  have HC1 := Lib.hid hc1
  have HC2 := Lib.hid hc2
  clear hu hv hc1 hc2
  go_enter Tryz.func24, Tryz.ntmps24
  go_wp2_with fail
  go_region_held3 (fun w' => w'.cell? ⟨w.heap.size, 0, none⟩ = some (.int .i64 x.id) ∧ w'.cell? ⟨w.heap.size, 4, none⟩ = some (.int .i64 x.rank) ∧ w'.cell? ⟨w.heap.size + 1, 0, none⟩ = some (.int .i64 y.id) ∧ w'.cell? ⟨w.heap.size + 1, 4, none⟩ = some (.int .i64 y.rank)) (go_keep)
    (first
      | (go_at_call 37; (first | ((with_reducible refine (HC1.out _).mono ?_); rintro e w1 ⟨rfl, rfl⟩) | ((with_reducible refine (HC2.out _).mono ?_); rintro e w1 ⟨rfl, rfl⟩)))
      | (go_at_call 36; ((with_reducible refine (or_any u v _ _ ?_ ?_).mono ?_); (exact (two_cells _ _ (by simp) _ _ _).1); (exact (two_cells _ _ (by simp) _ _ _).2); rintro e w1 ⟨rfl, rfl⟩)))
  go_wp2
  go_ret
  exact ⟨rfl, ((((Grown.refl w).alloc _).alloc _).alloc _).drew⟩
theorem compare_any (x y : Lt) (w : World) : Calls Tryz.prog 24 #[aggL x, aggL y] w fun e w' => e = .returned (.int .i64 (cmpL x y)) ∧ Below w.heap.size w w' :=
  (compare_grown x y w).mono fun e w' ⟨he, hw⟩ => ⟨he, Grown.below hw⟩

theorem below_alloc3 (w : World) (o o' : Obj) : Below w.heap.size w ((w.alloc o).alloc o') := (below_alloc1 w o).alloc (by simp) _
set_option maxHeartbeats 2000000 in
theorem comparer_any (x y : Lt) (w : World) : Calls Tryz.prog 27 #[aggL x, aggL y] w fun e w' => e = .returned (.int .i64 (cmpL x y)) ∧ Below w.heap.size w w' := by
  unfold cmpL
  rcases cmpI_cases x.rank y.rank with ⟨h, e⟩ | ⟨h, e⟩ | ⟨h, e⟩
  · rw [e, if_neg (by decide)]
    clear e
    go_enter Tryz.func27, Tryz.ntmps27
    go_wp2
    go_ret
    exact ⟨rfl, below_alloc3 _ _ _⟩
  · rw [e, if_neg (by decide)]
    clear e
    have h1 : decide (x.rank < y.rank) = false := decide_eq_false (by omega)
    go_enter Tryz.func27, Tryz.ntmps27
    go_wp2
    go_ret
    exact ⟨rfl, below_alloc3 _ _ _⟩
  · rw [e, if_pos rfl]
    clear e
    have h1 : decide (x.rank < y.rank) = false := decide_eq_false (by omega)
    have h2 : decide (y.rank < x.rank) = false := decide_eq_false (by omega)
    clear h
    rcases cmpI_cases x.id y.id with ⟨h, e⟩ | ⟨h, e⟩ | ⟨h, e⟩
    · rw [e]
      clear e
      go_enter Tryz.func27, Tryz.ntmps27
      go_wp2
      go_ret
      exact ⟨rfl, below_alloc3 _ _ _⟩
    · rw [e]
      clear e
      have h3 : decide (x.id < y.id) = false := decide_eq_false (by omega)
      go_enter Tryz.func27, Tryz.ntmps27
      go_wp2
      go_ret
      exact ⟨rfl, below_alloc3 _ _ _⟩
    · rw [e]
      clear e
      have h3 : decide (x.id < y.id) = false := decide_eq_false (by omega)
      have h4 : decide (y.id < x.id) = false := decide_eq_false (by omega)
      clear h
      go_enter Tryz.func27, Tryz.ntmps27
      go_wp2
      go_ret
      exact ⟨rfl, below_alloc3 _ _ _⟩
end Go.Proofs.YtepkmgmooadbjaaGreat
end
section
/- Rows that are turned and merged where they lie: what becomes of an array. No Go in sight. -/
namespace Go.Proofs.YtepkmgmooadbjaaGreat
open Go.Sort
set_option linter.unusedVariables false
set_option linter.unusedSectionVars false
variable {α : Type} [Inhabited α]

/-! ### a search by halves -/
structure Half (q : Nat → Bool) (lo hi i j : Nat) : Prop where
  lo_ : lo ≤ i
  mid_ : i ≤ j
  hi_ : j ≤ hi
  yes : ∀ k, lo ≤ k → k < i → q k = true
  no : ∀ k, j ≤ k → k < hi → q k = false
def Falls (q : Nat → Bool) (lo hi : Nat) : Prop := ∀ k h, lo ≤ k → k ≤ h → h < hi → q h = true → q k = true
theorem Half.start {q : Nat → Bool} {lo hi : Nat} (h : lo ≤ hi) : Half q lo hi lo hi :=
  ⟨Nat.le_refl _, h, Nat.le_refl _, fun k h1 h2 => by omega, fun k h1 h2 => by omega⟩
theorem Half.up {q : Nat → Bool} {lo hi i j : Nat} (h : Half q lo hi i j) (hf : Falls q lo hi) {m : Nat} (h1 : i ≤ m) (h2 : m < j) (hm : q m = true) : Half q lo hi (m + 1) j :=
  ⟨by have := h.lo_; omega, by omega, h.hi_, fun k hk1 hk2 => hf k m hk1 (by omega) (by have := h.hi_; omega) hm, h.no⟩
theorem Half.down {q : Nat → Bool} {lo hi i j : Nat} (h : Half q lo hi i j) (hf : Falls q lo hi) {m : Nat} (h1 : i ≤ m) (h2 : m < j) (hm : q m = false) : Half q lo hi i m :=
  ⟨h.lo_, h1, by have := h.hi_; omega, h.yes, fun k hk1 hk2 => by
    cases hq : q k with
    | false => rfl
    | true => have := hf m k (by have := h.lo_; omega) hk1 hk2 hq; rw [hm] at this; cases this⟩

/-! ### an order that is told by 'less' -/
section
variable {lt : α → α → Bool} (hS : SWO lt)
include hS
theorem swo_asymm {x y : α} (h : lt x y = true) : lt y x = false := by
  cases hq : lt y x with
  | false => rfl
  | true => have := hS.trans _ _ _ h hq; rw [hS.irrefl] at this; cases this
theorem swo_lt_of_lt_le {x y z : α} (h : lt x y = true) (h2 : lt z y = false) : lt x z = true := by
  cases hq : lt x z with
  | true => rfl
  | false => have := hS.ntrans _ _ _ hq h2; rw [h] at this; cases this
theorem swo_lt_of_le_lt {x y z : α} (h : lt y x = false) (h2 : lt y z = true) : lt x z = true := by
  cases hq : lt x z with
  | true => rfl
  | false => have := hS.ntrans _ _ _ h hq; rw [h2] at this; cases this
theorem sorted_le {a b : Nat} {d : Array α} (h : SortedIn lt a b d) {i j : Nat} (h1 : a ≤ i) (h2 : i ≤ j) (h3 : j < b) : lt d[j]! d[i]! = false := by
  rcases Nat.lt_or_eq_of_le h2 with h4 | rfl
  · exact h i j h1 h4 h3
  · exact hS.irrefl _
end

/-- What is asked of two rows that are merged: each is in order, and the test tells of a right one and a left one what the order tells. -/
structure Mrg (lt t : α → α → Bool) (a m b : Nat) (d : Array α) : Prop where
  left : SortedIn lt a m d
  right : SortedIn lt m b d
  agree : ∀ i j, a ≤ i → i < m → m ≤ j → j < b → t d[j]! d[i]! = lt d[j]! d[i]!

section
variable {lt t : α → α → Bool} (hS : SWO lt) {a m b : Nat} {d : Array α}
include hS
theorem falls1 (h : Mrg lt t a (a + 1) b d) : Falls (fun k => t d[k]! d[a]!) (a + 1) b := fun k n h1 h2 h3 hq => by
  simp only at hq ⊢
  rw [h.agree a n (by omega) (by omega) (by omega) h3] at hq
  rw [h.agree a k (by omega) (by omega) h1 (by omega)]
  exact swo_lt_of_le_lt hS (sorted_le hS h.right h1 h2 h3) hq
theorem falls2 (h : Mrg lt t a m (m + 1) d) : Falls (fun k => !t d[m]! d[k]!) a m := fun k n h1 h2 h3 hq => by
  simp only [Bool.not_eq_true'] at hq ⊢
  rw [h.agree n m (by omega) h3 (by omega) (by omega)] at hq
  rw [h.agree k m h1 (by omega) (by omega) (by omega)]
  exact hS.ntrans _ _ _ hq (sorted_le hS h.left h1 h2 h3)
theorem falls3 (h : Mrg lt t a m b d) {lo hi p : Nat} (h1 : a ≤ lo) (h2 : hi ≤ m) (h3 : p < b + lo) (h4 : m + hi ≤ p + 1) : Falls (fun c => !t d[p - c]! d[c]!) lo hi := fun k n k1 k2 k3 hq => by
  simp only [Bool.not_eq_true'] at hq ⊢
  rw [h.agree n (p - n) (by omega) (by omega) (by omega) (by omega)] at hq
  rw [h.agree k (p - k) (by omega) (by omega) (by omega) (by omega)]
  have e1 := sorted_le hS h.left (i := k) (j := n) (by omega) k2 (by omega)
  have e2 := sorted_le hS h.right (i := p - n) (j := p - k) (by omega) (by omega) (by omega)
  exact hS.ntrans _ _ _ e2 (hS.ntrans _ _ _ hq e1)
end

/-! ### one that is moved by exchanges -/
/-- d' is d with the one at a moved up to k, those between one down. -/
def MovedUp (d : Array α) (a k : Nat) (d' : Array α) : Prop :=
  d'.size = d.size ∧ PermIn a (k + 1) d d' ∧ (∀ x, a ≤ x → x < k → d'[x]! = d[x + 1]!) ∧ d'[k]! = d[a]! ∧ ∀ x, x < a ∨ k < x → d'[x]! = d[x]!
theorem movedUp_start (d : Array α) (a : Nat) (h : a < d.size) : MovedUp d a a d :=
  ⟨rfl, permIn_refl _ _ _, fun x h1 h2 => by omega, rfl, fun x _ => rfl⟩
theorem MovedUp.step {d d' : Array α} {a k : Nat} (h : MovedUp d a k d') (hk : a ≤ k) (hs : k + 1 < d.size) : MovedUp d a (k + 1) (swp d' k (k + 1)) := by
  obtain ⟨h1, h2, h3, h4, h5⟩ := h
  have g := swp_get d' (i := k) (j := k + 1) (by omega) (by omega)
  refine ⟨by rw [size_swp]; exact h1, permIn_trans _ _ _ _ _ (permIn_mono _ _ _ _ _ _ (Nat.le_refl _) (by omega) (by omega) h2) (swp_permIn _ _ _ _ _ hk (by omega) (by omega) (by omega) (by omega)), fun x hx1 hx2 => ?_, ?_, fun x hx => ?_⟩
  · rw [g]
    by_cases e : x = k
    · subst e; rw [if_neg (by omega), if_pos rfl, h5 _ (by omega)]
    · rw [if_neg (by omega), if_neg e, h3 x hx1 (by omega)]
  · rw [g, if_pos rfl, h4]
  · rw [g, if_neg (by omega), if_neg (by omega), h5 x (by omega)]
/-- d' is d with the one at m moved down to k, those between one up. -/
def MovedDown (d : Array α) (k m : Nat) (d' : Array α) : Prop :=
  d'.size = d.size ∧ PermIn k (m + 1) d d' ∧ (∀ x, k < x → x ≤ m → d'[x]! = d[x - 1]!) ∧ d'[k]! = d[m]! ∧ ∀ x, x < k ∨ m < x → d'[x]! = d[x]!
theorem movedDown_start (d : Array α) (m : Nat) (h : m < d.size) : MovedDown d m m d :=
  ⟨rfl, permIn_refl _ _ _, fun x h1 h2 => by omega, rfl, fun x _ => rfl⟩
theorem MovedDown.step {d d' : Array α} {k m : Nat} (h : MovedDown d (k + 1) m d') (hk : k + 1 ≤ m) (hs : m < d.size) : MovedDown d k m (swp d' (k + 1) k) := by
  obtain ⟨h1, h2, h3, h4, h5⟩ := h
  have g := swp_get d' (i := k + 1) (j := k) (by omega) (by omega)
  refine ⟨by rw [size_swp]; exact h1, permIn_trans _ _ _ _ _ (permIn_mono _ _ _ _ _ _ (by omega) (Nat.le_refl _) (by omega) h2) (swp_permIn _ _ _ _ _ (by omega) (by omega) (by omega) (by omega) (by omega)), fun x hx1 hx2 => ?_, ?_, fun x hx => ?_⟩
  · rw [g]
    by_cases e : x = k + 1
    · subst e; rw [if_neg (by omega), if_pos rfl, h5 _ (by omega)]; rfl
    · rw [if_neg (by omega), if_neg e, h3 x (by omega) hx2]
  · rw [g, if_pos rfl, h4]
  · rw [g, if_neg (by omega), if_neg (by omega), h5 x (by omega)]

/-- What a merge leaves. -/
def Merged (lt : α → α → Bool) (a b : Nat) (d d' : Array α) : Prop := d'.size = d.size ∧ PermIn a b d d' ∧ SortedIn lt a b d'

section
variable {lt t : α → α → Bool} (hS : SWO lt) {a m b : Nat} {d d' : Array α}
include hS
theorem merged1 (h : Mrg lt t a (a + 1) b d) {i : Nat} (hb : b ≤ d.size) (hH : Half (fun k => t d[k]! d[a]!) (a + 1) b i i) (hm : MovedUp d a (i - 1) d') : Merged lt a b d d' := by
  obtain ⟨h1, h2, h3, h4, h5⟩ := hm
  have hi1 := hH.lo_
  have hi2 := hH.hi_
  refine ⟨h1, permIn_mono _ _ _ _ _ _ (Nat.le_refl _) (by omega) hb h2, fun x y hx hxy hy => ?_⟩
  have yes : ∀ k, a + 1 ≤ k → k < i → lt d[k]! d[a]! = true := fun k k1 k2 => by
    have : t d[k]! d[a]! = true := hH.yes k k1 k2
    rwa [h.agree a k (by omega) (by omega) k1 (by omega)] at this
  have no : ∀ k, i ≤ k → k < b → lt d[k]! d[a]! = false := fun k k1 k2 => by
    have : t d[k]! d[a]! = false := hH.no k k1 k2
    rwa [h.agree a k (by omega) (by omega) (by omega) k2] at this
  by_cases hy1 : y < i - 1
  · rw [h3 x hx (by omega), h3 y (by omega) hy1]
    exact h.right _ _ (by omega) (by omega) (by omega)
  · by_cases hy2 : y = i - 1
    · subst hy2
      rw [h4, h3 x hx (by omega)]
      exact swo_asymm hS (yes _ (by omega) (by omega))
    · rw [h5 y (by omega)]
      by_cases hx1 : x < i - 1
      · rw [h3 x hx hx1]
        exact h.right _ _ (by omega) (by omega) hy
      · by_cases hx2 : x = i - 1
        · subst hx2
          rw [h4]
          exact no y (by omega) hy
        · rw [h5 x (by omega)]
          exact h.right _ _ (by omega) hxy hy
theorem merged2 (h : Mrg lt t a m (m + 1) d) {i : Nat} (hb : m < d.size) (hH : Half (fun k => !t d[m]! d[k]!) a m i i) (hm : MovedDown d i m d') : Merged lt a (m + 1) d d' := by
  obtain ⟨h1, h2, h3, h4, h5⟩ := hm
  have hi1 := hH.lo_
  have hi2 := hH.hi_
  refine ⟨h1, permIn_mono _ _ _ _ _ _ hi1 (Nat.le_refl _) (by omega) h2, fun x y hx hxy hy => ?_⟩
  have yes : ∀ k, a ≤ k → k < i → lt d[m]! d[k]! = false := fun k k1 k2 => by
    have := hH.yes k k1 k2
    simp only [Bool.not_eq_true'] at this
    rwa [h.agree k m k1 (by omega) (by omega) (by omega)] at this
  have no : ∀ k, i ≤ k → k < m → lt d[m]! d[k]! = true := fun k k1 k2 => by
    have := hH.no k k1 k2
    simp only [Bool.not_eq_false'] at this
    rwa [h.agree k m (by omega) k2 (by omega) (by omega)] at this
  by_cases hy1 : y < i
  · rw [h5 x (by omega), h5 y (by omega)]
    exact h.left _ _ hx hxy (by omega)
  · by_cases hy2 : y = i
    · subst hy2
      rw [h4, h5 x (by omega)]
      exact yes x hx hxy
    · rw [h3 y (by omega) (by omega)]
      by_cases hx1 : x < i
      · rw [h5 x (by omega)]
        exact sorted_le hS h.left hx (by omega) (by omega)
      · by_cases hx2 : x = i
        · subst hx2
          rw [h4]
          exact swo_asymm hS (no (y - 1) (by omega) (by omega))
        · rw [h3 x (by omega) (by omega)]
          exact h.left _ _ (by omega) (by omega) (by omega)
end

/-! ### ranges that change places, rows that are turned -/
def Swapped (d : Array α) (a b n : Nat) (d' : Array α) : Prop :=
  d'.size = d.size ∧ ∀ k, d'[k]! = if a ≤ k ∧ k < a + n then d[k + (b - a)]! else if b ≤ k ∧ k < b + n then d[k - (b - a)]! else d[k]!
theorem swapped_start (d : Array α) (a b : Nat) : Swapped d a b 0 d := ⟨rfl, fun k => by rw [if_neg (by omega), if_neg (by omega)]⟩
theorem Swapped.step {d d' : Array α} {a b n : Nat} (h : Swapped d a b n d') (hab : a + n < b) (hs : b + n < d.size) : Swapped d a b (n + 1) (swp d' (a + n) (b + n)) := by
  obtain ⟨h1, h2⟩ := h
  have g := swp_get d' (i := a + n) (j := b + n) (by omega) (by omega)
  refine ⟨by rw [size_swp]; exact h1, fun k => ?_⟩
  rw [g]
  by_cases e1 : k = b + n
  · subst e1
    rw [if_pos rfl, if_neg (by omega), if_pos (by omega), h2, if_neg (by omega), if_neg (by omega)]
    try (congr 1 <;> omega)
  · by_cases e2 : k = a + n
    · subst e2
      rw [if_neg e1, if_pos rfl, if_pos (by omega), h2, if_neg (by omega), if_neg (by omega)]
      try (congr 1 <;> omega)
    · rw [if_neg e1, if_neg e2, h2]
      by_cases e3 : a ≤ k ∧ k < a + n
      · rw [if_pos e3, if_pos (by omega)]
      · rw [if_neg e3]
        by_cases e4 : b ≤ k ∧ k < b + n
        · rw [if_pos e4, if_neg (by omega), if_pos (by omega)]
        · rw [if_neg e4, if_neg (by omega), if_neg (by omega)]

/-- The row [a, b) turned so that [m, b) stands first. -/
def turnAt (d : Array α) (a m b k : Nat) : α := if a ≤ k ∧ k < a + (b - m) then d[k + (m - a)]! else if a + (b - m) ≤ k ∧ k < b then d[k - (b - m)]! else d[k]!
def Turned (d : Array α) (a m b : Nat) (d' : Array α) : Prop := d'.size = d.size ∧ PermIn a b d d' ∧ ∀ k, d'[k]! = turnAt d a m b k
/-- Underway: what is left to be turned is [m - i, m + j). -/
structure Turning (d : Array α) (a m b i j : Nat) (d' : Array α) : Prop where
  size : d'.size = d.size
  perm : PermIn a b d d'
  i1 : 1 ≤ i
  j1 : 1 ≤ j
  i2 : i ≤ m - a
  j2 : j ≤ b - m
  tells : ∀ k, turnAt d a m b k = turnAt d' (m - i) m (m + j) k
theorem turning_start {d : Array α} {a m b : Nat} (h1 : a < m) (h2 : m < b) : Turning d a m b (m - a) (b - m) d :=
  ⟨rfl, permIn_refl _ _ _, by omega, by omega, Nat.le_refl _, Nat.le_refl _, fun k => by rw [show m - (m - a) = a by omega, show m + (b - m) = b by omega]⟩
theorem Turning.left {d d1 d2 : Array α} {a m b i j : Nat} (h : Turning d a m b i j d1) (hij : j < i) (h1 : a < m) (h2 : m < b) (hs : Swapped d1 (m - i) m j d2) (hp : PermIn a b d1 d2) : Turning d a m b (i - j) j d2 := by
  obtain ⟨z, pm, i1, j1, i2, j2, tl⟩ := h
  refine ⟨hs.1.trans z, permIn_trans _ _ _ _ _ pm hp, by omega, j1, by omega, j2, fun k => ?_⟩
  rw [tl k]
  have g := hs.2
  unfold turnAt
  by_cases c1 : m - i ≤ k ∧ k < m - i + j
  · rw [if_pos (by omega), if_neg (by omega), if_neg (by omega), g k, if_pos c1]
    try (congr 1 <;> omega)
  · by_cases c2 : m - i + j ≤ k ∧ k < m - i + 2 * j
    · rw [if_neg (by omega), if_pos (by omega), if_pos (by omega), g, if_neg (by omega), if_pos (by omega)]
      try (congr 1 <;> omega)
    · by_cases c3 : m - i + 2 * j ≤ k ∧ k < m + j
      · rw [if_neg (by omega), if_pos (by omega), if_neg (by omega), if_pos (by omega), g, if_neg (by omega), if_neg (by omega)]
        try (congr 1 <;> omega)
      · rw [if_neg (by omega), if_neg (by omega), if_neg (by omega), if_neg (by omega), g, if_neg (by omega), if_neg (by omega)]
theorem Turning.right {d d1 d2 : Array α} {a m b i j : Nat} (h : Turning d a m b i j d1) (hij : i < j) (h1 : a < m) (h2 : m < b) (hs : Swapped d1 (m - i) (m + j - i) i d2) (hp : PermIn a b d1 d2) : Turning d a m b i (j - i) d2 := by
  obtain ⟨z, pm, i1, j1, i2, j2, tl⟩ := h
  refine ⟨hs.1.trans z, permIn_trans _ _ _ _ _ pm hp, i1, by omega, i2, by omega, fun k => ?_⟩
  rw [tl k]
  have g := hs.2
  unfold turnAt
  by_cases c1 : m + j - i ≤ k ∧ k < m + j
  · rw [if_neg (by omega), if_pos (by omega), if_neg (by omega), if_neg (by omega), g k, if_neg (by omega), if_pos (by omega)]
    try (congr 1 <;> omega)
  · by_cases c2 : m - i ≤ k ∧ k < m - i + (j - i)
    · rw [if_pos (by omega), if_pos (by omega), g, if_neg (by omega), if_neg (by omega)]
      try (congr 1 <;> omega)
    · by_cases c3 : m - i + (j - i) ≤ k ∧ k < m + j - i
      · rw [if_pos (by omega), if_neg (by omega), if_pos (by omega), g, if_pos (by omega)]
        try (congr 1 <;> omega)
      · rw [if_neg (by omega), if_neg (by omega), if_neg (by omega), if_neg (by omega), g, if_neg (by omega), if_neg (by omega)]
theorem Turning.last {d d1 d2 : Array α} {a m b i : Nat} (h : Turning d a m b i i d1) (h1 : a < m) (h2 : m < b) (hs : Swapped d1 (m - i) m i d2) (hp : PermIn a b d1 d2) : Turned d a m b d2 := by
  obtain ⟨z, pm, i1, j1, i2, j2, tl⟩ := h
  refine ⟨hs.1.trans z, permIn_trans _ _ _ _ _ pm hp, fun k => ?_⟩
  rw [tl k, hs.2]
  unfold turnAt
  by_cases c1 : m - i ≤ k ∧ k < m - i + i
  · rw [if_pos c1, if_pos (by omega)]; try (congr 1 <;> omega)
  · rw [if_neg c1]
    by_cases c2 : m ≤ k ∧ k < m + i
    · rw [if_pos c2, if_neg (by omega), if_pos (by omega)]; try (congr 1 <;> omega)
    · rw [if_neg c2, if_neg (by omega), if_neg (by omega)]
end Go.Proofs.YtepkmgmooadbjaaGreat
end
section
/- Rows that are merged in halves, and runs that grow by merging: what becomes of an array. No Go in sight. -/
namespace Go.Proofs.YtepkmgmooadbjaaGreat
open Go.Sort
set_option linter.unusedVariables false
set_option linter.unusedSectionVars false
variable {α : Type} [Inhabited α]

/-- Behind the turn of a merge: both halves are two rows to be merged, none of the later half is less than one of the earlier. -/
structure Cut (lt t : α → α → Bool) (a s mid e b : Nat) (d d1 : Array α) : Prop where
  size : d1.size = d.size
  perm : PermIn a b d d1
  mrgL : Mrg lt t a s mid d1
  mrgR : Mrg lt t mid e b d1
  cross : ∀ i j, a ≤ i → i < mid → mid ≤ j → j < b → lt d1[j]! d1[i]! = false
  s1 : a ≤ s
  s2 : s ≤ mid
  e1 : mid ≤ e
  e2 : e ≤ b

theorem turned_none {d : Array α} {s m e : Nat} (h : s = m ∨ m = e) : ∀ k, d[k]! = turnAt d s m e k := fun k => by
  unfold turnAt
  rcases h with rfl | rfl
  · by_cases c1 : s ≤ k ∧ k < s + (e - s)
    · rw [if_pos c1]; try (congr 1 <;> omega)
    · rw [if_neg c1, if_neg (by omega)]
  · rw [if_neg (by omega)]
    by_cases c2 : s + (m - m) ≤ k ∧ k < m
    · rw [if_pos c2]; try (congr 1 <;> omega)
    · rw [if_neg c2]

section
variable {lt t : α → α → Bool} (hS : SWO lt) {a m b s e mid : Nat} {d d1 d2 d3 : Array α}
include hS
theorem cut_of (h : Mrg lt t a m b d) (hb : b ≤ d.size) (h1 : a ≤ s) (h2 : s ≤ m) (h3 : m ≤ e) (h4 : e ≤ b) (h5 : s + e = mid + m)
    (c1 : s = a ∨ e = b ∨ (a < s ∧ e < b ∧ lt d[e]! d[s - 1]! = false)) (c2 : s = m ∨ e = m ∨ (s < m ∧ m < e ∧ lt d[e - 1]! d[s]! = true))
    (hz : d1.size = d.size) (hp : PermIn s e d d1) (ht : ∀ k, d1[k]! = turnAt d s m e k) : Cut lt t a s mid e b d d1 := by
  have g1 : ∀ k, k < s → d1[k]! = d[k]! := fun k hk => by rw [ht]; unfold turnAt; rw [if_neg (by omega), if_neg (by omega)]
  have g2 : ∀ k, s ≤ k → k < mid → d1[k]! = d[k + (m - s)]! := fun k k1 k2 => by rw [ht]; unfold turnAt; rw [if_pos (by omega)]
  have g3 : ∀ k, mid ≤ k → k < e → d1[k]! = d[k - (e - m)]! := fun k k1 k2 => by rw [ht]; unfold turnAt; rw [if_neg (by omega), if_pos (by omega)]
  have g4 : ∀ k, e ≤ k → d1[k]! = d[k]! := fun k hk => by rw [ht]; unfold turnAt; rw [if_neg (by omega), if_neg (by omega)]
  refine ⟨hz, permIn_mono _ _ _ _ _ _ h1 h4 hb hp, ⟨fun i j i1 i2 i3 => ?_, fun i j i1 i2 i3 => ?_, fun i j i1 i2 i3 i4 => ?_⟩, ⟨fun i j i1 i2 i3 => ?_, fun i j i1 i2 i3 => ?_, fun i j i1 i2 i3 i4 => ?_⟩, fun i j i1 i2 i3 i4 => ?_, h1, by omega, by omega, h4⟩
  · rw [g1 i (by omega), g1 j i3]; exact h.left i j i1 i2 (by omega)
  · rw [g2 i i1 (by omega), g2 j (by omega) i3]; exact h.right _ _ (by omega) (by omega) (by omega)
  · rw [g1 i i2, g2 j i3 i4]; exact h.agree _ _ i1 (by omega) (by omega) (by omega)
  · rw [g3 i i1 (by omega), g3 j (by omega) i3]; exact h.left _ _ (by omega) (by omega) (by omega)
  · rw [g4 i i1, g4 j (by omega)]; exact h.right _ _ (by omega) i2 i3
  · rw [g3 i i1 i2, g4 j i3]; exact h.agree _ _ (by omega) (by omega) (by omega) i4
  · by_cases hi : i < s
    · rw [g1 i hi]
      by_cases hj : j < e
      · rw [g3 j i3 hj]
        exact sorted_le hS h.left i1 (by omega) (by omega)
      · rw [g4 j (by omega)]
        rcases c1 with c | c | ⟨c, c', c''⟩
        · omega
        · omega
        · exact hS.ntrans _ _ _ (sorted_le hS h.right (i := e) (j := j) h3 (by omega) i4) (hS.ntrans _ _ _ c'' (sorted_le hS h.left (i := i) (j := s - 1) i1 (by omega) (by omega)))
    · rw [g2 i (by omega) i2]
      by_cases hj : j < e
      · rw [g3 j i3 hj]
        rcases c2 with c | c | ⟨c, c', c''⟩
        · omega
        · omega
        · have e1 := sorted_le hS h.right (i := i + (m - s)) (j := e - 1) (by omega) (by omega) (by omega)
          have e2 := sorted_le hS h.left (i := s) (j := j - (e - m)) (by omega) (by omega) (by omega)
          exact swo_asymm hS (swo_lt_of_lt_le hS (swo_lt_of_le_lt hS e1 c'') e2)
      · rw [g4 j (by omega)]
        exact sorted_le hS h.right (by omega) (by omega) i4
theorem cut_skipL (h : Cut lt t a s mid e b d d1) (hn : ¬ (a < s ∧ s < mid)) : Merged lt a mid d1 d1 := by
  refine ⟨rfl, permIn_refl _ _ _, ?_⟩
  have := h.s1
  have := h.s2
  by_cases e : s = a
  · subst e; exact h.mrgL.right
  · obtain rfl : s = mid := by omega
    exact h.mrgL.left
theorem cut_skipR (h : Cut lt t a s mid e b d d1) (hn : ¬ (mid < e ∧ e < b)) (h2 : Merged lt a mid d1 d2) : Merged lt mid b d2 d2 := by
  refine ⟨rfl, permIn_refl _ _ _, ?_⟩
  have := h.e1
  have := h.e2
  have hsame : ∀ k, mid ≤ k → d2[k]! = d1[k]! := fun k hk => h2.2.1.2.1 k (.inr hk)
  intro i j i1 i2 i3
  rw [hsame i i1, hsame j (by omega)]
  by_cases c : e = mid
  · subst c; exact h.mrgR.right i j i1 i2 i3
  · obtain rfl : e = b := by omega
    exact h.mrgR.left i j i1 i2 i3
theorem cut_R (h : Cut lt t a s mid e b d d1) (h2 : Merged lt a mid d1 d2) : Mrg lt t mid e b d2 := by
  have hsame : ∀ k, mid ≤ k → d2[k]! = d1[k]! := fun k hk => h2.2.1.2.1 k (.inr hk)
  have := h.e1
  refine ⟨fun i j i1 i2 i3 => ?_, fun i j i1 i2 i3 => ?_, fun i j i1 i2 i3 i4 => ?_⟩
  · rw [hsame i i1, hsame j (by omega)]; exact h.mrgR.left i j i1 i2 i3
  · rw [hsame i (by omega), hsame j (by omega)]; exact h.mrgR.right i j i1 i2 i3
  · rw [hsame i i1, hsame j (by omega)]; exact h.mrgR.agree i j i1 i2 i3 i4
theorem cut_end (h : Cut lt t a s mid e b d d1) (hb : b ≤ d.size) (h2 : Merged lt a mid d1 d2) (h3 : Merged lt mid b d2 d3) : Merged lt a b d d3 := by
  obtain ⟨z2, p2, s2⟩ := h2
  obtain ⟨z3, p3, s3⟩ := h3
  have hs1 := h.s1; have hs2 := h.s2; have he1 := h.e1; have he2 := h.e2; have hz := h.size
  refine ⟨by omega, permIn_trans _ _ _ _ _ h.perm (permIn_trans _ _ _ _ _ (permIn_mono _ _ _ _ _ _ (Nat.le_refl _) (by omega) (by omega) p2) (permIn_mono _ _ _ _ _ _ (by omega) (Nat.le_refl _) (by omega) p3)), fun i j i1 i2 i3 => ?_⟩
  by_cases hj : j < mid
  · rw [p3.2.1 j (.inl hj), p3.2.1 i (.inl (by omega))]
    exact s2 i j i1 i2 hj
  · by_cases hi : i < mid
    · rw [p3.2.1 i (.inl hi)]
      refine permIn_all d2 d3 mid b (fun y => lt y d2[i]! = false) (by omega) p3 (fun k k1 k2 => ?_) j (by omega) i3
      rw [p2.2.1 k (.inr k1)]
      exact permIn_all d1 d2 a mid (fun x => lt d1[k]! x = false) (by omega) p2 (fun x x1 x2 => h.cross x k x1 x2 k1 k2) i i1 hi
    · exact s3 i j (by omega) i2 i3
end

/-! ### insertion by a test that tells what the order tells -/
theorem insInner_agree {lt t : α → α → Bool} (a : Nat) : ∀ (j : Nat) (d : Array α), j < d.size → (∀ i, a ≤ i → i < j → t d[j]! d[i]! = lt d[j]! d[i]!) → insInner t a j d = insInner lt a j d
  | 0, d, _, _ => rfl
  | j + 1, d, hs, h => by
    unfold insInner
    by_cases ha : j + 1 > a
    · rw [h j (by omega) (by omega)]
      cases lt d[j + 1]! d[j]!
      · simp
      · simp only [ha, decide_true, Bool.and_self, if_true]
        have g := swp_get d (i := j + 1) (j := j) hs (by omega)
        refine insInner_agree a j _ (by rw [size_swp]; omega) (fun i i1 i2 => ?_)
        rw [g, g, if_pos rfl, if_neg (by omega), if_neg (by omega)]
        exact h i i1 (by omega)
    · simp [ha]
theorem insInner_perm (lt : α → α → Bool) (a : Nat) : ∀ (j i : Nat) (d : Array α), a ≤ j → j ≤ i → i < d.size → PermIn a (i + 1) d (insInner lt a j d)
  | 0, i, d, _, _, _ => permIn_refl _ _ _
  | j + 1, i, d, h1, h2, hs => by
    unfold insInner
    split
    · rename_i hc
      have ha : j + 1 > a := by simp at hc; omega
      exact permIn_trans _ _ _ _ _ (swp_permIn _ _ _ _ _ h1 (by omega) (by omega) (by omega) (by omega)) (insInner_perm lt a j i _ (by omega) (by omega) (by rw [size_swp]; exact hs))
    · exact permIn_refl _ _ _
theorem insOuter_agree {lt t : α → α → Bool} (a b : Nat) : ∀ (n i : Nat) (d : Array α), b - i = n → a ≤ i → b ≤ d.size → (∀ j k, a ≤ j → j < k → i ≤ k → k < b → t d[k]! d[j]! = lt d[k]! d[j]!) → insOuter t a b i d = insOuter lt a b i d
  | 0, i, d, hn, _, _, _ => by
    unfold insOuter; rw [if_neg (by omega), if_neg (by omega)]
  | n + 1, i, d, hn, ha, hb, h => by
    unfold insOuter
    rw [if_pos (by omega), if_pos (by omega), insInner_agree a i d (by omega) (fun j j1 j2 => h j i j1 j2 (Nat.le_refl _) (by omega))]
    have hp := insInner_perm lt a i i d ha (Nat.le_refl _) (by omega)
    refine insOuter_agree a b n (i + 1) _ (by omega) (by omega) (by rw [hp.1]; exact hb) (fun j k j1 j2 j3 j4 => ?_)
    rw [hp.2.1 k (.inr (by omega))]
    by_cases hj : j < i + 1
    · exact permIn_all d _ a (i + 1) (fun y => t d[k]! y = lt d[k]! y) (by omega) hp (fun x x1 x2 => h x k x1 (by omega) (by omega) j4) j j1 hj
    · rw [hp.2.1 j (.inr (by omega))]
      exact h j k j1 j2 (by omega) j4
theorem insertion_merged {lt t : α → α → Bool} (hS : SWO lt) {a b : Nat} {d : Array α} (hab : a ≤ b) (hb : b ≤ d.size) (h : ∀ i j, a ≤ i → i < j → j < b → t d[j]! d[i]! = lt d[j]! d[i]!) : Merged lt a b d (insertionSort t d a b) := by
  have e : insertionSort t d a b = insertionSort lt d a b := by
    unfold insertionSort
    exact insOuter_agree a b _ (a + 1) d rfl (by omega) hb (fun j k j1 j2 j3 j4 => h j k j1 j2 j4)
  rw [e]
  have := insertionSort_holds (lt := lt) hS d a b hab hb
  exact ⟨this.1.1, this.1, this.2⟩

/-! ### runs that grow -/
/-- Runs of c are in order; of two that lie in different ones the test tells what the order tells. -/
structure Done (lt t : α → α → Bool) (c n : Nat) (d0 d : Array α) : Prop where
  size : d.size = d0.size
  perm : PermIn 0 n d0 d
  srt : ∀ i j, i < j → j < n → i / c = j / c → lt d[j]! d[i]! = false
  agr : ∀ i j, i < j → j < n → i / c ≠ j / c → t d[j]! d[i]! = lt d[j]! d[i]!
/-- Ahead of a runs of e, from there on runs of c. -/
structure Runs (lt t : α → α → Bool) (c e a n : Nat) (d0 d : Array α) : Prop where
  size : d.size = d0.size
  perm : PermIn 0 n d0 d
  done : ∀ i j, i < j → j < n → j < a → i / e = j / e → lt d[j]! d[i]! = false
  todo : ∀ i j, i < j → j < n → a ≤ i → i / c = j / c → lt d[j]! d[i]! = false
  agr1 : ∀ i j, i < j → j < n → i / e ≠ j / e → t d[j]! d[i]! = lt d[j]! d[i]!
  agr2 : ∀ i j, i < j → j < n → a ≤ i → i / c ≠ j / c → t d[j]! d[i]! = lt d[j]! d[i]!

theorem div_in {e q i : Nat} (he : 0 < e) (h1 : e * q ≤ i) (h2 : i < e * q + e) : i / e = q :=
  Nat.div_eq_of_lt_le (by rw [Nat.mul_comm]; exact h1) (by rw [Nat.add_mul, Nat.one_mul, Nat.mul_comm q e]; exact h2)
theorem div_below {e q i : Nat} (he : 0 < e) (h : i < e * q) : i / e < q := Nat.div_lt_of_lt_mul h
theorem div_above {e q i : Nat} (he : 0 < e) (h : e * q + e ≤ i) : q < i / e := by
  have : q + 1 ≤ i / e := (Nat.le_div_iff_mul_le he).2 (by rw [Nat.add_mul, Nat.one_mul, Nat.mul_comm q e]; exact h)
  omega

section
variable {lt t : α → α → Bool} {c e a n : Nat} {d0 d d' : Array α}
theorem done_start (h : ∀ i j, i < j → j < n → t d[j]! d[i]! = lt d[j]! d[i]!) : Done lt t 1 n d d :=
  ⟨rfl, permIn_refl _ _ _, fun i j h1 h2 h3 => by simp at h3; omega, fun i j h1 h2 _ => h i j h1 h2⟩
theorem Done.runs (h : Done lt t c n d0 d) (r : Nat) : Runs lt t c (c * r) 0 n d0 d :=
  ⟨h.size, h.perm, fun i j _ _ h3 => by omega, fun i j h1 h2 _ h4 => h.srt i j h1 h2 h4, fun i j h1 h2 h3 => h.agr i j h1 h2 (fun he => h3 (by rw [← Nat.div_div_eq_div_mul, ← Nat.div_div_eq_div_mul, he])), fun i j h1 h2 _ h4 => h.agr i j h1 h2 h4⟩
theorem Runs.fin (h : Runs lt t c e a n d0 d) {q : Nat} (hc : 0 < c) (he0 : 0 < e) (ha : a = e * q) (hn : n ≤ a + c) (he : e = c * 2 ∨ n ≤ a) : Done lt t e n d0 d := by
  refine ⟨h.size, h.perm, fun i j h1 h2 h3 => ?_, h.agr1⟩
  by_cases hj : j < a
  · exact h.done i j h1 h2 hj h3
  · rcases he with rfl | he
    · have hq : a = c * (2 * q) := by rw [ha, Nat.mul_assoc]
      by_cases hi : a ≤ i
      · refine h.todo i j h1 h2 hi ?_
        rw [div_in hc (q := 2 * q) (by omega) (by omega), div_in hc (q := 2 * q) (by omega) (by omega)]
      · have := div_below he0 (i := i) (q := q) (by omega)
        have := div_in he0 (i := j) (q := q) (by omega) (by omega)
        omega
    · omega
theorem Runs.mrg (h : Runs lt t c (c * 2) a n d0 d) {q b : Nat} (hc : 0 < c) (ha : a = c * 2 * q) (hb : b ≤ a + c * 2) (hcb : a + c ≤ b) (hn : b ≤ n) : Mrg lt t a (a + c) b d := by
  have hq : a = c * (2 * q) := by rw [ha, Nat.mul_assoc]
  have hq2 : a + c = c * (2 * q + 1) := by rw [Nat.mul_add, Nat.mul_one, ← hq]
  have d1 : ∀ i, a ≤ i → i < a + c → i / c = 2 * q := fun i i1 i2 => div_in hc (by omega) (by omega)
  have d2 : ∀ i, a + c ≤ i → i < b → i / c = 2 * q + 1 := fun i i1 i2 => div_in hc (by omega) (by omega)
  refine ⟨fun i j i1 i2 i3 => ?_, fun i j i1 i2 i3 => ?_, fun i j i1 i2 i3 i4 => ?_⟩
  · exact h.todo i j i2 (by omega) i1 (by rw [d1 i i1 (by omega), d1 j (by omega) i3])
  · exact h.todo i j i2 (by omega) (by omega) (by rw [d2 i i1 (by omega), d2 j (by omega) i3])
  · exact h.agr2 i j (by omega) (by omega) i1 (by rw [d1 i i1 i2, d2 j i3 i4]; omega)
theorem Runs.step (h : Runs lt t c e a n d0 d) {q b : Nat} (he : 0 < e) (hr : ∃ r, e = c * r) (ha : a = e * q) (hb : b = a + e ∨ (b = n ∧ n ≤ a + e)) (hab : a ≤ b) (hbn : b ≤ n) (hn : n ≤ d.size) (hm : Merged lt a b d d') : Runs lt t c e (a + e) n d0 d' := by
  obtain ⟨z, p, s⟩ := hm
  have o1 : ∀ k, k < a → d'[k]! = d[k]! := fun k hk => p.2.1 k (.inl hk)
  have o2 : ∀ k, b ≤ k → d'[k]! = d[k]! := fun k hk => p.2.1 k (.inr hk)
  have all : ∀ (P : α → Prop), (∀ k, a ≤ k → k < b → P d[k]!) → ∀ k, a ≤ k → k < b → P d'[k]! := fun P => permIn_all d d' a b P (by omega) p
  refine ⟨z.trans h.size, permIn_trans _ _ _ _ _ h.perm (permIn_mono _ _ _ _ _ _ (Nat.zero_le _) hbn (by omega) p), fun i j h1 h2 h3 h4 => ?_, fun i j h1 h2 h3 h4 => ?_, fun i j h1 h2 h3 => ?_, fun i j h1 h2 h3 h4 => ?_⟩
  · by_cases hj : j < a
    · rw [o1 j hj, o1 i (by omega)]; exact h.done i j h1 h2 hj h4
    · have hi : a ≤ i := by
        rcases Nat.lt_or_ge i a with hi | hi
        · have := div_below he (i := i) (q := q) (by omega)
          have := div_in he (i := j) (q := q) (by omega) (by omega)
          omega
        · exact hi
      exact s i j hi h1 (by omega)
  · rw [o2 j (by omega), o2 i (by omega)]; exact h.todo i j h1 h2 (by omega) h4
  · by_cases hi : a ≤ i ∧ i < b
    · have hdi := div_in he (i := i) (q := q) (by omega) (by omega)
      have hj : b ≤ j := by
        rcases Nat.lt_or_ge j b with hj | hj
        · have := div_in he (i := j) (q := q) (by omega) (by omega); omega
        · exact hj
      rw [o2 j hj]
      refine all (fun y => t d[j]! y = lt d[j]! y) (fun k k1 k2 => ?_) i hi.1 hi.2
      have := div_in he (i := k) (q := q) (by omega) (by omega)
      exact h.agr1 k j (by omega) h2 (by omega)
    · have ei : d'[i]! = d[i]! := by
        rcases Nat.lt_or_ge i a with hi2 | hi2
        · exact o1 i hi2
        · exact o2 i (by omega)
      rw [ei]
      by_cases hj : a ≤ j ∧ j < b
      · have hdj := div_in he (i := j) (q := q) (by omega) (by omega)
        have hia : i < a := by omega
        refine all (fun y => t y d[i]! = lt y d[i]!) (fun k k1 k2 => ?_) j hj.1 hj.2
        have := div_in he (i := k) (q := q) (by omega) (by omega)
        exact h.agr1 i k (by omega) (by omega) (by omega)
      · have ej : d'[j]! = d[j]! := by
          rcases Nat.lt_or_ge j a with hj2 | hj2
          · exact o1 j hj2
          · exact o2 j (by omega)
        rw [ej]
        exact h.agr1 i j h1 h2 h3
  · rw [o2 j (by omega), o2 i (by omega)]; exact h.agr2 i j h1 h2 (by omega) h4
theorem Done.whole (h : Done lt t c n d0 d) (hn : n ≤ c) : SortedIn lt 0 n d := fun i j _ h1 h2 =>
  h.srt i j h1 h2 (by rw [Nat.div_eq_of_lt (by omega), Nat.div_eq_of_lt (by omega)])
end
end Go.Proofs.YtepkmgmooadbjaaGreat
end
section
/- What a walk through the stable sort leans on at this translation; ranges that change places (swapRangeCmpFunc), rows that are turned (rotateCmpFunc). -/
namespace Go.Proofs.YtepkmgmooadbjaaGreat
open Go.ChangeShapes Go.WideShapes Go.ChangeAt Go.RowKit Go.Shelf Go.Lib Go.Sort Go.Proofs
set_option linter.unusedVariables false
variable {α : Type} [Inhabited α]

set_option maxHeartbeats 4000000 in
set_option maxRecDepth 1000000 in
theorem swapRange_any (k : Nat) (aE : ∀ w, (isAgg 37).run Tryz.prog w = .ok true w) (zE : ∀ w, (Go.sizeOf 37).run Tryz.prog w = .ok k w) (enc : α → List Value) (g : Nat) (cb : Array Value) (blk off cap a b n : Nat) (d0 d : Array α) (w0 w : World)
    (R : RowK enc k w0 blk off d0) (hs : d.size = d0.size) (S : SWK enc k w0 blk off d w) (hab : a + n ≤ b) (hb : b + n ≤ d.size) (hsz : d.size < 1152921504606846976) :
    Calls Tryz.prog 108 #[.slice (some ⟨blk, off, none⟩) d.size cap, .int .i64 a, .int .i64 b, .int .i64 n, .func (.func g) #[] cb] w fun e w' =>
      e = .returned (.tuple #[]) ∧ ∃ d', SWK enc k w0 blk off d' w' ∧ Swapped d a b n d' ∧ PermIn a (b + n) d d' := by
  have mixed : Tryz.prog.follows .mixedOrders = true := by kernel_rfl
  have S0 : Hid (SWK enc k w0 blk off d w) := Lib.hid S
  clear S
  go_enter Tryz.func108, Tryz.ntmps108
  go_wp2
  go_loopg [10] n (fun kx s10 wr => ∃ (i : Nat) (dk : Array α), s10 = .int .i64 i ∧ i ≤ n ∧ n - i ≤ kx ∧ Hid (SWK enc k w0 blk off dk wr) ∧ Hid (Swapped d a b i dk) ∧ Hid (PermIn a (b + n) d dk))
  case atStart => exact ⟨0, d, rfl, Nat.zero_le _, by omega, S0, Lib.hid (swapped_start _ _ _), Lib.hid (permIn_refl _ _ _)⟩
  case round =>
    clear S0
    obtain ⟨i, dk, rfl, hi, hkx, S1, HSw, HP⟩ := hrel
    by_cases hlt : i < n
    · have hds : Hid (dk.size = d.size) := Lib.hid HSw.out.1
      have hz := hds.out
      have ea : ((a : Int) + (i : Int)).toNat = a + i := by omega
      have pa : (0 : Int) ≤ (a : Int) + (i : Int) := by omega
      have ba : (a : Int) + (i : Int) < (d.size : Int) := by omega
      have ra : IntKind.i64.wrap ((a : Int) + (i : Int)) = (a : Int) + (i : Int) := by rw [IntKind.wrap_i64]; omega
      have ec : ((b : Int) + (i : Int)).toNat = b + i := by omega
      have pc : (0 : Int) ≤ (b : Int) + (i : Int) := by omega
      have bc : (b : Int) + (i : Int) < (d.size : Int) := by omega
      have rc : IntKind.i64.wrap ((b : Int) + (i : Int)) = (b : Int) + (i : Int) := by rw [IntKind.wrap_i64]; omega
      have S2 : Hid (SWK enc k w0 blk off (swp dk (a + i) (b + i)) ((wr.drew.setCells blk (off + (a + i) * k) (enc dk[b + i]!)).setCells blk (off + (b + i) * k) (enc dk[a + i]!))) := Lib.hid (S1.out.swapped R (a + i) (b + i) (by omega) (by omega))
      have la := S1.out.ld1 R (by omega) Tryz.prog (a + i) (by omega)
      have lb := S1.out.ld1 R (by omega) Tryz.prog (b + i) (by omega)
      have sa := S1.out.st1 R (by omega) Tryz.prog (a + i) (by omega) dk[b + i]!
      have sb := S1.out.st2 R (by omega) Tryz.prog (a + i) (b + i) (by omega) (by omega) dk[b + i]! dk[a + i]!
      have na : (enc dk[a + i]!).length = k := R.hk _
      have nb : (enc dk[b + i]!).length = k := R.hk _
      generalize enc dk[a + i]! = cI at S2 la sb na
      generalize enc dk[b + i]! = cJ at S2 lb sa sb nb
      clear S1 hz
      go_wp2_with fail
      go_big_region_o
      clear la lb sa sb
      generalize (wr.drew.setCells blk (off + (a + i) * k) cJ).setCells blk (off + (b + i) * k) cI = w2 at S2 ⊢
      go_wp2
      go_roundg (n - (i + 1))
      case measure => omega
      case rel =>
        exact ⟨i + 1, swp dk (a + i) (b + i), by go_num, by omega, Nat.le_refl _, S2, Lib.hid (HSw.out.step (by omega) (by omega)), Lib.hid (permIn_trans _ _ _ _ _ HP.out (swp_permIn _ _ _ _ _ (by omega) (by omega) (by omega) (by omega) (by have := hds.out; omega)))⟩
    · obtain rfl : i = n := by omega
      go_wp2
      go_end0
      exact ⟨rfl, dk, S1.out, HSw.out, HP.out⟩
end Go.Proofs.YtepkmgmooadbjaaGreat
end
