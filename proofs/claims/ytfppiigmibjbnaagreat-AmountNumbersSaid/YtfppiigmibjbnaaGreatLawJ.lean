/- The law AmountJoins; the walk. -/
import Derived.Test.YtfppiigmibjbnaaGreatApart2
import Derived.Test.YtfppiigmibjbnaaGreatGreat
import Derived.Test.YtfppiigmibjbnaaGreatOverP
import Derived.Deep.QuietTactic
import Derived.BigQuiet
import Derived.Deep.RegionWith
import Derived.Deep.DeepCutAuto
namespace Go.Proofs.YtfppiigmibjbnaaGreat
open Go.ChangeShapes Go.WideShapes Go.ChangeAt Go.RowKit Go.Maps
set_option linter.unusedVariables false

theorem flat3 (a b c : List Pt) : [a, b, c].flatten = a ++ (b ++ c) := by simp

set_option maxRecDepth 100000 in
set_option maxHeartbeats 4000000 in
theorem joins_any (A1 A2 A3 : Option Addr) (c1 c2 c3 : Nat) (l1 l2 l3 : List Pt) (w : World) (h1 : PSl w w.heap.size (.slice A1 l1.length c1) l1) (h2 : PSl w w.heap.size (.slice A2 l2.length c2) l2) (h3 : PSl w w.heap.size (.slice A3 l3.length c3) l3) (hs : Sized (l1 ++ (l2 ++ l3)))
    (g1 : l1.length ≤ 140737488355328) (g2 : l2.length ≤ 140737488355328) (g3 : l3.length ≤ 140737488355328) :
    Calls Tryz.prog 3 #[.slice A1 l1.length c1, .slice A2 l2.length c2, .slice A3 l3.length c3] w fun e w' => e = .returned (.bool true) ∧ Below w.heap.size w w' := by
  have HS : Hid (Sized (l1 ++ (l2 ++ l3))) := Lib.hid hs
  have V1 := Lib.hid h1
  have V2 := Lib.hid h2
  have V3 := Lib.hid h3
  clear hs h1 h2 h3
  go_enter Tryz.func3, Tryz.ntmps3
  go_wp2_with (first
    | (go_at_call 6; ((with_reducible refine (awake_any _).mono ?_); rintro e w1 ⟨rfl, hb1⟩))
    | (go_at_call 5; fail))
  refine (great_n (n := 3) (c := 3) (ls := [l1, l2, l3]) rfl (rows3 w _ _ _ l1 l2 l3 22 V1.out V2.out V3.out) (by rw [flat3]; exact HS.out) (by simp) (by intro l hl; simp at hl; rcases hl with rfl | rfl | rfl <;> assumption)).mono ?_
  rintro e wa ⟨b, rfl, hwe, hfew⟩
  have hb0 : Below w.heap.size w wa := by rw [← hwe]; exact (Below.refl _ w).alloc (Nat.le_refl _) _
  clear hwe
  cases b
  · have hl300 : (l1 ++ (l2 ++ l3)).length ≤ 300 := by have := (hfew rfl).1; rwa [flat3] at this
    obtain ⟨b, out, hans⟩ := ans_ex (l1 ++ (l2 ++ l3))
    have HANS := Lib.hid hans
    have hol : out.length ≤ 300 := by have := hans.len; omega
    have hl4 := hl300
    simp only [List.length_append] at hl300
    clear hfew g1 g2 g3 hans
    have n0 := hb0.size
    go_wp2_with (first
      | (go_at_call 7; ((with_reducible refine (lentp_any (.slice A1 l1.length c1) l1 w.heap.size _ (V1.out.below hb0) hb0.size (by omega)).mono ?_); rintro e wx ⟨rfl, hbx, hox⟩; have hb1 : Hid (Below w.heap.size w wx) := Lib.hid (hb0.trans (hbx.mono hb0.size)); have X1 : Hid (LentAt wx wa.heap.size l1) := Lib.hid hox; have n1 := X1.out.block; clear hbx hox))
      | (go_at_call 7; ((with_reducible refine (lentp_any (.slice A2 l2.length c2) l2 w.heap.size _ (V2.out.below hb1.out) hb1.out.size (by omega)).mono ?_); rintro e wy ⟨rfl, hbx, hox⟩; have hb2 : Hid (Below w.heap.size w wy) := Lib.hid (hb1.out.trans (hbx.mono hb1.out.size)); have X2 : Hid (LentAt wy wa.heap.size l1) := Lib.hid (X1.out.still (below_none0 hbx)); have Y2 : Hid (LentAt wy wx.heap.size l2) := Lib.hid hox; have n2 := Y2.out.block; clear hbx hox))
      | (go_at_call 7; ((with_reducible refine (lentp_any (.slice A3 l3.length c3) l3 w.heap.size _ (V3.out.below hb2.out) hb2.out.size (by omega)).mono ?_); rintro e wz ⟨rfl, hbx, hox⟩; have hb3 : Hid (Below w.heap.size w wz) := Lib.hid (hb2.out.trans (hbx.mono hb2.out.size)); have X3 : Hid (LentAt wz wa.heap.size l1) := Lib.hid (X2.out.still (below_none0 hbx)); have Y3 : Hid (LentAt wz wx.heap.size l2) := Lib.hid (Y2.out.still (below_none0 hbx)); have Z3 : Hid (LentAt wz wy.heap.size l3) := Lib.hid hox; have n3 := Z3.out.block; clear hbx hox))
      | (go_at_call 8; ((with_reducible refine (join3_own l1 l2 l3 HANS.out _ rfl X3.out.psl Y3.out.psl Z3.out.psl HS.out (by omega)).mono ?_); rintro e w4 ⟨v4, rfl, hox, hbx⟩; obtain ⟨P4, p4, rfl, q1, q2, q3⟩ := own_form hox; clear q1 q2 q3; have hb4 : Hid (Below w.heap.size w w4) := Lib.hid (hb3.out.trans (hbx.mono hb3.out.size)); have X4 := Lib.hid (X3.out.still (below_none0 hbx)); have Y4 := Lib.hid (Y3.out.still (below_none0 hbx)); have Z4 := Lib.hid (Z3.out.still (below_none0 hbx)); have L4 := Lib.hid hox; have t4 : Hid (∀ b, (Value.slice P4 out.length p4).ownBlock = some b → b < w4.heap.size) := Lib.hid (fun b hb => (hox.lt b hb).2); have s4 := hbx.size; clear hbx hox))
      | (go_at_call 8; ((with_reducible refine (join3_own l1 l2 l3 HANS.out _ rfl X4.out.psl Y4.out.psl Z4.out.psl HS.out (by omega)).mono ?_); rintro e w5 ⟨v5, rfl, hox, hbx⟩; obtain ⟨P5, p5, rfl, q1, q2, q3⟩ := own_form hox; clear q1 q2 q3; have hb5 : Hid (Below w.heap.size w w5) := Lib.hid (hb4.out.trans (hbx.mono hb4.out.size)); have X5 := Lib.hid (X4.out.still (below_none0 hbx)); have Y5 := Lib.hid (Y4.out.still (below_none0 hbx)); have Z5 := Lib.hid (Z4.out.still (below_none0 hbx)); have L5 := Lib.hid (own_stay L4.out (below_none0 hbx)); have M5 := Lib.hid hox; clear hbx hox))
      | (go_at_call 9; ((with_reducible refine (keptp_any (.slice A1 l1.length c1) l1 w5.heap.size wa.heap.size _ ((V1.out.below hb5.out).mono hb5.out.size) (X5.out.lies X5.out.block) (Nat.le_refl _) (by omega)).mono ?_); rintro e w6 ⟨rfl, hbx⟩; have hb6 : Hid (Below w.heap.size w w6) := Lib.hid (hb5.out.trans (hbx.mono hb5.out.size)); have X6 := Lib.hid (X5.out.still (below_none0 hbx)); have Y6 := Lib.hid (Y5.out.still (below_none0 hbx)); have Z6 := Lib.hid (Z5.out.still (below_none0 hbx)); have L6 := Lib.hid (own_stay L5.out (below_none0 hbx)); have M6 := Lib.hid (own_stay M5.out (below_none0 hbx)); clear hbx))
      | (go_at_call 9; ((with_reducible refine (keptp_any (.slice A2 l2.length c2) l2 w6.heap.size wx.heap.size _ ((V2.out.below hb6.out).mono hb6.out.size) (Y6.out.lies Y6.out.block) (Nat.le_refl _) (by omega)).mono ?_); rintro e w7 ⟨rfl, hbx⟩; have hb7 : Hid (Below w.heap.size w w7) := Lib.hid (hb6.out.trans (hbx.mono hb6.out.size)); have X7 := Lib.hid (X6.out.still (below_none0 hbx)); have Y7 := Lib.hid (Y6.out.still (below_none0 hbx)); have Z7 := Lib.hid (Z6.out.still (below_none0 hbx)); have L7 := Lib.hid (own_stay L6.out (below_none0 hbx)); have M7 := Lib.hid (own_stay M6.out (below_none0 hbx)); clear hbx))
      | (go_at_call 9; ((with_reducible refine (keptp_any (.slice A3 l3.length c3) l3 w7.heap.size wy.heap.size _ ((V3.out.below hb7.out).mono hb7.out.size) (Z7.out.lies Z7.out.block) (Nat.le_refl _) (by omega)).mono ?_); rintro e w8 ⟨rfl, hbx⟩; have hb8 : Hid (Below w.heap.size w w8) := Lib.hid (hb7.out.trans (hbx.mono hb7.out.size)); have X8 := Lib.hid (X7.out.still (below_none0 hbx)); have Y8 := Lib.hid (Y7.out.still (below_none0 hbx)); have Z8 := Lib.hid (Z7.out.still (below_none0 hbx)); have L8 := Lib.hid (own_stay L7.out (below_none0 hbx)); have M8 := Lib.hid (own_stay M7.out (below_none0 hbx)); clear hbx))
      | (go_at_call 10; ((with_reducible refine (overp_any l1.length wa.heap.size _ _ _ X8.out.row (by omega)).mono ?_); rintro e w9 ⟨rfl, hbg⟩; have hb9 : Hid (Below w.heap.size w w9) := Lib.hid (below_over hb8.out hbg (by omega)); have Y9 := Lib.hid (Y8.out.over hbg (by omega)); have Z9 := Lib.hid (Z8.out.over hbg (by omega)); have L9 := Lib.hid (own_over L8.out hbg (by omega)); have M9 := Lib.hid (own_over M8.out hbg (by omega)); clear hbg))
      | (go_at_call 10; ((with_reducible refine (overp_any l2.length wx.heap.size _ _ _ Y9.out.row (by omega)).mono ?_); rintro e w10 ⟨rfl, hbg⟩; have hb10 : Hid (Below w.heap.size w w10) := Lib.hid (below_over hb9.out hbg (by omega)); have Z10 := Lib.hid (Z9.out.over hbg (by omega)); have L10 := Lib.hid (own_over L9.out hbg (by omega)); have M10 := Lib.hid (own_over M9.out hbg (by omega)); clear hbg))
      | (go_at_call 10; ((with_reducible refine (overp_any l3.length wy.heap.size _ _ _ Z10.out.row (by omega)).mono ?_); rintro e w11 ⟨rfl, hbg⟩; have hb11 : Hid (Below w.heap.size w w11) := Lib.hid (below_over hb10.out hbg (by omega)); have L11 := Lib.hid (own_over L10.out hbg (by omega)); have M11 := Lib.hid (own_over M10.out hbg (by omega)); clear hbg))
      | (go_at_call 11; ((with_reducible refine (rjoin3_own l1 l2 l3 HANS.out _ rfl ((V1.out.below hb11.out).mono hb11.out.size) ((V2.out.below hb11.out).mono hb11.out.size) ((V3.out.below hb11.out).mono hb11.out.size) HS.out (by omega)).mono ?_); rintro e w12 ⟨v12, rfl, hox, hbx⟩; have hb12 : Hid (Below w.heap.size w w12) := Lib.hid (hb11.out.trans (hbx.mono hb11.out.size)); have L12 := Lib.hid (own_stay L11.out (below_none0 hbx)); have M12 := Lib.hid (own_stay M11.out (below_none0 hbx)); have W12 := Lib.hid hox; clear hbx hox))
      | (go_at_call 12; ((with_reducible refine (same_yes out _ _ _ (PSl.own L12.out) (PSl.own W12.out) (by omega)).mono ?_); rintro e w13 ⟨rfl, hbx⟩; have hb13 : Hid (Below w.heap.size w w13) := Lib.hid (hb12.out.trans (hbx.mono hb12.out.size)); have L13 := Lib.hid (own_stay L12.out (below_none0 hbx)); have M13 := Lib.hid (own_stay M12.out (below_none0 hbx)); have W13 := Lib.hid (own_stay W12.out (below_none0 hbx)); clear hbx))
      | (go_at_call 12; ((with_reducible refine (same_yes out _ _ _ (PSl.own M13.out) (PSl.own W13.out) (by omega)).mono ?_); rintro e w14 ⟨rfl, hbx⟩; have hb14 : Hid (Below w.heap.size w w14) := Lib.hid (hb13.out.trans (hbx.mono hb13.out.size)); have L14 := Lib.hid (own_stay L13.out (below_none0 hbx)); have M14 := Lib.hid (own_stay M13.out (below_none0 hbx)); clear hbx))
      | (go_at_call 13; ((with_reducible refine (apart2 (B0 := w.heap.size) _ rfl L14.out M14.out (fun b hb => by have := t4.out b hb; omega) (by omega) (by omega) hb14.out.size (by omega)).mono ?_); rintro e w15 ⟨rfl, hbx⟩; have hb15 : Hid (Below w.heap.size w w15) := Lib.hid (hb14.out.trans hbx); clear hbx))
      | (go_at_call 6; ((with_reducible refine (awake_any _).mono ?_); rintro e w16 ⟨rfl, hbx⟩; have hb16 : Hid (Below w.heap.size w w16) := Lib.hid (hb15.out.trans (hbx.mono hb15.out.size)); clear hbx)))
    go_ret
    exact ⟨rfl, hb16.out⟩
  · go_wp2_with (go_at_call 6; ((with_reducible refine (awake_any _).mono ?_); rintro e w1 ⟨rfl, hbx⟩))
    go_ret
    exact ⟨rfl, hb0.trans (hbx.mono hb0.size)⟩
end Go.Proofs.YtfppiigmibjbnaaGreat
