/- The chapter's example, awake. -/
import Derived.Test.YtdmgnafafafdpaaLAwake
namespace Go.Proofs.Ytdmgnafafafdpaa
open Go.ChangeShapes Go.WideShapes Go.ChangeAt Go.RowKit
set_option linter.unusedVariables false

theorem ex_cells {w : World} {B g cap : Nat} (h : LSl w B (.slice (some ⟨g, 0, none⟩) 3 cap) exS) :
    w.cell? ⟨g, 0, none⟩ = some (.int .i64 2) ∧ w.cell? ⟨g, 1, none⟩ = some (.string ⟨#[65]⟩) ∧ w.cell? ⟨g, 2, none⟩ = some (.int .i64 3) ∧ w.cell? ⟨g, 3, none⟩ = some (.int .i64 6) ∧ w.cell? ⟨g, 4, none⟩ = some (.int .i64 4) ∧ w.cell? ⟨g, 5, none⟩ = some (.bool false) ∧
    w.cell? ⟨g, 6, none⟩ = some (.int .i64 3) ∧ w.cell? ⟨g, 12, none⟩ = some (.int .i64 1) := by
  obtain ⟨A, c, hv, _, _, _, hl⟩ := h
  injection hv with hA
  subst hA
  have g0 : ∀ (j : Nat) (u : Value), (lcells exS)[j]? = some u → w.cell? ⟨g, j, none⟩ = some u := fun j u hu => by
    obtain ⟨ad, had, _, hc⟩ := hl.get hu
    cases had
    rwa [addr0] at hc
  exact ⟨g0 0 _ rfl, g0 1 _ rfl, g0 2 _ rfl, g0 3 _ rfl, g0 4 _ rfl, g0 5 _ rfl, g0 6 _ rfl, g0 12 _ rfl⟩

theorem ex_cap {w : World} {B g cap : Nat} (h : LSl w B (.slice (some ⟨g, 0, none⟩) 3 cap) exS) : 3 ≤ cap := by
  obtain ⟨A, c, hv, hc, _⟩ := h
  injection hv with _ _ e
  subst e
  exact hc
set_option maxRecDepth 100000 in
set_option maxHeartbeats 2000000 in
theorem awake_any (w : World) : Calls Try.prog 10 #[] w fun e w' => e = .returned (.bool true) ∧ Below w.heap.size w w' := by
  go_enter Try.func10, Try.ntmps10
  go_wp2_with (first
    | (go_at_call 24; ((with_reducible refine (three_any _).mono ?_); rintro e w1 ⟨rfl, rfl⟩))
    | (go_at_call 12; ((with_reducible refine (sort_ex _).mono ?_); rintro e w2 ⟨g, cap, rfl, hs, hb2⟩; have HS := Lib.hid hs; have HB2 := Lib.hid hb2; have hcap := ex_cap hs; clear hs hb2))
    | (go_at_call 15; ((with_reducible refine (sweep_ex _).mono ?_); rintro e w3 ⟨A1, c1, g3, cap3, rfl, hg3, hb3⟩; have HB3 := Lib.hid (below_two HB2.out hb3); have HS3 := Lib.hid (HS.out.at_ hb3); obtain ⟨x0, x1, x2, x3, x4, x5, x6, x7⟩ := ex_cells HS3.out; clear hb3))
    | (go_at_call 16; (first
        | ((with_reducible refine (on_ex4 _).mono ?_); rintro e w4 ⟨rfl, hb4⟩; have HB4 := Lib.hid (below_two HB3.out hb4); have HS4 := Lib.hid (HS3.out.at_ hb4); clear hb4)
        | ((with_reducible refine (on_ex9 _).mono ?_); rintro e w5 ⟨rfl, hb5⟩; have HB5 := Lib.hid (below_two HB4.out hb5); have HS5 := Lib.hid (HS4.out.at_ hb5); obtain ⟨y0, y1, y2, y3, y4, y5, y6, y7⟩ := ex_cells HS5.out; clear hb5)))
    | (go_at_call 6; (first
        | ((with_reducible refine (right_ex _).mono ?_); rintro e w6 ⟨rfl, hb6⟩; have HB6 := Lib.hid (below_two HB5.out hb6); have HS6 := Lib.hid (HS5.out.at_ hb6); clear hb6)
        | ((with_reducible refine (right_ex0 _).mono ?_); rintro e w7 ⟨rfl, hb7⟩; have HB7 := Lib.hid (below_two HB6.out hb7); have HS7 := Lib.hid (HS6.out.at_ hb7); clear hb7)))
    | (go_at_call 18; ((with_reducible refine (of_ex _ _ _ HS7.out).mono ?_); rintro e w8 ⟨A8, c8, rfl, hb8⟩; have HB8 := Lib.hid (below_two HB7.out hb8); clear hb8)))
  go_ret
  exact ⟨rfl, HB8.out⟩
end Go.Proofs.Ytdmgnafafafdpaa
