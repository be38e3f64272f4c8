/- For any three numbers the law AmountOrder returns true, and the numbers read as before. No condition. -/
import Derived.Test.YtmjhldagmmpnjaaOrder
namespace Go.Proofs.Ytmjhldagmmpnjaa
open Go.ChangeShapes Go.WideShapes Go.ChangeAt Go.RowKit Go.Maps
set_option linter.unusedVariables false

theorem tells_add (a b : Int) : Tells 7 a b (addV a b) (addB a b) := fun w => add_any a b w
theorem tells_times (a b : Int) : Tells 9 a b (timesV a b) (timesB a b) := fun w => times_any a b w
theorem tells_sum (a b c : Int) : Tells3 a b c (allV a b c) (allB a b c) := fun w => sum3_call a b c w
theorem tells_right {n : Int} (h : rightB n = true) : TellsB n := fun w => right_yes n w h

theorem order_any (a b c : Int) (w : World) : Calls Try.prog 5 #[.int .i64 a, .int .i64 b, .int .i64 c] w fun e w' => e = .returned (.bool true) ∧ Below w.heap.size w w' := by
  have H1 := tells_add a b
  have H2 := tells_add b a
  rw [addV_comm, addB_comm] at H2
  have H3 := tells_times a b
  have H4 := tells_times b a
  rw [timesV_comm, timesB_comm] at H4
  have H5 := tells_sum a b c
  have H6 := tells_sum c a b
  rw [allV_turn, allB_turn] at H6
  have H7 := tells_add (addV a b) c
  have H8 := tells_add b c
  have H9 := tells_add a (addV b c)
  have H10 := tells_times a (addV b c)
  have H11 := tells_times a c
  have H12 := tells_add (timesV a b) (timesV a c)
  have hd := dis_holds a b c
  rcases mid_holds a b c with ⟨e1, e2, e3, e4, e5, e6, e7⟩ | ⟨e1, e2, e3, e4, e5⟩ | ⟨e1, e2, e3, e4⟩ | ⟨e1, e2, e3, e4⟩ | ⟨e1, e2, e3⟩
  · obtain ⟨r1, r2, r3, r4, r5⟩ := all_right e1
    rw [e2] at H1 H2
    rw [e1] at H5 H6
    rw [e4, e6] at H7
    rw [e5, e7] at H9
    rw [e3] at H8
    exact order_all a b c _ _ _ _ _ _ _ _ _ _ _ w (Lib.hid H1) (Lib.hid H2) (Lib.hid H3) (Lib.hid H4) (Lib.hid H5) (Lib.hid H6) (Lib.hid H7) (Lib.hid H8) (Lib.hid H9) (Lib.hid H10) (Lib.hid H11) (Lib.hid H12) (hd e3)
      (Lib.hid (tells_right r1)) (Lib.hid (tells_right r2)) (Lib.hid (tells_right r3)) (Lib.hid (tells_right r4)) r5
  all_goals
    rw [e1] at H5 H6
  · exact order_part a b c _ _ _ _ _ _ _ _ _ _ _ _ _ _ _ _ _ w (Lib.hid H1) (Lib.hid H2) (Lib.hid H3) (Lib.hid H4) (Lib.hid H5) (Lib.hid H6) (Lib.hid H7) (Lib.hid H8) (Lib.hid H9) (Lib.hid H10) (Lib.hid H11) (Lib.hid H12) (.inl ⟨e4, e5, hd e4⟩) (.inl ⟨e2, e3⟩)
  · exact order_part a b c _ _ _ _ _ _ _ _ _ _ _ _ _ _ _ _ _ w (Lib.hid H1) (Lib.hid H2) (Lib.hid H3) (Lib.hid H4) (Lib.hid H5) (Lib.hid H6) (Lib.hid H7) (Lib.hid H8) (Lib.hid H9) (Lib.hid H10) (Lib.hid H11) (Lib.hid H12) (.inr e4) (.inl ⟨e2, e3⟩)
  · exact order_part a b c _ _ _ _ _ _ _ _ _ _ _ _ _ _ _ _ _ w (Lib.hid H1) (Lib.hid H2) (Lib.hid H3) (Lib.hid H4) (Lib.hid H5) (Lib.hid H6) (Lib.hid H7) (Lib.hid H8) (Lib.hid H9) (Lib.hid H10) (Lib.hid H11) (Lib.hid H12) (.inl ⟨e3, e4, hd e3⟩) (.inr e2)
  · exact order_part a b c _ _ _ _ _ _ _ _ _ _ _ _ _ _ _ _ _ w (Lib.hid H1) (Lib.hid H2) (Lib.hid H3) (Lib.hid H4) (Lib.hid H5) (Lib.hid H6) (Lib.hid H7) (Lib.hid H8) (Lib.hid H9) (Lib.hid H10) (Lib.hid H11) (Lib.hid H12) (.inr e3) (.inr e2)

namespace Order
set_option maxRecDepth 100000 in
theorem lifted (os : Os) (started : os.Started) (H : Type) (enc : TypeId × Value → H) :
    ReturnsInHanded {} Try.checked os 5 .any (Rows.amountOrderSpec.pre6 enc Try.prog Try.f5 Rows.amountOrderRow.domain false) (Rows.amountOrderSpec.post enc Try.prog Try.f5 false true false false) := by
  refine returnsInHanded_of_change (C := Try.checked) own_knob started (by kernel_rfl) Try.func5
    (ChangeSpec.witness6 (enc := enc) (C := Try.checked) false ⟨#[], #[.int .i64 0, .int .i64 0, .int .i64 0], []⟩ 8 (by kernel_rfl) (by kernel_rfl) (by kernel_rfl) (by kernel_rfl)) ?_
  intro W base args ds gs before hval0 hW hcnd _
  have hval : ∀ (j : Nat) t v, Try.f5.params[j]? = some t → args[j]? = some v → Value.okWide Try.prog W .any base t v := hval0
  have hW' := hW
  obtain ⟨p, q, hA0, hV, rfl, hfz, hnd⟩ := hW
  have hA : DataW.TrodAll enc Try.prog W 0 (fun _ => true) true Try.f5.params.toList args.toList ds p := hA0
  rw [Try.params5] at hA hval
  obtain ⟨v0, vs0, d0, ds0, p0, q0, hargs, rfl, rfl, h0, r0⟩ := trodAll_cons hA
  obtain ⟨v1, vs1, d1, ds1, p1, q1, rfl, rfl, rfl, h1, r1⟩ := trodAll_cons r0
  obtain ⟨v2, vs2, d2, ds2, p2, q2, rfl, rfl, rfl, h2, r2⟩ := trodAll_cons r1
  obtain ⟨rfl, rfl, rfl⟩ := trodAll_nil r2
  obtain rfl : args = #[v0, v1, v2] := by cases args; simp_all
  obtain ⟨rfl, rfl⟩ := trodVars_none hV
  obtain ⟨a0, rfl, rfl, rfl, w0⟩ := open_int Try.underlying2 (hval 0 2 v0 rfl rfl) h0
  obtain ⟨a1, rfl, rfl, rfl, w1⟩ := open_int Try.underlying2 (hval 1 2 v1 rfl rfl) h1
  obtain ⟨a2, rfl, rfl, rfl, w2⟩ := open_int Try.underlying2 (hval 2 2 v2 rfl rfl) h2
  clear hA0 hval0
  simp only [List.append_nil] at hW'
  refine (order_any a0 a1 a2 W).mono fun e W' ⟨he, hb⟩ => ?_
  subst he
  exact ⟨_, rfl, post_below (pa := []) (pv := []) hW' (fun _ _ _ => (trodAll_cons_mk (shut_bool Try.underlying4 _) trodAll_mk0)) (trodAll_cons_mk (shut_int Try.underlying2 w0) (trodAll_cons_mk (shut_int Try.underlying2 w1) (trodAll_cons_mk (shut_int Try.underlying2 w2) trodAll_mk0))) rfl hb⟩
end Order

theorem order_over : Rows.amountOrderRow.holds Try.pinned (OpenSpec.ofChange Rows.amountOrderSpec) :=
  OpenClaim.holds_of_wide 5 Try.f5 rfl rfl rfl rfl rfl rfl rfl ⟨rfl, rfl, rfl, rfl, rfl⟩ rfl rfl rfl rfl rfl (by kernel_rfl) Try.func5 (by kernel_rfl)
    (of_decide_eq_true (by kernel_rfl)) (by unfold Func.isWrapper; first | (rw [if_pos (by decide +kernel)]; kernel_rfl) | (rw [if_neg (by decide +kernel)]; exact ⟨rfl, rfl⟩))
    (fun os started H enc _ => Order.lifted os started H enc)

theorem amount_order : Rows.AmountOrderSaid := order_over
#print axioms amount_order
end Go.Proofs.Ytmjhldagmmpnjaa
