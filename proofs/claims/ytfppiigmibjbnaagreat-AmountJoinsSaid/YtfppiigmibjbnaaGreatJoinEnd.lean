/- For any list of parts and any number the law AmountJoins returns true, and both read as before. No condition. -/
import Derived.Test.YtfppiigmibjbnaaGreatLawJ
import Derived.Test.YtfppiigmibjbnaaGreatOpenZ
namespace Go.Proofs.YtfppiigmibjbnaaGreat
open Go.ChangeShapes Go.WideShapes Go.ChangeAt Go.RowKit Go.Maps
set_option linter.unusedVariables false

namespace Joins
set_option maxRecDepth 100000 in
theorem lifted (os : Os) (started : os.Started) (H : Type) (enc : TypeId × Value → H) :
    ReturnsInHanded {} Tryz.checked os 3 .any (Rows.amountJoinsSpec.pre6 enc Tryz.prog Tryz.f3 Rows.amountJoinsRow.domain false) (Rows.amountJoinsSpec.post enc Tryz.prog Tryz.f3 false true false false) := by
  refine returnsInHanded_of_change_sized (C := Tryz.checked) own_knob started (by kernel_rfl) Tryz.func3
    (ChangeSpec.witness6 (enc := enc) (C := Tryz.checked) false ⟨#[], #[.slice none 0 0, .slice none 0 0, .slice none 0 0], []⟩ 8 (by kernel_rfl) (by kernel_rfl) (by kernel_rfl) (by kernel_rfl)) ?_
  intro W base args ds gs before hval0 hW hcnd hsz _
  have hval : ∀ (j : Nat) t v, Tryz.f3.params[j]? = some t → args[j]? = some v → Value.okWide Tryz.prog W .any base t v := hval0
  have hW' := hW
  obtain ⟨p, q, hA0, hV, rfl, hfz, hnd⟩ := hW
  have hA : DataW.TrodAll enc Tryz.prog W 0 (fun _ => true) true Tryz.f3.params.toList args.toList ds p := hA0
  rw [Tryz.params3] at hA hval
  obtain ⟨v0, vs0, d0, ds0, p0, q0, hargs, rfl, rfl, h0, r0⟩ := trodAll_cons hA
  obtain ⟨v1, vs1, d1, ds1, p1, q1, rfl, rfl, rfl, h1, r1⟩ := trodAll_cons r0
  obtain ⟨v2, vs2, d2, ds2, p2, q2, rfl, rfl, rfl, h2, r2⟩ := trodAll_cons r1
  obtain ⟨rfl, rfl, rfl⟩ := trodAll_nil r2
  obtain rfl : args = #[v0, v1, v2] := by cases args; simp_all
  obtain ⟨rfl, rfl⟩ := trodVars_none hV
  have lt0 : ∀ x ∈ p0, x.block < W.heap.size := by obtain ⟨m, hm⟩ := h0; exact DataW.trod_lt m _ _ _ hm
  have lt1 : ∀ x ∈ p1, x.block < W.heap.size := by obtain ⟨m, hm⟩ := h1; exact DataW.trod_lt m _ _ _ hm
  have lt2 : ∀ x ∈ p2, x.block < W.heap.size := by obtain ⟨m, hm⟩ := h2; exact DataW.trod_lt m _ _ _ hm
  obtain ⟨l0, hl0, hs0, hd0⟩ := open_parts (hval 0 22 v0 rfl rfl) h0
  obtain ⟨l1, hl1, hs1, hd1⟩ := open_parts (hval 1 22 v1 rfl rfl) h1
  obtain ⟨l2, hl2, hs2, hd2⟩ := open_parts (hval 2 22 v2 rfl rfl) h2
  have hB : Tryz.checked.prog.bytesOf 38 = 24 := by kernel_rfl
  have hlen0 : l0.length ≤ 140737488355328 := by
    rcases hd0 with rfl | ⟨elems, spare, rfl, e⟩
    · simp
    · have hb := sized_slice hsz (j := 0) (t := 22) rfl rfl Tryz.underlying22
      rw [hB] at hb
      have := reachBytes_lt
      omega
  have hlen1 : l1.length ≤ 140737488355328 := by
    rcases hd1 with rfl | ⟨elems, spare, rfl, e⟩
    · simp
    · have hb := sized_slice hsz (j := 1) (t := 22) rfl rfl Tryz.underlying22
      rw [hB] at hb
      have := reachBytes_lt
      omega
  have hlen2 : l2.length ≤ 140737488355328 := by
    rcases hd2 with rfl | ⟨elems, spare, rfl, e⟩
    · simp
    · have hb := sized_slice hsz (j := 2) (t := 22) rfl rfl Tryz.underlying22
      rw [hB] at hb
      have := reachBytes_lt
      omega
  have hsall : Sized (l0 ++ (l1 ++ l2)) := fun p hp => by
    rcases List.mem_append.mp hp with hp | hp
    · exact hs0 p hp
    · rcases List.mem_append.mp hp with hp | hp
      · exact hs1 p hp
      · exact hs2 p hp
  clear hA0 hval0 hd0 hd1 hd2
  simp only [List.append_nil] at hW'
  obtain ⟨A0, c0, rfl, _⟩ := id hl0
  obtain ⟨A1, c1, rfl, _⟩ := id hl1
  obtain ⟨A2, c2, rfl, _⟩ := id hl2
  refine (joins_any A0 A1 A2 c0 c1 c2 l0 l1 l2 W hl0 hl1 hl2 hsall hlen0 hlen1 hlen2).mono fun e W' ⟨he, hb⟩ => ?_
  subst he
  exact ⟨_, rfl, post_below (pv := []) hW' (fun _ _ _ => (trodAll_cons_mk (shut_bool Tryz.underlying4 _) trodAll_mk0)) (trodAll_cons_mk (Below.trod laid_out (by kernel_rfl) (of_decide_eq_true (by kernel_rfl)) h0 hb lt0) (trodAll_cons_mk (Below.trod laid_out (by kernel_rfl) (of_decide_eq_true (by kernel_rfl)) h1 hb lt1) (trodAll_cons_mk (Below.trod laid_out (by kernel_rfl) (of_decide_eq_true (by kernel_rfl)) h2 hb lt2) trodAll_mk0))) rfl hb⟩
end Joins

theorem joins_over : Rows.amountJoinsRow.holds Tryz.pinned (OpenSpec.ofChange Rows.amountJoinsSpec) :=
  OpenClaim.holds_of_wide 3 Tryz.f3 rfl rfl rfl rfl rfl rfl rfl ⟨rfl, rfl, rfl, rfl, rfl⟩ rfl rfl rfl rfl rfl (by kernel_rfl) Tryz.func3 (by kernel_rfl)
    (of_decide_eq_true (by kernel_rfl)) (by unfold Func.isWrapper; first | (rw [if_pos (by decide +kernel)]; kernel_rfl) | (rw [if_neg (by decide +kernel)]; exact ⟨rfl, rfl⟩))
    (fun os started H enc _ => Joins.lifted os started H enc)

theorem amount_joins : Rows.AmountJoinsSaid := joins_over
#print axioms amount_joins
end Go.Proofs.YtfppiigmibjbnaaGreat
