/- For any list of parts and any number the law AmountPieces returns true, and both read as before. No condition. -/
import Derived.Test.YtmjhldagmmpnjaaPiecesY
import Derived.Test.YtmjhldagmmpnjaaOpenP
namespace Go.Proofs.Ytmjhldagmmpnjaa
open Go.ChangeShapes Go.WideShapes Go.ChangeAt Go.RowKit Go.Maps
set_option linter.unusedVariables false

theorem pieces_any (v : Value) (l : List Pt) (x : Int) (w : World) (hv : PSl w w.heap.size v l) (hs : Sized l) (hlen : l.length ≤ 140737488355328) (hx1 : -9223372036854775808 ≤ x) (hx2 : x ≤ 9223372036854775807) :
    Calls Try.prog 6 #[v, .int .i64 x] w fun e w' => e = .returned (.bool true) ∧ Below w.heap.size w w' := by
  obtain ⟨A, c, rfl, _⟩ := id hv
  by_cases hok : JoinOk l
  · exact pieces_yes A c l (joined l) x w hv hs hlen hx1 hx2 hok (isJoin_joined l) (joined_length l)
  · exact pieces_no A c l x w hv hs hlen hx1 hx2 hok

namespace Pieces
set_option maxRecDepth 100000 in
theorem lifted (os : Os) (started : os.Started) (H : Type) (enc : TypeId × Value → H) :
    ReturnsInHanded {} Try.checked os 6 .any (Rows.amountPiecesSpec.pre6 enc Try.prog Try.f6 Rows.amountPiecesRow.domain false) (Rows.amountPiecesSpec.post enc Try.prog Try.f6 false true false false) := by
  refine returnsInHanded_of_change_sized (C := Try.checked) own_knob started (by kernel_rfl) Try.func6
    (ChangeSpec.witness6 (enc := enc) (C := Try.checked) false ⟨#[], #[.slice none 0 0, .int .i64 0], []⟩ 8 (by kernel_rfl) (by kernel_rfl) (by kernel_rfl) (by kernel_rfl)) ?_
  intro W base args ds gs before hval0 hW hcnd hsz _
  have hval : ∀ (j : Nat) t v, Try.f6.params[j]? = some t → args[j]? = some v → Value.okWide Try.prog W .any base t v := hval0
  have hW' := hW
  obtain ⟨p, q, hA0, hV, rfl, hfz, hnd⟩ := hW
  have hA : DataW.TrodAll enc Try.prog W 0 (fun _ => true) true Try.f6.params.toList args.toList ds p := hA0
  rw [Try.params6] at hA hval
  obtain ⟨v0, vs0, d0, ds0, p0, q0, hargs, rfl, rfl, h0, r0⟩ := trodAll_cons hA
  obtain ⟨v1, vs1, d1, ds1, p1, q1, rfl, rfl, rfl, h1, r1⟩ := trodAll_cons r0
  obtain ⟨rfl, rfl, rfl⟩ := trodAll_nil r1
  obtain rfl : args = #[v0, v1] := by cases args; simp_all
  obtain ⟨rfl, rfl⟩ := trodVars_none hV
  have lt0 : ∀ x ∈ p0, x.block < W.heap.size := by obtain ⟨m, hm⟩ := h0; exact DataW.trod_lt m _ _ _ hm
  obtain ⟨l, hl, hs, hd⟩ := open_parts (hval 0 34 v0 rfl rfl) h0
  obtain ⟨a1, rfl, rfl, rfl, w1⟩ := open_int Try.underlying3 (hval 1 3 v1 rfl rfl) h1
  have hlen : l.length ≤ 140737488355328 := by
    rcases hd with rfl | ⟨elems, spare, rfl, e⟩
    · simp
    · have hb := sized_slice hsz (j := 0) (t := 34) rfl rfl Try.underlying34
      have hB : Try.checked.prog.bytesOf 41 = 24 := by kernel_rfl
      rw [hB] at hb
      have := reachBytes_lt
      omega
  have hx := bounds_i64 w1
  clear hA0 hval0
  simp only [List.append_nil] at hW'
  refine (pieces_any v0 l a1 W hl hs hlen hx.1 hx.2).mono fun e W' ⟨he, hb⟩ => ?_
  subst he
  exact ⟨_, rfl, post_below (pv := []) hW' (fun _ _ _ => (trodAll_cons_mk (shut_bool Try.underlying4 _) trodAll_mk0)) (trodAll_cons_mk (Below.trod laid_out (by kernel_rfl) (of_decide_eq_true (by kernel_rfl)) h0 hb lt0) (trodAll_cons_mk (shut_int Try.underlying3 w1) trodAll_mk0)) rfl hb⟩
end Pieces

theorem pieces_over : Rows.amountPiecesRow.holds Try.pinned (OpenSpec.ofChange Rows.amountPiecesSpec) :=
  OpenClaim.holds_of_wide 6 Try.f6 rfl rfl rfl rfl rfl rfl rfl ⟨rfl, rfl, rfl, rfl, rfl⟩ rfl rfl rfl rfl rfl (by kernel_rfl) Try.func6 (by kernel_rfl)
    (of_decide_eq_true (by kernel_rfl)) (by unfold Func.isWrapper; first | (rw [if_pos (by decide +kernel)]; kernel_rfl) | (rw [if_neg (by decide +kernel)]; exact ⟨rfl, rfl⟩))
    (fun os started H enc _ => Pieces.lifted os started H enc)

theorem amount_pieces : Rows.AmountPiecesSaid := pieces_over
#print axioms amount_pieces
end Go.Proofs.Ytmjhldagmmpnjaa
