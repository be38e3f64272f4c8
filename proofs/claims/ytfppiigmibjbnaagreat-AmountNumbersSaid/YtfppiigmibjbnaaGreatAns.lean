/- What Join answers, whether it can be joined or not, as a row of its own. No walk. -/
import Derived.Test.YtfppiigmibjbnaaGreatRefJoin
import Derived.Test.YtfppiigmibjbnaaGreatJoins
namespace Go.Proofs.YtfppiigmibjbnaaGreat
open Go.ChangeShapes Go.WideShapes Go.ChangeAt Go.RowKit Go.Maps
set_option linter.unusedVariables false

structure Ans (l : List Pt) (b : Bool) (out : List Pt) : Prop where
  yes : b = true → JoinOk l ∧ IsJoin l out
  no : b = false → ¬ JoinOk l ∧ out = []
  len : out.length ≤ l.length
theorem ans_ex (l : List Pt) : ∃ b out, Ans l b out := by
  by_cases h : JoinOk l
  · exact ⟨true, joined l, ⟨fun _ => ⟨h, isJoin_joined l⟩, fun h => (by cases h), joined_length l⟩⟩
  · exact ⟨false, [], ⟨fun h => (by cases h), fun _ => ⟨h, rfl⟩, Nat.zero_le _⟩⟩
/-- The answer of Join. -/
def JoinOwn (b : Bool) (out : List Pt) (w : World) (e : Ending) (w' : World) : Prop :=
  ∃ v, e = .returned (.tuple #[v, .bool b]) ∧ w'.ownsRow w.heap.size 38 2 v out.length (pcells out) ∧ Below w.heap.size w w'
theorem joinPost_own {l : List Pt} {b : Bool} {out : List Pt} (ha : Ans l b out) {w : World} {e : Ending} {w' : World} (h : JoinPost l w e w') : JoinOwn b out w e w' := by
  obtain ⟨hb, ⟨hok, v, out', rfl, hj, _, ho⟩ | ⟨hno, rfl⟩⟩ := h
  · cases b with
    | false => exact absurd hok (ha.no rfl).1
    | true =>
      obtain rfl := hj.unique (ha.yes rfl).2
      exact ⟨v, rfl, ho, hb⟩
  · cases b with
    | true => exact absurd (ha.yes rfl).1 hno
    | false =>
      obtain rfl := (ha.no rfl).2
      exact ⟨_, rfl, ⟨rfl, .inl ⟨rfl, rfl⟩⟩, hb⟩
/-- Three lists that were packed. -/
theorem join3_own {W : World} {v1 v2 v3 : Value} (l1 l2 l3 : List Pt) {b : Bool} {out : List Pt} (ha : Ans (l1 ++ (l2 ++ l3)) b out) (g : Nat) (hg : W.heap.size = g) (h1 : PSl W W.heap.size v1 l1) (h2 : PSl W W.heap.size v2 l2) (h3 : PSl W W.heap.size v3 l3) (hs : Sized (l1 ++ (l2 ++ l3))) (hl : (l1 ++ (l2 ++ l3)).length ≤ 1099511627776) :
    Calls Tryz.prog 8 #[.slice (some ⟨g, 0, none⟩) 3 3] (W.alloc (.cells #[v1, v2, v3] 22)) fun e w' => ∃ v, e = .returned (.tuple #[v, .bool b]) ∧ w'.ownsRow (W.heap.size + 1) 38 2 v out.length (pcells out) ∧ Below W.heap.size W w' := by
  subst hg
  have e : [l1, l2, l3].flatten = l1 ++ (l2 ++ l3) := by simp
  refine (join_any (H := Unit) (some ⟨W.heap.size, 0, none⟩) 3 [l1, l2, l3] (W.alloc (.cells #[v1, v2, v3] 22)) (rows3 W v1 v2 v3 l1 l2 l3 22 h1 h2 h3) (by rw [e]; exact hs) (by rw [e]; exact hl) (by simp)).mono ?_
  intro e' w' h
  rw [e] at h
  obtain ⟨v, he, ho, hb⟩ := joinPost_own ha h
  exact ⟨v, he, by simpa using ho, ((Below.refl _ W).alloc (Nat.le_refl _) _).trans (hb.mono (by simp))⟩
theorem rjoinPost_own {l : List Pt} {b : Bool} {out : List Pt} (ha : Ans l b out) {w : World} {e : Ending} {w' : World} (h : RJoinPost l w e w') : JoinOwn b out w e w' := by
  obtain ⟨hb, ⟨hok, v, out', rfl, hj, ho⟩ | ⟨hno, rfl⟩⟩ := h
  · cases b with
    | false => exact absurd hok (ha.no rfl).1
    | true =>
      obtain rfl := hj.unique (ha.yes rfl).2
      exact ⟨v, rfl, ho, hb⟩
  · cases b with
    | true => exact absurd (ha.yes rfl).1 hno
    | false =>
      obtain rfl := (ha.no rfl).2
      exact ⟨_, rfl, ⟨rfl, .inl ⟨rfl, rfl⟩⟩, hb⟩
theorem rjoin3_own {W : World} {v1 v2 v3 : Value} (l1 l2 l3 : List Pt) {b : Bool} {out : List Pt} (ha : Ans (l1 ++ (l2 ++ l3)) b out) (g : Nat) (hg : W.heap.size = g) (h1 : PSl W W.heap.size v1 l1) (h2 : PSl W W.heap.size v2 l2) (h3 : PSl W W.heap.size v3 l3) (hs : Sized (l1 ++ (l2 ++ l3))) (hl : (l1 ++ (l2 ++ l3)).length ≤ 1048576) :
    Calls Tryz.prog 11 #[.slice (some ⟨g, 0, none⟩) 3 3] (W.alloc (.cells #[v1, v2, v3] 22)) fun e w' => ∃ v, e = .returned (.tuple #[v, .bool b]) ∧ w'.ownsRow (W.heap.size + 1) 38 2 v out.length (pcells out) ∧ Below W.heap.size W w' := by
  subst hg
  have e : [l1, l2, l3].flatten = l1 ++ (l2 ++ l3) := by simp
  refine (rjoin_any (some ⟨W.heap.size, 0, none⟩) 3 [l1, l2, l3] (W.alloc (.cells #[v1, v2, v3] 22)) (rows3 W v1 v2 v3 l1 l2 l3 22 h1 h2 h3) (by rw [e]; exact hs) (by rw [e]; exact hl) (by simp)).mono ?_
  intro e' w' h
  rw [e] at h
  obtain ⟨v, he, ho, hb⟩ := rjoinPost_own ha h
  exact ⟨v, he, by simpa using ho, ((Below.refl _ W).alloc (Nat.le_refl _) _).trans (hb.mono (by simp))⟩
end Go.Proofs.YtfppiigmibjbnaaGreat
