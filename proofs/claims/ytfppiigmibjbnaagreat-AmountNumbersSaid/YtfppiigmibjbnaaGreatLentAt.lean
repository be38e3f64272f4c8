/- A list of parts that was lent: as a slice of parts, and with its marks. No walk. -/
import Derived.Test.YtfppiigmibjbnaaGreatFlatW
import Derived.Test.YtfppiigmibjbnaaGreatAns
namespace Go.Proofs.YtfppiigmibjbnaaGreat
open Go.ChangeShapes Go.WideShapes Go.ChangeAt Go.RowKit Go.Maps
set_option linter.unusedVariables false

def LentAt (w : World) (g : Nat) (l : List Pt) : Prop := w.ownsRow g 38 2 (.slice (some ⟨g, 0, none⟩) (l.length + 12) (l.length + 12)) (l.length + 12) (pcells (l ++ marksP 1 12))
theorem LentAt.row {w : World} {g : Nat} {l : List Pt} (h : LentAt w g l) : w.ownsRow g 38 2 (.slice (some ⟨g, 0, none⟩) (l.length + 12) (l.length + 12)) (l.length + 12) (pcells (l ++ marksP 1 12)) := h
theorem LentAt.still {w w' : World} {g : Nat} {l : List Pt} (h : LentAt w g l) (hb : w.grownBy w' none) : LentAt w' g l := World.ownsRow.kept h hb (.inr (by simp [Value.ownBlock]))
theorem LentAt.block {w : World} {g : Nat} {l : List Pt} (h : LentAt w g l) : g < w.heap.size := (World.ownsRow.lt h g rfl).2
theorem LentAt.lies {w : World} {g B : Nat} {l : List Pt} (h : LentAt w g l) (hB : g < B) : Lies w B (some ⟨g, 0, none⟩) (pcells (l ++ marksP 1 12)) := fun _ =>
  ⟨⟨g, 0, none⟩, rfl, hB, fun j u hj => by
    rw [addr0]
    have hlen : j < (pcells (l ++ marksP 1 12)).length := (List.getElem?_eq_some_iff.mp hj).1
    have h1 := h.1
    exact (World.ownsRow.cellAt h j (by omega)).trans hj⟩
theorem LentAt.psl {w : World} {g : Nat} {l : List Pt} (h : LentAt w g l) : PSl w w.heap.size (.slice (some ⟨g, 0, none⟩) l.length (l.length + 12)) l := by
  have h1 := own_prefix (n := l.length) (m := 12) h
  rw [pcells_take _ _ (by simp), List.take_left] at h1
  exact PSl.own h1
theorem own_stay {w w' : World} {base e size n : Nat} {v : Value} {xs : List Value} (h : w.ownsRow base e size v n xs) (hg : w.grownBy w' none) : w'.ownsRow base e size v n xs := h.kept hg (by cases v.ownBlock <;> simp)
theorem own_over {w w' : World} {base e size n g : Nat} {v : Value} {xs : List Value} (h : w.ownsRow base e size v n xs) (hg : w.grownBy w' (some g)) (hb : g < base) : w'.ownsRow base e size v n xs :=
  h.kept hg (.inr fun hv => by have := (h.lt g hv).1; omega)
theorem LentAt.over {w w' : World} {g g' : Nat} {l : List Pt} (h : LentAt w g l) (hg : w.grownBy w' (some g')) (hne : g' < g) : LentAt w' g l := own_over h hg hne
theorem own_base {w : World} {base base' e size n : Nat} {v : Value} {xs : List Value} (h : w.ownsRow base e size v n xs) (hb : base' ≤ base) : w.ownsRow base' e size v n xs := by
  refine ⟨h.1, ?_⟩
  rcases h.2 with h2 | ⟨g, cap, cur, h3, h4, h5⟩
  · exact .inl h2
  · exact .inr ⟨g, cap, cur, h3, by omega, h5⟩
theorem below_over {w w1 w2 : World} {g : Nat} (h : Go.RowKit.Below w.heap.size w w1) (hg : w1.grownBy w2 (some g)) (hb : w.heap.size ≤ g) : Go.RowKit.Below w.heap.size w w2 :=
  h.grown hg h.size (fun k hk => by cases hk; exact hb)
theorem below_none0 {w w' : World} (h : Go.RowKit.Below w.heap.size w w') : w.grownBy w' none := ⟨h.os, h.tape, h.output, h.size, fun i hi _ => h.block i hi⟩
end Go.Proofs.YtfppiigmibjbnaaGreat
