/- Rows that lie apart, and stores into them. -/
import Derived.Test.YtfppiigmibjbnaaGreatFlatW
import Derived.Deep.RegionWith
import Derived.Deep.DeepCutAuto
namespace Go.Proofs.YtfppiigmibjbnaaGreat
open Go.ChangeShapes Go.WideShapes Go.ChangeAt Go.RowKit Go.Maps Go.Sort
set_option linter.unusedVariables false

/-- Rows, one for each number below K. -/
def Fam (w : World) (base K : Nat) (val : Nat → Value) (len : Nat → Nat) (X : Nat → List Value) : Prop := ∀ j, j < K → w.ownsRow base 38 2 (val j) (len j) (X j)
/-- No two of them in one block. -/
def Lone (K : Nat) (val : Nat → Value) : Prop := ∀ i j, i < K → j < K → i ≠ j → ∀ b, (val i).ownBlock = some b → (val j).ownBlock ≠ some b
def listOf (K : Nat) (val : Nat → Value) : List Value := (List.range K).map val
theorem listOf_get {K k : Nat} (val : Nat → Value) (h : k < K) : (listOf K val)[k]? = some (val k) := by simp [listOf, h]
def upd {α : Type} (f : Nat → α) (k : Nat) (x : α) : Nat → α := fun j => if j = k then x else f j
theorem upd_same {α : Type} (f : Nat → α) (k : Nat) (x : α) : upd f k x k = x := by simp [upd]
theorem upd_other {α : Type} (f : Nat → α) (k j : Nat) (x : α) (h : j ≠ k) : upd f k x j = f j := by simp [upd, h]
/-- One row is stored into; the others stay. -/
theorem Fam.stored {w : World} {base K : Nat} {val : Nat → Value} {len : Nat → Nat} {X : Nat → List Value} (h : Fam w base K val len X) (hl : Lone K val) {k g cap : Nat} (hk : k < K) (hv : val k = .slice (some ⟨g, 0, none⟩) (len k) cap) (j : Nat) (u : Value) :
    Fam (w.setCell ⟨g, j, none⟩ u) base K val len (upd X k ((X k).set j u)) := by
  intro i hi
  by_cases e : i = k
  · subst e
    rw [upd_same]
    have := h i hi
    rw [hv] at this ⊢
    exact (this.stored j u).1
  · rw [upd_other _ _ _ _ e]
    have h0 := h k hk
    rw [hv] at h0
    refine (h i hi).kept (h0.stored j u).2 ?_
    right
    exact hl k i hk hi (Ne.symm e) g (by rw [hv]; rfl)
theorem Fam.keep {w w' : World} {base K : Nat} {val : Nat → Value} {len : Nat → Nat} {X : Nat → List Value} (h : Fam w base K val len X) (hg : w.grownBy w' none) : Fam w' base K val len X :=
  fun j hj => (h j hj).kept hg (by cases (val j).ownBlock <;> simp)
theorem below_none {w w' : World} (h : Go.RowKit.Below w.heap.size w w') : w.grownBy w' none := ⟨h.os, h.tape, h.output, h.size, fun i hi _ => h.block i hi⟩

theorem take_two {Y : List Value} {n : Nat} (h : n + 1 < Y.length) (a b : Value) : ((Y.set n a).set (n + 1) b).take (n + 2) = Y.take n ++ [a, b] := by
  apply List.ext_getElem?
  intro i
  rw [List.getElem?_take]
  by_cases h1 : i < n + 2
  · rw [if_pos h1, List.getElem?_set, List.getElem?_set]
    by_cases h2 : i < n
    · rw [if_neg (by omega), if_neg (by omega), List.getElem?_append_left (by rw [List.length_take]; omega), List.getElem?_take, if_pos h2]
    · rw [List.getElem?_append_right (by rw [List.length_take]; omega), List.length_take, Nat.min_eq_left (by omega)]
      by_cases h3 : i = n
      · subst h3
        rw [if_neg (by omega), if_pos rfl, if_pos (by omega)]
        simp
      · obtain rfl : i = n + 1 := by omega
        rw [if_pos rfl, if_pos (by simp; omega)]
        simp
  · rw [if_neg h1, List.getElem?_eq_none (by simp; omega)]
/-- A store into row k. -/
theorem flat_store {wr : World} {base bo go co K : Nat} {val : Nat → Value} {len : Nat → Nat} {Y : Nat → List Value} (hF : Fam wr base K val len Y) (hl : Lone K val) (hO : wr.ownsRow bo 22 1 (.slice (some ⟨go, 0, none⟩) K co) K (listOf K val)) {k g cap m : Nat} (hk : k < K)
    (hv : val k = .slice (some ⟨g, 0, none⟩) (len k) cap) (hm : m < len k) {M : Int} (hM : M = 1000003 * ((k : Int) + 7) + (m : Int)) (o : Obj) (ht : (Y k).take (m * 2) = pcells (marksP k m)) (hpre : ∀ j, j < k → Y j = pcells (marksP j (len j))) :
    ∃ X : Nat → List Value, Fam (((wr.setCell ⟨g, m * 2, none⟩ (.string ⟨#[]⟩)).setCell ⟨g, m * 2 + 1, none⟩ (.int .i64 M)).alloc o) base K val len X ∧ (∀ j, j < k → X j = pcells (marksP j (len j))) ∧ (X k).take ((m + 1) * 2) = pcells (marksP k (m + 1)) ∧
      (((wr.setCell ⟨g, m * 2, none⟩ (.string ⟨#[]⟩)).setCell ⟨g, m * 2 + 1, none⟩ (.int .i64 M)).alloc o).ownsRow bo 22 1 (.slice (some ⟨go, 0, none⟩) K co) K (listOf K val) := by
  have h1 := (hF.stored hl hk hv (m * 2) (.string ⟨#[]⟩)).stored hl hk hv (m * 2 + 1) (.int .i64 M)
  have hrow := hF k hk
  have hyl := hrow.1
  rw [hv] at hrow
  have hs1 := hrow.stored (m * 2) (.string ⟨#[]⟩)
  have hs2 := hs1.1.stored (m * 2 + 1) (.int .i64 M)
  have hne : (Value.slice (some ⟨go, 0, none⟩) K co).ownBlock ≠ some g := own_ne (hF k hk) hO (by decide) (by rw [hv]; rfl)
  refine ⟨_, h1.keep (World.grownBy_alloc _ _ _), fun j hj => ?_, ?_, ((hO.kept hs1.2 (.inr hne)).kept hs2.2 (.inr hne)).alloc _⟩
  · rw [upd_other _ _ _ _ (by omega), upd_other _ _ _ _ (by omega)]
    exact hpre j hj
  · rw [upd_same, upd_same, show (m + 1) * 2 = m * 2 + 2 by omega, take_two (by omega), ht, marksP_succ, pcells_append, hM]
    rfl

end Go.Proofs.YtfppiigmibjbnaaGreat
