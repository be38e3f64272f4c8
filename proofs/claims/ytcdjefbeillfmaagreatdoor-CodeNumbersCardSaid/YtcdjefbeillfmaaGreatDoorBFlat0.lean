/- Rows that lie apart, and stores into them. -/
import Derived.Test.YtcdjefbeillfmaaGreatDoorBFlatW
import Derived.Deep.RegionWith
import Derived.Deep.DeepCutAuto
namespace Go.Proofs.YtcdjefbeillfmaaGreatDoor
open Go.ChangeShapes Go.WideShapes Go.ChangeAt Go.RowKit Go.Sort
set_option linter.unusedVariables false
set_option maxRecDepth 100000

/-- Rows, one for each number below K. -/
def Fam (w : World) (base K : Nat) (val : Nat → Value) (len : Nat → Nat) (X : Nat → List Value) : Prop := ∀ j, j < K → w.ownsRow base 5 1 (val j) (len j) (X j)
/-- No two of them in one block. -/
def Lone (K : Nat) (val : Nat → Value) : Prop := ∀ i j, i < K → j < K → i ≠ j → ∀ b, (val i).ownBlock = some b → (val j).ownBlock ≠ some b
def listOf (K : Nat) (val : Nat → Value) : List Value := (List.range K).map val
theorem listOf_get {K k : Nat} (val : Nat → Value) (h : k < K) : (listOf K val)[k]? = some (val k) := by simp [listOf, h]
def upd {α : Type} (f : Nat → α) (k : Nat) (x : α) : Nat → α := fun j => if j = k then x else f j
theorem upd_same {α : Type} (f : Nat → α) (k : Nat) (x : α) : upd f k x k = x := by simp [upd]
theorem upd_other {α : Type} (f : Nat → α) (k j : Nat) (x : α) (h : j ≠ k) : upd f k x j = f j := by simp [upd, h]
/-- One row is stored into; the others stay. -/
theorem Fam.stored {w : World} {base K : Nat} {val : Nat → Value} {len : Nat → Nat} {X : Nat → List Value} (h : Fam w base K val len X) (hl : Lone K val) {k g cap : Nat} (hk : k < K) (hv : val k = .slice (some ⟨g, 0, none⟩) (len k) cap) (j : Nat) (u : Value) :
    Fam (w.setCell ⟨g, j, none⟩ u) base K val len (upd X k ((X k).set j u)) := by
  intro i hi
  by_cases e : i = k
  · subst e
    rw [upd_same]
    have := h i hi
    rw [hv] at this ⊢
    exact (this.stored j u).1
  · rw [upd_other _ _ _ _ e]
    have h0 := h k hk
    rw [hv] at h0
    refine (h i hi).kept (h0.stored j u).2 ?_
    right
    exact hl k i hk hi (Ne.symm e) g (by rw [hv]; rfl)
theorem Fam.keep {w w' : World} {base K : Nat} {val : Nat → Value} {len : Nat → Nat} {X : Nat → List Value} (h : Fam w base K val len X) (hg : w.grownBy w' none) : Fam w' base K val len X :=
  fun j hj => (h j hj).kept hg (by cases (val j).ownBlock <;> simp)
theorem below_none {w w' : World} (h : Go.RowKit.Below w.heap.size w w') : w.grownBy w' none := ⟨h.os, h.tape, h.output, h.size, fun i hi _ => h.block i hi⟩

theorem take_one {Y : List Value} {n : Nat} (h : n < Y.length) (a : Value) : (Y.set n a).take (n + 1) = Y.take n ++ [a] := by
  rw [List.take_add_one, List.take_set_of_le (Nat.le_refl n), List.getElem?_set_self h]
  rfl
/-- A store into row k. -/
theorem flat_store {wr : World} {base bo go co K : Nat} {val : Nat → Value} {len : Nat → Nat} {Y : Nat → List Value} (hF : Fam wr base K val len Y) (hl : Lone K val) (hO : wr.ownsRow bo 22 1 (.slice (some ⟨go, 0, none⟩) K co) K (listOf K val)) {k g cap m : Nat} (hk : k < K)
    (hv : val k = .slice (some ⟨g, 0, none⟩) (len k) cap) (hm : m < len k) (ht : (Y k).take m = mcells k m) (hpre : ∀ j, j < k → Y j = mcells j (len j)) :
    ∃ X : Nat → List Value, Fam (wr.setCell ⟨g, m, none⟩ (.int .u8 (mbI (k : Int) (m : Int)))) base K val len X ∧ (∀ j, j < k → X j = mcells j (len j)) ∧ (X k).take (m + 1) = mcells k (m + 1) ∧
      (wr.setCell ⟨g, m, none⟩ (.int .u8 (mbI (k : Int) (m : Int)))).ownsRow bo 22 1 (.slice (some ⟨go, 0, none⟩) K co) K (listOf K val) := by
  have h1 := hF.stored hl hk hv m (.int .u8 (mbI (k : Int) (m : Int)))
  have hrow := hF k hk
  have hyl := hrow.1
  rw [hv] at hrow
  have hs1 := hrow.stored m (.int .u8 (mbI (k : Int) (m : Int)))
  have hne : (Value.slice (some ⟨go, 0, none⟩) K co).ownBlock ≠ some g := own_ne (hF k hk) hO (by decide) (by rw [hv]; rfl)
  refine ⟨_, h1, fun j hj => ?_, ?_, hO.kept hs1.2 (.inr hne)⟩
  · rw [upd_other _ _ _ _ (by omega)]
    exact hpre j hj
  · rw [upd_same, take_one (by omega), ht, mcells_succ]

end Go.Proofs.YtcdjefbeillfmaaGreatDoor
