/- What is sorted, and stays where it stood among its likes, is one list alone. No walk. -/
import Derived.Test.YtdmgnafafafdpaaLCmp2
import Derived.Test.YtdmgnafafafdpaaStab
namespace Go.Proofs.Ytdmgnafafafdpaa
open Go.Sort Go.Proofs
set_option linter.unusedVariables false

theorem cmpI_rng (a b : Int) : cmpI a b = -1 ∨ cmpI a b = 0 ∨ cmpI a b = 1 := by
  rcases cmpI_cases a b with ⟨_, e⟩ | ⟨_, e⟩ | ⟨_, e⟩ <;> simp [e]
/-- x stands ahead of y. -/
theorem cmpL_neg (x y : Lt) : cmpL x y < 0 ↔ x.un < y.un ∨ (x.un = y.un ∧ x.id < y.id) := by
  unfold cmpL
  rcases cmpI_cases x.un y.un with ⟨h, e⟩ | ⟨h, e⟩ | ⟨h, e⟩ <;> rcases cmpI_cases x.id y.id with ⟨h', e'⟩ | ⟨h', e'⟩ | ⟨h', e'⟩ <;> rw [e, e'] <;> simp <;> omega
theorem cmpL_zero (x y : Lt) : cmpL x y = 0 ↔ x.un = y.un ∧ x.id = y.id := by
  unfold cmpL
  rcases cmpI_cases x.un y.un with ⟨h, e⟩ | ⟨h, e⟩ | ⟨h, e⟩ <;> rcases cmpI_cases x.id y.id with ⟨h', e'⟩ | ⟨h', e'⟩ | ⟨h', e'⟩ <;> rw [e, e'] <;> simp <;> omega
theorem cmpL_pos (x y : Lt) : 0 < cmpL x y ↔ y.un < x.un ∨ (y.un = x.un ∧ y.id < x.id) := by
  unfold cmpL
  rcases cmpI_cases x.un y.un with ⟨h, e⟩ | ⟨h, e⟩ | ⟨h, e⟩ <;> rcases cmpI_cases x.id y.id with ⟨h', e'⟩ | ⟨h', e'⟩ | ⟨h', e'⟩ <;> rw [e, e'] <;> simp <;> omega
theorem cmpL_rng (x y : Lt) : cmpL x y = -1 ∨ cmpL x y = 0 ∨ cmpL x y = 1 := by
  unfold cmpL
  rcases cmpI_cases x.un y.un with ⟨h, e⟩ | ⟨h, e⟩ | ⟨h, e⟩ <;> rcases cmpI_cases x.id y.id with ⟨h', e'⟩ | ⟨h', e'⟩ | ⟨h', e'⟩ <;> rw [e, e'] <;> simp

abbrev Ix := Lt × Nat
def cfP (p q : Ix) : Int := cmpL p.1 q.1
def ltP (p q : Ix) : Bool := decide (cmpL p.1 q.1 < 0 ∨ (cmpL p.1 q.1 = 0 ∧ p.2 < q.2))
theorem ltP_true {p q : Ix} : ltP p q = true ↔ p.1.un < q.1.un ∨ (p.1.un = q.1.un ∧ (p.1.id < q.1.id ∨ (p.1.id = q.1.id ∧ p.2 < q.2))) := by
  unfold ltP
  rw [decide_eq_true_iff, cmpL_neg, cmpL_zero]
  omega
theorem ltP_false {p q : Ix} : ltP p q = false ↔ ¬ (p.1.un < q.1.un ∨ (p.1.un = q.1.un ∧ (p.1.id < q.1.id ∨ (p.1.id = q.1.id ∧ p.2 < q.2)))) := by
  rw [← ltP_true]; simp
theorem swoP : SWO ltP where
  irrefl x := by rw [ltP_false]; omega
  trans x y z h1 h2 := by rw [ltP_true] at *; omega
  ntrans x y z h1 h2 := by rw [ltP_false] at *; omega

/-- out is l, sorted, likes as they stood. -/
def Stab (l out : List Lt) : Prop := ∃ P : List Ix, P.map Prod.fst = out ∧ P.Perm l.zipIdx ∧ P.Pairwise (fun p q => ltP q p = false)
theorem Stab.perm {l out : List Lt} (h : Stab l out) : out.Perm l := by
  obtain ⟨P, rfl, h2, _⟩ := h
  have := h2.map Prod.fst
  rwa [List.zipIdx_map_fst] at this
theorem Stab.length {l out : List Lt} (h : Stab l out) : out.length = l.length := h.perm.length_eq
theorem zip_inj {l : List Lt} {p q : Ix} (hp : p ∈ l.zipIdx) (hq : q ∈ l.zipIdx) (h : p.2 = q.2) : p = q := by
  have h1 := List.mem_zipIdx_iff_getElem?.1 hp
  have h2 := List.mem_zipIdx_iff_getElem?.1 hq
  rw [h, h2] at h1
  exact Prod.ext (Option.some.inj h1).symm h
theorem Stab.unique {l o1 o2 : List Lt} (h1 : Stab l o1) (h2 : Stab l o2) : o1 = o2 := by
  obtain ⟨P, rfl, p1, s1⟩ := h1
  obtain ⟨Q, rfl, p2, s2⟩ := h2
  have e : P = Q := List.Perm.eq_of_pairwise (le := fun p q => ltP q p = false) (fun a b ha hb hab hba => by
    refine zip_inj (p1.mem_iff.1 ha) (p2.mem_iff.1 hb) ?_
    rw [ltP_false] at hab hba
    omega) s1 s2 (p1.trans p2.symm)
  rw [e]
theorem stab_nil : Stab [] [] := ⟨[], rfl, List.Perm.refl _, List.Pairwise.nil⟩
/-- What is sorted is sorted. -/
theorem Stab.pairs {l out : List Lt} (h : Stab l out) : out.Pairwise (fun a b => cmpL a b ≤ 0) := by
  obtain ⟨P, rfl, _, s⟩ := h
  rw [List.pairwise_map]
  refine s.imp fun {p q} hpq => ?_
  rw [ltP_false] at hpq
  have := cmpL_pos p.1 q.1
  omega
theorem stab_self {out : List Lt} (h : out.Pairwise (fun a b => cmpL a b ≤ 0)) : Stab out out := by
  refine ⟨out.zipIdx, List.zipIdx_map_fst _ _, List.Perm.refl _, ?_⟩
  rw [List.pairwise_iff_getElem] at h ⊢
  intro i j hi hj hij
  rw [List.getElem_zipIdx, List.getElem_zipIdx, ltP_false]
  have h1 := h i j (by simpa using hi) (by simpa using hj) hij
  have h2 := cmpL_pos (out[i]'(by simpa using hi)) (out[j]'(by simpa using hj))
  simp only
  omega

/-- The rows that the sort works on. -/
def rowOf (l : List Lt) : Array Ix := l.zipIdx.toArray
theorem rowOf_size (l : List Lt) : (rowOf l).size = l.length := by simp [rowOf]
theorem rowOf_agree (l : List Lt) : ∀ i j, i < j → j < (rowOf l).size → ltOf cfP (rowOf l)[j]! (rowOf l)[i]! = ltP (rowOf l)[j]! (rowOf l)[i]! := fun i j hij hj => by
  rw [rowOf_size] at hj
  have g : ∀ k, k < l.length → ((rowOf l)[k]!).2 = k := fun k hk => by
    rw [getElem!_pos (rowOf l) k (by rw [rowOf_size]; exact hk)]
    simp [rowOf]
  unfold ltP ltOf cfP
  rw [g j hj, g i (by omega)]
  congr 1
  apply propext
  constructor
  · exact .inl
  · rintro (h | h)
    · exact h
    · omega
theorem stab_of {l : List Lt} {d : Array Ix} (hp : PermIn 0 (rowOf l).size (rowOf l) d) (hs : SortedIn ltP 0 (rowOf l).size d) : Stab l (d.toList.map Prod.fst) := by
  have hz := hp.1
  refine ⟨d.toList, rfl, ?_, ?_⟩
  · have h := hp.2.2
    rw [← hz, Array.extract_size, hz, Array.extract_size] at h
    exact h
  · rw [List.pairwise_iff_getElem]
    intro i j hi hj hij
    have h := hs i j (Nat.zero_le _) hij (by rw [← hz]; simpa using hj)
    rw [getElem!_pos d i (by simpa using hi), getElem!_pos d j (by simpa using hj)] at h
    simpa using h
end Go.Proofs.Ytdmgnafafafdpaa
