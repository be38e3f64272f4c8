/- What is swept, and how much there is of each item: lists alone. No walk. -/
import Derived.Test.YtdmgnafafafdpaaLCount
namespace Go.Proofs.Ytdmgnafafafdpaa
set_option linter.unusedVariables false

theorem onB_now {now : Int} {x : Lt} (h : onB now x = true) : overB now x = false := by
  unfold onB hasB at h
  unfold overB
  simp at h
  have : decide (x.un ≤ now) = false := decide_eq_false (by omega)
  rw [this, Bool.and_false]
theorem filter_len_split (p : Lt → Bool) : ∀ l : List Lt, (l.filter (fun x => !p x)).length + (l.filter p).length = l.length
  | [] => rfl
  | x :: l => by
    have := filter_len_split p l
    cases h : p x <;> simp [h] <;> omega
theorem filter_again (p : Lt → Bool) (l : List Lt) : (l.filter (fun x => !p x)).filter (fun x => !p x) = l.filter (fun x => !p x) := by
  rw [List.filter_filter]; congr 1; funext x; simp
theorem filter_none (p : Lt → Bool) (l : List Lt) : (l.filter (fun x => !p x)).filter p = [] := by
  rw [List.filter_filter, List.filter_eq_nil_iff]
  intro x _
  cases p x <;> simp
theorem on_gone (now : Int) (l : List Lt) : onSum now (l.filter (overB now)) = 0 := by
  have : (l.filter (overB now)).filter (onB now) = [] := by
    rw [List.filter_filter, List.filter_eq_nil_iff]
    intro x _
    cases h : onB now x
    · simp
    · rw [onB_now h]; simp
  unfold onSum
  rw [this]; rfl
theorem on_left (now : Int) (l : List Lt) : onSum now (l.filter (fun x => !overB now x)) = onSum now l := by
  unfold onSum
  rw [List.filter_filter]
  congr 2
  funext x
  cases h : onB now x
  · simp
  · rw [onB_now h]; rfl
theorem few_le {day now : Int} (h : day ≤ now) : ∀ l : List Lt, (l.filter (overB day)).length ≤ (l.filter (overB now)).length
  | [] => Nat.le_refl _
  | x :: l => by
    have ih := few_le h l
    cases h1 : overB day x
    · cases h2 : overB now x <;> simp [h1, h2] <;> omega
    · have h2 : overB now x = true := by
        unfold overB at h1 ⊢
        simp at h1 ⊢
        exact ⟨h1.1, by omega⟩
      simp [h1, h2, ih]

theorem onSum_bounds (day : Int) (l : List Lt) : 0 ≤ onSum day l ∧ onSum day l ≤ 1073741824 * l.length := by
  have h := sumQ_take (l.filter (onB day)) (l.filter (onB day)).length (fun x hx => onB_qty (List.mem_filter.1 hx).2)
  rw [List.take_length] at h
  have hl : (l.filter (onB day)).length ≤ l.length := List.length_filter_le _ _
  unfold onSum
  omega

/-! ### the sum over the items, each once -/
def itemsOf (l : List Lt) : List (List UInt8) := l.map (·.item)
def partSum (now : Int) (l : List Lt) (k : Nat) : Int := sumQ (l.filter (fun x => onB now x && decide (x.item ∈ itemsOf (l.take k))))
theorem partSum_zero (now : Int) (l : List Lt) : partSum now l 0 = 0 := by
  have : l.filter (fun x => onB now x && decide (x.item ∈ itemsOf (l.take 0))) = [] := by
    rw [List.filter_eq_nil_iff]; intro x _; simp [itemsOf]
  unfold partSum
  rw [this]; rfl
theorem partSum_all (now : Int) (l : List Lt) : partSum now l l.length = onSum now l := by
  unfold partSum onSum
  rw [List.take_length]
  congr 1
  apply List.filter_congr
  intro x hx
  have : decide (x.item ∈ itemsOf l) = true := decide_eq_true (List.mem_map.2 ⟨x, hx, rfl⟩)
  rw [this, Bool.and_true]
theorem items_succ {l : List Lt} {k : Nat} {x : Lt} (h : l[k]? = some x) : itemsOf (l.take (k + 1)) = itemsOf (l.take k) ++ [x.item] := by
  unfold itemsOf
  rw [List.take_add_one, h]; simp
theorem partSum_seen {now : Int} {l : List Lt} {k : Nat} {x : Lt} (h : l[k]? = some x) (hs : x.item ∈ itemsOf (l.take k)) : partSum now l (k + 1) = partSum now l k := by
  unfold partSum
  congr 2
  funext y
  congr 1
  rw [items_succ h]
  congr 1
  apply propext
  simp only [List.mem_append, List.mem_singleton]
  constructor
  · rintro (h' | h')
    · exact h'
    · rw [h']; exact hs
  · exact .inl
theorem sumQ_split (p q : Lt → Bool) (hpq : ∀ x, ¬ (p x = true ∧ q x = true)) : ∀ l : List Lt, sumQ (l.filter (fun x => p x || q x)) = sumQ (l.filter p) + sumQ (l.filter q)
  | [] => by simp [sumQ]
  | x :: l => by
    have ih := sumQ_split p q hpq l
    have hx := hpq x
    cases hp : p x <;> cases hq : q x
    · simp only [List.filter_cons, hp, hq, Bool.or_self, Bool.false_eq_true, if_false]; exact ih
    · simp only [List.filter_cons, hp, hq, Bool.false_or, Bool.false_eq_true, if_false, if_true, sumQ]; omega
    · simp only [List.filter_cons, hp, hq, Bool.true_or, Bool.false_eq_true, if_false, if_true, sumQ]; omega
    · exact absurd ⟨hp, hq⟩ hx
theorem partSum_new {now : Int} {l : List Lt} {k : Nat} {x : Lt} (h : l[k]? = some x) (hs : ¬ x.item ∈ itemsOf (l.take k)) : partSum now l (k + 1) = partSum now l k + onSum now (l.filter (ofB x.item)) := by
  have e : (fun y : Lt => onB now y && decide (y.item ∈ itemsOf (l.take (k + 1)))) = (fun y => (onB now y && decide (y.item ∈ itemsOf (l.take k))) || (onB now y && ofB x.item y)) := by
    funext y
    rw [items_succ h, ← Bool.and_or_distrib_left]
    congr 1
    unfold ofB
    rw [← Bool.decide_or]
    congr 1
    apply propext
    simp only [List.mem_append, List.mem_singleton]
  unfold partSum onSum
  rw [e, sumQ_split]
  · rw [List.filter_filter]
  · intro y hy
    simp only [Bool.and_eq_true, decide_eq_true_eq, ofB] at hy
    exact hs (hy.2.2 ▸ hy.1.2)
theorem partSum_bounds (now : Int) (l : List Lt) (k : Nat) : 0 ≤ partSum now l k ∧ partSum now l k ≤ 1073741824 * l.length := by
  have h := sumQ_take (l.filter (fun x => onB now x && decide (x.item ∈ itemsOf (l.take k)))) (l.filter (fun x => onB now x && decide (x.item ∈ itemsOf (l.take k)))).length (fun x hx => onB_qty (by have := (List.mem_filter.1 hx).2; simp at this; exact this.1))
  rw [List.take_length] at h
  have hl : (l.filter (fun x => onB now x && decide (x.item ∈ itemsOf (l.take k)))).length ≤ l.length := List.length_filter_le _ _
  unfold partSum
  omega
end Go.Proofs.Ytdmgnafafafdpaa
