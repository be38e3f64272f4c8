/- Texts of this proof, one behind the other. -/
import Derived.Sort.LotA
import Derived.Sort.Lot0
import Derived.Test.YtjhijinbpdnmeaaGreatProg
import Derived.Shelf.SlSortCmp.KitK
import Derived.Deep.LoopGhost
import Derived.ProofKit
import Derived.Lib.Hide
import Derived.Test.YtjhijinbpdnmeaaGreatB00
section
/- Rows that are turned and merged where they lie: what becomes of an array. No Go in sight. -/
namespace Go.Proofs.YtjhijinbpdnmeaaGreat
open Go.Sort
set_option linter.unusedVariables false
set_option linter.unusedSectionVars false
variable {α : Type} [Inhabited α]

/-! ### a search by halves -/
structure Half (q : Nat → Bool) (lo hi i j : Nat) : Prop where
  lo_ : lo ≤ i
  mid_ : i ≤ j
  hi_ : j ≤ hi
  yes : ∀ k, lo ≤ k → k < i → q k = true
  no : ∀ k, j ≤ k → k < hi → q k = false
def Falls (q : Nat → Bool) (lo hi : Nat) : Prop := ∀ k h, lo ≤ k → k ≤ h → h < hi → q h = true → q k = true
theorem Half.start {q : Nat → Bool} {lo hi : Nat} (h : lo ≤ hi) : Half q lo hi lo hi :=
  ⟨Nat.le_refl _, h, Nat.le_refl _, fun k h1 h2 => by omega, fun k h1 h2 => by omega⟩
theorem Half.up {q : Nat → Bool} {lo hi i j : Nat} (h : Half q lo hi i j) (hf : Falls q lo hi) {m : Nat} (h1 : i ≤ m) (h2 : m < j) (hm : q m = true) : Half q lo hi (m + 1) j :=
  ⟨by have := h.lo_; omega, by omega, h.hi_, fun k hk1 hk2 => hf k m hk1 (by omega) (by have := h.hi_; omega) hm, h.no⟩
theorem Half.down {q : Nat → Bool} {lo hi i j : Nat} (h : Half q lo hi i j) (hf : Falls q lo hi) {m : Nat} (h1 : i ≤ m) (h2 : m < j) (hm : q m = false) : Half q lo hi i m :=
  ⟨h.lo_, h1, by have := h.hi_; omega, h.yes, fun k hk1 hk2 => by
    cases hq : q k with
    | false => rfl
    | true => have := hf m k (by have := h.lo_; omega) hk1 hk2 hq; rw [hm] at this; cases this⟩

/-! ### an order that is told by 'less' -/
section
variable {lt : α → α → Bool} (hS : SWO lt)
include hS
theorem swo_asymm {x y : α} (h : lt x y = true) : lt y x = false := by
  cases hq : lt y x with
  | false => rfl
  | true => have := hS.trans _ _ _ h hq; rw [hS.irrefl] at this; cases this
theorem swo_lt_of_lt_le {x y z : α} (h : lt x y = true) (h2 : lt z y = false) : lt x z = true := by
  cases hq : lt x z with
  | true => rfl
  | false => have := hS.ntrans _ _ _ hq h2; rw [h] at this; cases this
theorem swo_lt_of_le_lt {x y z : α} (h : lt y x = false) (h2 : lt y z = true) : lt x z = true := by
  cases hq : lt x z with
  | true => rfl
  | false => have := hS.ntrans _ _ _ h hq; rw [h2] at this; cases this
theorem sorted_le {a b : Nat} {d : Array α} (h : SortedIn lt a b d) {i j : Nat} (h1 : a ≤ i) (h2 : i ≤ j) (h3 : j < b) : lt d[j]! d[i]! = false := by
  rcases Nat.lt_or_eq_of_le h2 with h4 | rfl
  · exact h i j h1 h4 h3
  · exact hS.irrefl _
end

/-- What is asked of two rows that are merged: each is in order, and the test tells of a right one and a left one what the order tells. -/
structure Mrg (lt t : α → α → Bool) (a m b : Nat) (d : Array α) : Prop where
  left : SortedIn lt a m d
  right : SortedIn lt m b d
  agree : ∀ i j, a ≤ i → i < m → m ≤ j → j < b → t d[j]! d[i]! = lt d[j]! d[i]!

section
variable {lt t : α → α → Bool} (hS : SWO lt) {a m b : Nat} {d : Array α}
include hS
theorem falls1 (h : Mrg lt t a (a + 1) b d) : Falls (fun k => t d[k]! d[a]!) (a + 1) b := fun k n h1 h2 h3 hq => by
  simp only at hq ⊢
  rw [h.agree a n (by omega) (by omega) (by omega) h3] at hq
  rw [h.agree a k (by omega) (by omega) h1 (by omega)]
  exact swo_lt_of_le_lt hS (sorted_le hS h.right h1 h2 h3) hq
theorem falls2 (h : Mrg lt t a m (m + 1) d) : Falls (fun k => !t d[m]! d[k]!) a m := fun k n h1 h2 h3 hq => by
  simp only [Bool.not_eq_true'] at hq ⊢
  rw [h.agree n m (by omega) h3 (by omega) (by omega)] at hq
  rw [h.agree k m h1 (by omega) (by omega) (by omega)]
  exact hS.ntrans _ _ _ hq (sorted_le hS h.left h1 h2 h3)
theorem falls3 (h : Mrg lt t a m b d) {lo hi p : Nat} (h1 : a ≤ lo) (h2 : hi ≤ m) (h3 : p < b + lo) (h4 : m + hi ≤ p + 1) : Falls (fun c => !t d[p - c]! d[c]!) lo hi := fun k n k1 k2 k3 hq => by
  simp only [Bool.not_eq_true'] at hq ⊢
  rw [h.agree n (p - n) (by omega) (by omega) (by omega) (by omega)] at hq
  rw [h.agree k (p - k) (by omega) (by omega) (by omega) (by omega)]
  have e1 := sorted_le hS h.left (i := k) (j := n) (by omega) k2 (by omega)
  have e2 := sorted_le hS h.right (i := p - n) (j := p - k) (by omega) (by omega) (by omega)
  exact hS.ntrans _ _ _ e2 (hS.ntrans _ _ _ hq e1)
end

/-! ### one that is moved by exchanges -/
/-- d' is d with the one at a moved up to k, those between one down. -/
def MovedUp (d : Array α) (a k : Nat) (d' : Array α) : Prop :=
  d'.size = d.size ∧ PermIn a (k + 1) d d' ∧ (∀ x, a ≤ x → x < k → d'[x]! = d[x + 1]!) ∧ d'[k]! = d[a]! ∧ ∀ x, x < a ∨ k < x → d'[x]! = d[x]!
theorem movedUp_start (d : Array α) (a : Nat) (h : a < d.size) : MovedUp d a a d :=
  ⟨rfl, permIn_refl _ _ _, fun x h1 h2 => by omega, rfl, fun x _ => rfl⟩
theorem MovedUp.step {d d' : Array α} {a k : Nat} (h : MovedUp d a k d') (hk : a ≤ k) (hs : k + 1 < d.size) : MovedUp d a (k + 1) (swp d' k (k + 1)) := by
  obtain ⟨h1, h2, h3, h4, h5⟩ := h
  have g := swp_get d' (i := k) (j := k + 1) (by omega) (by omega)
  refine ⟨by rw [size_swp]; exact h1, permIn_trans _ _ _ _ _ (permIn_mono _ _ _ _ _ _ (Nat.le_refl _) (by omega) (by omega) h2) (swp_permIn _ _ _ _ _ hk (by omega) (by omega) (by omega) (by omega)), fun x hx1 hx2 => ?_, ?_, fun x hx => ?_⟩
  · rw [g]
    by_cases e : x = k
    · subst e; rw [if_neg (by omega), if_pos rfl, h5 _ (by omega)]
    · rw [if_neg (by omega), if_neg e, h3 x hx1 (by omega)]
  · rw [g, if_pos rfl, h4]
  · rw [g, if_neg (by omega), if_neg (by omega), h5 x (by omega)]
/-- d' is d with the one at m moved down to k, those between one up. -/
def MovedDown (d : Array α) (k m : Nat) (d' : Array α) : Prop :=
  d'.size = d.size ∧ PermIn k (m + 1) d d' ∧ (∀ x, k < x → x ≤ m → d'[x]! = d[x - 1]!) ∧ d'[k]! = d[m]! ∧ ∀ x, x < k ∨ m < x → d'[x]! = d[x]!
theorem movedDown_start (d : Array α) (m : Nat) (h : m < d.size) : MovedDown d m m d :=
  ⟨rfl, permIn_refl _ _ _, fun x h1 h2 => by omega, rfl, fun x _ => rfl⟩
theorem MovedDown.step {d d' : Array α} {k m : Nat} (h : MovedDown d (k + 1) m d') (hk : k + 1 ≤ m) (hs : m < d.size) : MovedDown d k m (swp d' (k + 1) k) := by
  obtain ⟨h1, h2, h3, h4, h5⟩ := h
  have g := swp_get d' (i := k + 1) (j := k) (by omega) (by omega)
  refine ⟨by rw [size_swp]; exact h1, permIn_trans _ _ _ _ _ (permIn_mono _ _ _ _ _ _ (by omega) (Nat.le_refl _) (by omega) h2) (swp_permIn _ _ _ _ _ (by omega) (by omega) (by omega) (by omega) (by omega)), fun x hx1 hx2 => ?_, ?_, fun x hx => ?_⟩
  · rw [g]
    by_cases e : x = k + 1
    · subst e; rw [if_neg (by omega), if_pos rfl, h5 _ (by omega)]; rfl
    · rw [if_neg (by omega), if_neg e, h3 x (by omega) hx2]
  · rw [g, if_pos rfl, h4]
  · rw [g, if_neg (by omega), if_neg (by omega), h5 x (by omega)]

/-- What a merge leaves. -/
def Merged (lt : α → α → Bool) (a b : Nat) (d d' : Array α) : Prop := d'.size = d.size ∧ PermIn a b d d' ∧ SortedIn lt a b d'

section
variable {lt t : α → α → Bool} (hS : SWO lt) {a m b : Nat} {d d' : Array α}
include hS
theorem merged1 (h : Mrg lt t a (a + 1) b d) {i : Nat} (hb : b ≤ d.size) (hH : Half (fun k => t d[k]! d[a]!) (a + 1) b i i) (hm : MovedUp d a (i - 1) d') : Merged lt a b d d' := by
  obtain ⟨h1, h2, h3, h4, h5⟩ := hm
  have hi1 := hH.lo_
  have hi2 := hH.hi_
  refine ⟨h1, permIn_mono _ _ _ _ _ _ (Nat.le_refl _) (by omega) hb h2, fun x y hx hxy hy => ?_⟩
  have yes : ∀ k, a + 1 ≤ k → k < i → lt d[k]! d[a]! = true := fun k k1 k2 => by
    have : t d[k]! d[a]! = true := hH.yes k k1 k2
    rwa [h.agree a k (by omega) (by omega) k1 (by omega)] at this
  have no : ∀ k, i ≤ k → k < b → lt d[k]! d[a]! = false := fun k k1 k2 => by
    have : t d[k]! d[a]! = false := hH.no k k1 k2
    rwa [h.agree a k (by omega) (by omega) (by omega) k2] at this
  by_cases hy1 : y < i - 1
  · rw [h3 x hx (by omega), h3 y (by omega) hy1]
    exact h.right _ _ (by omega) (by omega) (by omega)
  · by_cases hy2 : y = i - 1
    · subst hy2
      rw [h4, h3 x hx (by omega)]
      exact swo_asymm hS (yes _ (by omega) (by omega))
    · rw [h5 y (by omega)]
      by_cases hx1 : x < i - 1
      · rw [h3 x hx hx1]
        exact h.right _ _ (by omega) (by omega) hy
      · by_cases hx2 : x = i - 1
        · subst hx2
          rw [h4]
          exact no y (by omega) hy
        · rw [h5 x (by omega)]
          exact h.right _ _ (by omega) hxy hy
theorem merged2 (h : Mrg lt t a m (m + 1) d) {i : Nat} (hb : m < d.size) (hH : Half (fun k => !t d[m]! d[k]!) a m i i) (hm : MovedDown d i m d') : Merged lt a (m + 1) d d' := by
  obtain ⟨h1, h2, h3, h4, h5⟩ := hm
  have hi1 := hH.lo_
  have hi2 := hH.hi_
  refine ⟨h1, permIn_mono _ _ _ _ _ _ hi1 (Nat.le_refl _) (by omega) h2, fun x y hx hxy hy => ?_⟩
  have yes : ∀ k, a ≤ k → k < i → lt d[m]! d[k]! = false := fun k k1 k2 => by
    have := hH.yes k k1 k2
    simp only [Bool.not_eq_true'] at this
    rwa [h.agree k m k1 (by omega) (by omega) (by omega)] at this
  have no : ∀ k, i ≤ k → k < m → lt d[m]! d[k]! = true := fun k k1 k2 => by
    have := hH.no k k1 k2
    simp only [Bool.not_eq_false'] at this
    rwa [h.agree k m (by omega) k2 (by omega) (by omega)] at this
  by_cases hy1 : y < i
  · rw [h5 x (by omega), h5 y (by omega)]
    exact h.left _ _ hx hxy (by omega)
  · by_cases hy2 : y = i
    · subst hy2
      rw [h4, h5 x (by omega)]
      exact yes x hx hxy
    · rw [h3 y (by omega) (by omega)]
      by_cases hx1 : x < i
      · rw [h5 x (by omega)]
        exact sorted_le hS h.left hx (by omega) (by omega)
      · by_cases hx2 : x = i
        · subst hx2
          rw [h4]
          exact swo_asymm hS (no (y - 1) (by omega) (by omega))
        · rw [h3 x (by omega) (by omega)]
          exact h.left _ _ (by omega) (by omega) (by omega)
end

/-! ### ranges that change places, rows that are turned -/
def Swapped (d : Array α) (a b n : Nat) (d' : Array α) : Prop :=
  d'.size = d.size ∧ ∀ k, d'[k]! = if a ≤ k ∧ k < a + n then d[k + (b - a)]! else if b ≤ k ∧ k < b + n then d[k - (b - a)]! else d[k]!
theorem swapped_start (d : Array α) (a b : Nat) : Swapped d a b 0 d := ⟨rfl, fun k => by rw [if_neg (by omega), if_neg (by omega)]⟩
theorem Swapped.step {d d' : Array α} {a b n : Nat} (h : Swapped d a b n d') (hab : a + n < b) (hs : b + n < d.size) : Swapped d a b (n + 1) (swp d' (a + n) (b + n)) := by
  obtain ⟨h1, h2⟩ := h
  have g := swp_get d' (i := a + n) (j := b + n) (by omega) (by omega)
  refine ⟨by rw [size_swp]; exact h1, fun k => ?_⟩
  rw [g]
  by_cases e1 : k = b + n
  · subst e1
    rw [if_pos rfl, if_neg (by omega), if_pos (by omega), h2, if_neg (by omega), if_neg (by omega)]
    try (congr 1 <;> omega)
  · by_cases e2 : k = a + n
    · subst e2
      rw [if_neg e1, if_pos rfl, if_pos (by omega), h2, if_neg (by omega), if_neg (by omega)]
      try (congr 1 <;> omega)
    · rw [if_neg e1, if_neg e2, h2]
      by_cases e3 : a ≤ k ∧ k < a + n
      · rw [if_pos e3, if_pos (by omega)]
      · rw [if_neg e3]
        by_cases e4 : b ≤ k ∧ k < b + n
        · rw [if_pos e4, if_neg (by omega), if_pos (by omega)]
        · rw [if_neg e4, if_neg (by omega), if_neg (by omega)]

/-- The row [a, b) turned so that [m, b) stands first. -/
def turnAt (d : Array α) (a m b k : Nat) : α := if a ≤ k ∧ k < a + (b - m) then d[k + (m - a)]! else if a + (b - m) ≤ k ∧ k < b then d[k - (b - m)]! else d[k]!
def Turned (d : Array α) (a m b : Nat) (d' : Array α) : Prop := d'.size = d.size ∧ PermIn a b d d' ∧ ∀ k, d'[k]! = turnAt d a m b k
/-- Underway: what is left to be turned is [m - i, m + j). -/
structure Turning (d : Array α) (a m b i j : Nat) (d' : Array α) : Prop where
  size : d'.size = d.size
  perm : PermIn a b d d'
  i1 : 1 ≤ i
  j1 : 1 ≤ j
  i2 : i ≤ m - a
  j2 : j ≤ b - m
  tells : ∀ k, turnAt d a m b k = turnAt d' (m - i) m (m + j) k
theorem turning_start {d : Array α} {a m b : Nat} (h1 : a < m) (h2 : m < b) : Turning d a m b (m - a) (b - m) d :=
  ⟨rfl, permIn_refl _ _ _, by omega, by omega, Nat.le_refl _, Nat.le_refl _, fun k => by rw [show m - (m - a) = a by omega, show m + (b - m) = b by omega]⟩
theorem Turning.left {d d1 d2 : Array α} {a m b i j : Nat} (h : Turning d a m b i j d1) (hij : j < i) (h1 : a < m) (h2 : m < b) (hs : Swapped d1 (m - i) m j d2) (hp : PermIn a b d1 d2) : Turning d a m b (i - j) j d2 := by
  obtain ⟨z, pm, i1, j1, i2, j2, tl⟩ := h
  refine ⟨hs.1.trans z, permIn_trans _ _ _ _ _ pm hp, by omega, j1, by omega, j2, fun k => ?_⟩
  rw [tl k]
  have g := hs.2
  unfold turnAt
  by_cases c1 : m - i ≤ k ∧ k < m - i + j
  · rw [if_pos (by omega), if_neg (by omega), if_neg (by omega), g k, if_pos c1]
    try (congr 1 <;> omega)
  · by_cases c2 : m - i + j ≤ k ∧ k < m - i + 2 * j
    · rw [if_neg (by omega), if_pos (by omega), if_pos (by omega), g, if_neg (by omega), if_pos (by omega)]
      try (congr 1 <;> omega)
    · by_cases c3 : m - i + 2 * j ≤ k ∧ k < m + j
      · rw [if_neg (by omega), if_pos (by omega), if_neg (by omega), if_pos (by omega), g, if_neg (by omega), if_neg (by omega)]
        try (congr 1 <;> omega)
      · rw [if_neg (by omega), if_neg (by omega), if_neg (by omega), if_neg (by omega), g, if_neg (by omega), if_neg (by omega)]
theorem Turning.right {d d1 d2 : Array α} {a m b i j : Nat} (h : Turning d a m b i j d1) (hij : i < j) (h1 : a < m) (h2 : m < b) (hs : Swapped d1 (m - i) (m + j - i) i d2) (hp : PermIn a b d1 d2) : Turning d a m b i (j - i) d2 := by
  obtain ⟨z, pm, i1, j1, i2, j2, tl⟩ := h
  refine ⟨hs.1.trans z, permIn_trans _ _ _ _ _ pm hp, i1, by omega, i2, by omega, fun k => ?_⟩
  rw [tl k]
  have g := hs.2
  unfold turnAt
  by_cases c1 : m + j - i ≤ k ∧ k < m + j
  · rw [if_neg (by omega), if_pos (by omega), if_neg (by omega), if_neg (by omega), g k, if_neg (by omega), if_pos (by omega)]
    try (congr 1 <;> omega)
  · by_cases c2 : m - i ≤ k ∧ k < m - i + (j - i)
    · rw [if_pos (by omega), if_pos (by omega), g, if_neg (by omega), if_neg (by omega)]
      try (congr 1 <;> omega)
    · by_cases c3 : m - i + (j - i) ≤ k ∧ k < m + j - i
      · rw [if_pos (by omega), if_neg (by omega), if_pos (by omega), g, if_pos (by omega)]
        try (congr 1 <;> omega)
      · rw [if_neg (by omega), if_neg (by omega), if_neg (by omega), if_neg (by omega), g, if_neg (by omega), if_neg (by omega)]
theorem Turning.last {d d1 d2 : Array α} {a m b i : Nat} (h : Turning d a m b i i d1) (h1 : a < m) (h2 : m < b) (hs : Swapped d1 (m - i) m i d2) (hp : PermIn a b d1 d2) : Turned d a m b d2 := by
  obtain ⟨z, pm, i1, j1, i2, j2, tl⟩ := h
  refine ⟨hs.1.trans z, permIn_trans _ _ _ _ _ pm hp, fun k => ?_⟩
  rw [tl k, hs.2]
  unfold turnAt
  by_cases c1 : m - i ≤ k ∧ k < m - i + i
  · rw [if_pos c1, if_pos (by omega)]; try (congr 1 <;> omega)
  · rw [if_neg c1]
    by_cases c2 : m ≤ k ∧ k < m + i
    · rw [if_pos c2, if_neg (by omega), if_pos (by omega)]; try (congr 1 <;> omega)
    · rw [if_neg c2, if_neg (by omega), if_neg (by omega)]
end Go.Proofs.YtjhijinbpdnmeaaGreat
end
section
/- Rows that are merged in halves, and runs that grow by merging: what becomes of an array. No Go in sight. -/
namespace Go.Proofs.YtjhijinbpdnmeaaGreat
open Go.Sort
set_option linter.unusedVariables false
set_option linter.unusedSectionVars false
variable {α : Type} [Inhabited α]

/-- Behind the turn of a merge: both halves are two rows to be merged, none of the later half is less than one of the earlier. -/
structure Cut (lt t : α → α → Bool) (a s mid e b : Nat) (d d1 : Array α) : Prop where
  size : d1.size = d.size
  perm : PermIn a b d d1
  mrgL : Mrg lt t a s mid d1
  mrgR : Mrg lt t mid e b d1
  cross : ∀ i j, a ≤ i → i < mid → mid ≤ j → j < b → lt d1[j]! d1[i]! = false
  s1 : a ≤ s
  s2 : s ≤ mid
  e1 : mid ≤ e
  e2 : e ≤ b

theorem turned_none {d : Array α} {s m e : Nat} (h : s = m ∨ m = e) : ∀ k, d[k]! = turnAt d s m e k := fun k => by
  unfold turnAt
  rcases h with rfl | rfl
  · by_cases c1 : s ≤ k ∧ k < s + (e - s)
    · rw [if_pos c1]; try (congr 1 <;> omega)
    · rw [if_neg c1, if_neg (by omega)]
  · rw [if_neg (by omega)]
    by_cases c2 : s + (m - m) ≤ k ∧ k < m
    · rw [if_pos c2]; try (congr 1 <;> omega)
    · rw [if_neg c2]

section
variable {lt t : α → α → Bool} (hS : SWO lt) {a m b s e mid : Nat} {d d1 d2 d3 : Array α}
include hS
theorem cut_of (h : Mrg lt t a m b d) (hb : b ≤ d.size) (h1 : a ≤ s) (h2 : s ≤ m) (h3 : m ≤ e) (h4 : e ≤ b) (h5 : s + e = mid + m)
    (c1 : s = a ∨ e = b ∨ (a < s ∧ e < b ∧ lt d[e]! d[s - 1]! = false)) (c2 : s = m ∨ e = m ∨ (s < m ∧ m < e ∧ lt d[e - 1]! d[s]! = true))
    (hz : d1.size = d.size) (hp : PermIn s e d d1) (ht : ∀ k, d1[k]! = turnAt d s m e k) : Cut lt t a s mid e b d d1 := by
  have g1 : ∀ k, k < s → d1[k]! = d[k]! := fun k hk => by rw [ht]; unfold turnAt; rw [if_neg (by omega), if_neg (by omega)]
  have g2 : ∀ k, s ≤ k → k < mid → d1[k]! = d[k + (m - s)]! := fun k k1 k2 => by rw [ht]; unfold turnAt; rw [if_pos (by omega)]
  have g3 : ∀ k, mid ≤ k → k < e → d1[k]! = d[k - (e - m)]! := fun k k1 k2 => by rw [ht]; unfold turnAt; rw [if_neg (by omega), if_pos (by omega)]
  have g4 : ∀ k, e ≤ k → d1[k]! = d[k]! := fun k hk => by rw [ht]; unfold turnAt; rw [if_neg (by omega), if_neg (by omega)]
  refine ⟨hz, permIn_mono _ _ _ _ _ _ h1 h4 hb hp, ⟨fun i j i1 i2 i3 => ?_, fun i j i1 i2 i3 => ?_, fun i j i1 i2 i3 i4 => ?_⟩, ⟨fun i j i1 i2 i3 => ?_, fun i j i1 i2 i3 => ?_, fun i j i1 i2 i3 i4 => ?_⟩, fun i j i1 i2 i3 i4 => ?_, h1, by omega, by omega, h4⟩
  · rw [g1 i (by omega), g1 j i3]; exact h.left i j i1 i2 (by omega)
  · rw [g2 i i1 (by omega), g2 j (by omega) i3]; exact h.right _ _ (by omega) (by omega) (by omega)
  · rw [g1 i i2, g2 j i3 i4]; exact h.agree _ _ i1 (by omega) (by omega) (by omega)
  · rw [g3 i i1 (by omega), g3 j (by omega) i3]; exact h.left _ _ (by omega) (by omega) (by omega)
  · rw [g4 i i1, g4 j (by omega)]; exact h.right _ _ (by omega) i2 i3
  · rw [g3 i i1 i2, g4 j i3]; exact h.agree _ _ (by omega) (by omega) (by omega) i4
  · by_cases hi : i < s
    · rw [g1 i hi]
      by_cases hj : j < e
      · rw [g3 j i3 hj]
        exact sorted_le hS h.left i1 (by omega) (by omega)
      · rw [g4 j (by omega)]
        rcases c1 with c | c | ⟨c, c', c''⟩
        · omega
        · omega
        · exact hS.ntrans _ _ _ (sorted_le hS h.right (i := e) (j := j) h3 (by omega) i4) (hS.ntrans _ _ _ c'' (sorted_le hS h.left (i := i) (j := s - 1) i1 (by omega) (by omega)))
    · rw [g2 i (by omega) i2]
      by_cases hj : j < e
      · rw [g3 j i3 hj]
        rcases c2 with c | c | ⟨c, c', c''⟩
        · omega
        · omega
        · have e1 := sorted_le hS h.right (i := i + (m - s)) (j := e - 1) (by omega) (by omega) (by omega)
          have e2 := sorted_le hS h.left (i := s) (j := j - (e - m)) (by omega) (by omega) (by omega)
          exact swo_asymm hS (swo_lt_of_lt_le hS (swo_lt_of_le_lt hS e1 c'') e2)
      · rw [g4 j (by omega)]
        exact sorted_le hS h.right (by omega) (by omega) i4
theorem cut_skipL (h : Cut lt t a s mid e b d d1) (hn : ¬ (a < s ∧ s < mid)) : Merged lt a mid d1 d1 := by
  refine ⟨rfl, permIn_refl _ _ _, ?_⟩
  have := h.s1
  have := h.s2
  by_cases e : s = a
  · subst e; exact h.mrgL.right
  · obtain rfl : s = mid := by omega
    exact h.mrgL.left
theorem cut_skipR (h : Cut lt t a s mid e b d d1) (hn : ¬ (mid < e ∧ e < b)) (h2 : Merged lt a mid d1 d2) : Merged lt mid b d2 d2 := by
  refine ⟨rfl, permIn_refl _ _ _, ?_⟩
  have := h.e1
  have := h.e2
  have hsame : ∀ k, mid ≤ k → d2[k]! = d1[k]! := fun k hk => h2.2.1.2.1 k (.inr hk)
  intro i j i1 i2 i3
  rw [hsame i i1, hsame j (by omega)]
  by_cases c : e = mid
  · subst c; exact h.mrgR.right i j i1 i2 i3
  · obtain rfl : e = b := by omega
    exact h.mrgR.left i j i1 i2 i3
theorem cut_R (h : Cut lt t a s mid e b d d1) (h2 : Merged lt a mid d1 d2) : Mrg lt t mid e b d2 := by
  have hsame : ∀ k, mid ≤ k → d2[k]! = d1[k]! := fun k hk => h2.2.1.2.1 k (.inr hk)
  have := h.e1
  refine ⟨fun i j i1 i2 i3 => ?_, fun i j i1 i2 i3 => ?_, fun i j i1 i2 i3 i4 => ?_⟩
  · rw [hsame i i1, hsame j (by omega)]; exact h.mrgR.left i j i1 i2 i3
  · rw [hsame i (by omega), hsame j (by omega)]; exact h.mrgR.right i j i1 i2 i3
  · rw [hsame i i1, hsame j (by omega)]; exact h.mrgR.agree i j i1 i2 i3 i4
theorem cut_end (h : Cut lt t a s mid e b d d1) (hb : b ≤ d.size) (h2 : Merged lt a mid d1 d2) (h3 : Merged lt mid b d2 d3) : Merged lt a b d d3 := by
  obtain ⟨z2, p2, s2⟩ := h2
  obtain ⟨z3, p3, s3⟩ := h3
  have hs1 := h.s1; have hs2 := h.s2; have he1 := h.e1; have he2 := h.e2; have hz := h.size
  refine ⟨by omega, permIn_trans _ _ _ _ _ h.perm (permIn_trans _ _ _ _ _ (permIn_mono _ _ _ _ _ _ (Nat.le_refl _) (by omega) (by omega) p2) (permIn_mono _ _ _ _ _ _ (by omega) (Nat.le_refl _) (by omega) p3)), fun i j i1 i2 i3 => ?_⟩
  by_cases hj : j < mid
  · rw [p3.2.1 j (.inl hj), p3.2.1 i (.inl (by omega))]
    exact s2 i j i1 i2 hj
  · by_cases hi : i < mid
    · rw [p3.2.1 i (.inl hi)]
      refine permIn_all d2 d3 mid b (fun y => lt y d2[i]! = false) (by omega) p3 (fun k k1 k2 => ?_) j (by omega) i3
      rw [p2.2.1 k (.inr k1)]
      exact permIn_all d1 d2 a mid (fun x => lt d1[k]! x = false) (by omega) p2 (fun x x1 x2 => h.cross x k x1 x2 k1 k2) i i1 hi
    · exact s3 i j (by omega) i2 i3
end

/-! ### insertion by a test that tells what the order tells -/
theorem insInner_agree {lt t : α → α → Bool} (a : Nat) : ∀ (j : Nat) (d : Array α), j < d.size → (∀ i, a ≤ i → i < j → t d[j]! d[i]! = lt d[j]! d[i]!) → insInner t a j d = insInner lt a j d
  | 0, d, _, _ => rfl
  | j + 1, d, hs, h => by
    unfold insInner
    by_cases ha : j + 1 > a
    · rw [h j (by omega) (by omega)]
      cases lt d[j + 1]! d[j]!
      · simp
      · simp only [ha, decide_true, Bool.and_self, if_true]
        have g := swp_get d (i := j + 1) (j := j) hs (by omega)
        refine insInner_agree a j _ (by rw [size_swp]; omega) (fun i i1 i2 => ?_)
        rw [g, g, if_pos rfl, if_neg (by omega), if_neg (by omega)]
        exact h i i1 (by omega)
    · simp [ha]
theorem insInner_perm (lt : α → α → Bool) (a : Nat) : ∀ (j i : Nat) (d : Array α), a ≤ j → j ≤ i → i < d.size → PermIn a (i + 1) d (insInner lt a j d)
  | 0, i, d, _, _, _ => permIn_refl _ _ _
  | j + 1, i, d, h1, h2, hs => by
    unfold insInner
    split
    · rename_i hc
      have ha : j + 1 > a := by simp at hc; omega
      exact permIn_trans _ _ _ _ _ (swp_permIn _ _ _ _ _ h1 (by omega) (by omega) (by omega) (by omega)) (insInner_perm lt a j i _ (by omega) (by omega) (by rw [size_swp]; exact hs))
    · exact permIn_refl _ _ _
theorem insOuter_agree {lt t : α → α → Bool} (a b : Nat) : ∀ (n i : Nat) (d : Array α), b - i = n → a ≤ i → b ≤ d.size → (∀ j k, a ≤ j → j < k → i ≤ k → k < b → t d[k]! d[j]! = lt d[k]! d[j]!) → insOuter t a b i d = insOuter lt a b i d
  | 0, i, d, hn, _, _, _ => by
    unfold insOuter; rw [if_neg (by omega), if_neg (by omega)]
  | n + 1, i, d, hn, ha, hb, h => by
    unfold insOuter
    rw [if_pos (by omega), if_pos (by omega), insInner_agree a i d (by omega) (fun j j1 j2 => h j i j1 j2 (Nat.le_refl _) (by omega))]
    have hp := insInner_perm lt a i i d ha (Nat.le_refl _) (by omega)
    refine insOuter_agree a b n (i + 1) _ (by omega) (by omega) (by rw [hp.1]; exact hb) (fun j k j1 j2 j3 j4 => ?_)
    rw [hp.2.1 k (.inr (by omega))]
    by_cases hj : j < i + 1
    · exact permIn_all d _ a (i + 1) (fun y => t d[k]! y = lt d[k]! y) (by omega) hp (fun x x1 x2 => h x k x1 (by omega) (by omega) j4) j j1 hj
    · rw [hp.2.1 j (.inr (by omega))]
      exact h j k j1 j2 (by omega) j4
theorem insertion_merged {lt t : α → α → Bool} (hS : SWO lt) {a b : Nat} {d : Array α} (hab : a ≤ b) (hb : b ≤ d.size) (h : ∀ i j, a ≤ i → i < j → j < b → t d[j]! d[i]! = lt d[j]! d[i]!) : Merged lt a b d (insertionSort t d a b) := by
  have e : insertionSort t d a b = insertionSort lt d a b := by
    unfold insertionSort
    exact insOuter_agree a b _ (a + 1) d rfl (by omega) hb (fun j k j1 j2 j3 j4 => h j k j1 j2 j4)
  rw [e]
  have := insertionSort_holds (lt := lt) hS d a b hab hb
  exact ⟨this.1.1, this.1, this.2⟩

/-! ### runs that grow -/
/-- Runs of c are in order; of two that lie in different ones the test tells what the order tells. -/
structure Done (lt t : α → α → Bool) (c n : Nat) (d0 d : Array α) : Prop where
  size : d.size = d0.size
  perm : PermIn 0 n d0 d
  srt : ∀ i j, i < j → j < n → i / c = j / c → lt d[j]! d[i]! = false
  agr : ∀ i j, i < j → j < n → i / c ≠ j / c → t d[j]! d[i]! = lt d[j]! d[i]!
/-- Ahead of a runs of e, from there on runs of c. -/
structure Runs (lt t : α → α → Bool) (c e a n : Nat) (d0 d : Array α) : Prop where
  size : d.size = d0.size
  perm : PermIn 0 n d0 d
  done : ∀ i j, i < j → j < n → j < a → i / e = j / e → lt d[j]! d[i]! = false
  todo : ∀ i j, i < j → j < n → a ≤ i → i / c = j / c → lt d[j]! d[i]! = false
  agr1 : ∀ i j, i < j → j < n → i / e ≠ j / e → t d[j]! d[i]! = lt d[j]! d[i]!
  agr2 : ∀ i j, i < j → j < n → a ≤ i → i / c ≠ j / c → t d[j]! d[i]! = lt d[j]! d[i]!

theorem div_in {e q i : Nat} (he : 0 < e) (h1 : e * q ≤ i) (h2 : i < e * q + e) : i / e = q :=
  Nat.div_eq_of_lt_le (by rw [Nat.mul_comm]; exact h1) (by rw [Nat.add_mul, Nat.one_mul, Nat.mul_comm q e]; exact h2)
theorem div_below {e q i : Nat} (he : 0 < e) (h : i < e * q) : i / e < q := Nat.div_lt_of_lt_mul h
theorem div_above {e q i : Nat} (he : 0 < e) (h : e * q + e ≤ i) : q < i / e := by
  have : q + 1 ≤ i / e := (Nat.le_div_iff_mul_le he).2 (by rw [Nat.add_mul, Nat.one_mul, Nat.mul_comm q e]; exact h)
  omega

section
variable {lt t : α → α → Bool} {c e a n : Nat} {d0 d d' : Array α}
theorem done_start (h : ∀ i j, i < j → j < n → t d[j]! d[i]! = lt d[j]! d[i]!) : Done lt t 1 n d d :=
  ⟨rfl, permIn_refl _ _ _, fun i j h1 h2 h3 => by simp at h3; omega, fun i j h1 h2 _ => h i j h1 h2⟩
theorem Done.runs (h : Done lt t c n d0 d) (r : Nat) : Runs lt t c (c * r) 0 n d0 d :=
  ⟨h.size, h.perm, fun i j _ _ h3 => by omega, fun i j h1 h2 _ h4 => h.srt i j h1 h2 h4, fun i j h1 h2 h3 => h.agr i j h1 h2 (fun he => h3 (by rw [← Nat.div_div_eq_div_mul, ← Nat.div_div_eq_div_mul, he])), fun i j h1 h2 _ h4 => h.agr i j h1 h2 h4⟩
theorem Runs.fin (h : Runs lt t c e a n d0 d) {q : Nat} (hc : 0 < c) (he0 : 0 < e) (ha : a = e * q) (hn : n ≤ a + c) (he : e = c * 2 ∨ n ≤ a) : Done lt t e n d0 d := by
  refine ⟨h.size, h.perm, fun i j h1 h2 h3 => ?_, h.agr1⟩
  by_cases hj : j < a
  · exact h.done i j h1 h2 hj h3
  · rcases he with rfl | he
    · have hq : a = c * (2 * q) := by rw [ha, Nat.mul_assoc]
      by_cases hi : a ≤ i
      · refine h.todo i j h1 h2 hi ?_
        rw [div_in hc (q := 2 * q) (by omega) (by omega), div_in hc (q := 2 * q) (by omega) (by omega)]
      · have := div_below he0 (i := i) (q := q) (by omega)
        have := div_in he0 (i := j) (q := q) (by omega) (by omega)
        omega
    · omega
theorem Runs.mrg (h : Runs lt t c (c * 2) a n d0 d) {q b : Nat} (hc : 0 < c) (ha : a = c * 2 * q) (hb : b ≤ a + c * 2) (hcb : a + c ≤ b) (hn : b ≤ n) : Mrg lt t a (a + c) b d := by
  have hq : a = c * (2 * q) := by rw [ha, Nat.mul_assoc]
  have hq2 : a + c = c * (2 * q + 1) := by rw [Nat.mul_add, Nat.mul_one, ← hq]
  have d1 : ∀ i, a ≤ i → i < a + c → i / c = 2 * q := fun i i1 i2 => div_in hc (by omega) (by omega)
  have d2 : ∀ i, a + c ≤ i → i < b → i / c = 2 * q + 1 := fun i i1 i2 => div_in hc (by omega) (by omega)
  refine ⟨fun i j i1 i2 i3 => ?_, fun i j i1 i2 i3 => ?_, fun i j i1 i2 i3 i4 => ?_⟩
  · exact h.todo i j i2 (by omega) i1 (by rw [d1 i i1 (by omega), d1 j (by omega) i3])
  · exact h.todo i j i2 (by omega) (by omega) (by rw [d2 i i1 (by omega), d2 j (by omega) i3])
  · exact h.agr2 i j (by omega) (by omega) i1 (by rw [d1 i i1 i2, d2 j i3 i4]; omega)
theorem Runs.step (h : Runs lt t c e a n d0 d) {q b : Nat} (he : 0 < e) (hr : ∃ r, e = c * r) (ha : a = e * q) (hb : b = a + e ∨ (b = n ∧ n ≤ a + e)) (hab : a ≤ b) (hbn : b ≤ n) (hn : n ≤ d.size) (hm : Merged lt a b d d') : Runs lt t c e (a + e) n d0 d' := by
  obtain ⟨z, p, s⟩ := hm
  have o1 : ∀ k, k < a → d'[k]! = d[k]! := fun k hk => p.2.1 k (.inl hk)
  have o2 : ∀ k, b ≤ k → d'[k]! = d[k]! := fun k hk => p.2.1 k (.inr hk)
  have all : ∀ (P : α → Prop), (∀ k, a ≤ k → k < b → P d[k]!) → ∀ k, a ≤ k → k < b → P d'[k]! := fun P => permIn_all d d' a b P (by omega) p
  refine ⟨z.trans h.size, permIn_trans _ _ _ _ _ h.perm (permIn_mono _ _ _ _ _ _ (Nat.zero_le _) hbn (by omega) p), fun i j h1 h2 h3 h4 => ?_, fun i j h1 h2 h3 h4 => ?_, fun i j h1 h2 h3 => ?_, fun i j h1 h2 h3 h4 => ?_⟩
  · by_cases hj : j < a
    · rw [o1 j hj, o1 i (by omega)]; exact h.done i j h1 h2 hj h4
    · have hi : a ≤ i := by
        rcases Nat.lt_or_ge i a with hi | hi
        · have := div_below he (i := i) (q := q) (by omega)
          have := div_in he (i := j) (q := q) (by omega) (by omega)
          omega
        · exact hi
      exact s i j hi h1 (by omega)
  · rw [o2 j (by omega), o2 i (by omega)]; exact h.todo i j h1 h2 (by omega) h4
  · by_cases hi : a ≤ i ∧ i < b
    · have hdi := div_in he (i := i) (q := q) (by omega) (by omega)
      have hj : b ≤ j := by
        rcases Nat.lt_or_ge j b with hj | hj
        · have := div_in he (i := j) (q := q) (by omega) (by omega); omega
        · exact hj
      rw [o2 j hj]
      refine all (fun y => t d[j]! y = lt d[j]! y) (fun k k1 k2 => ?_) i hi.1 hi.2
      have := div_in he (i := k) (q := q) (by omega) (by omega)
      exact h.agr1 k j (by omega) h2 (by omega)
    · have ei : d'[i]! = d[i]! := by
        rcases Nat.lt_or_ge i a with hi2 | hi2
        · exact o1 i hi2
        · exact o2 i (by omega)
      rw [ei]
      by_cases hj : a ≤ j ∧ j < b
      · have hdj := div_in he (i := j) (q := q) (by omega) (by omega)
        have hia : i < a := by omega
        refine all (fun y => t y d[i]! = lt y d[i]!) (fun k k1 k2 => ?_) j hj.1 hj.2
        have := div_in he (i := k) (q := q) (by omega) (by omega)
        exact h.agr1 i k (by omega) (by omega) (by omega)
      · have ej : d'[j]! = d[j]! := by
          rcases Nat.lt_or_ge j a with hj2 | hj2
          · exact o1 j hj2
          · exact o2 j (by omega)
        rw [ej]
        exact h.agr1 i j h1 h2 h3
  · rw [o2 j (by omega), o2 i (by omega)]; exact h.agr2 i j h1 h2 (by omega) h4
theorem Done.whole (h : Done lt t c n d0 d) (hn : n ≤ c) : SortedIn lt 0 n d := fun i j _ h1 h2 =>
  h.srt i j h1 h2 (by rw [Nat.div_eq_of_lt (by omega), Nat.div_eq_of_lt (by omega)])
end
end Go.Proofs.YtjhijinbpdnmeaaGreat
end
section
/- What a walk through the stable sort leans on at this translation; ranges that change places (swapRangeCmpFunc), rows that are turned (rotateCmpFunc). -/
namespace Go.Proofs.YtjhijinbpdnmeaaGreat
open Go.ChangeShapes Go.WideShapes Go.ChangeAt Go.RowKit Go.Shelf Go.Lib Go.Sort Go.Proofs
set_option linter.unusedVariables false
variable {α : Type} [Inhabited α]

set_option maxHeartbeats 4000000 in
set_option maxRecDepth 1000000 in
theorem swapRange_any (k : Nat) (aE : ∀ w, (isAgg 41).run Tryz.prog w = .ok true w) (zE : ∀ w, (Go.sizeOf 41).run Tryz.prog w = .ok k w) (enc : α → List Value) (g : Nat) (cb : Array Value) (blk off cap a b n : Nat) (d0 d : Array α) (w0 w : World)
    (R : RowK enc k w0 blk off d0) (hs : d.size = d0.size) (S : SWK enc k w0 blk off d w) (hab : a + n ≤ b) (hb : b + n ≤ d.size) (hsz : d.size < 1152921504606846976) :
    Calls Tryz.prog 115 #[.slice (some ⟨blk, off, none⟩) d.size cap, .int .i64 a, .int .i64 b, .int .i64 n, .func (.func g) #[] cb] w fun e w' =>
      e = .returned (.tuple #[]) ∧ ∃ d', SWK enc k w0 blk off d' w' ∧ Swapped d a b n d' ∧ PermIn a (b + n) d d' := by
  have mixed : Tryz.prog.follows .mixedOrders = true := by kernel_rfl
  have S0 : Hid (SWK enc k w0 blk off d w) := Lib.hid S
  clear S
  go_enter Tryz.func115, Tryz.ntmps115
  go_wp2
  go_loopg [10] n (fun kx s10 wr => ∃ (i : Nat) (dk : Array α), s10 = .int .i64 i ∧ i ≤ n ∧ n - i ≤ kx ∧ Hid (SWK enc k w0 blk off dk wr) ∧ Hid (Swapped d a b i dk) ∧ Hid (PermIn a (b + n) d dk))
  case atStart => exact ⟨0, d, rfl, Nat.zero_le _, by omega, S0, Lib.hid (swapped_start _ _ _), Lib.hid (permIn_refl _ _ _)⟩
  case round =>
    clear S0
    obtain ⟨i, dk, rfl, hi, hkx, S1, HSw, HP⟩ := hrel
    by_cases hlt : i < n
    · have hds : Hid (dk.size = d.size) := Lib.hid HSw.out.1
      have hz := hds.out
      have ea : ((a : Int) + (i : Int)).toNat = a + i := by omega
      have pa : (0 : Int) ≤ (a : Int) + (i : Int) := by omega
      have ba : (a : Int) + (i : Int) < (d.size : Int) := by omega
      have ra : IntKind.i64.wrap ((a : Int) + (i : Int)) = (a : Int) + (i : Int) := by rw [IntKind.wrap_i64]; omega
      have ec : ((b : Int) + (i : Int)).toNat = b + i := by omega
      have pc : (0 : Int) ≤ (b : Int) + (i : Int) := by omega
      have bc : (b : Int) + (i : Int) < (d.size : Int) := by omega
      have rc : IntKind.i64.wrap ((b : Int) + (i : Int)) = (b : Int) + (i : Int) := by rw [IntKind.wrap_i64]; omega
      have S2 : Hid (SWK enc k w0 blk off (swp dk (a + i) (b + i)) ((wr.drew.setCells blk (off + (a + i) * k) (enc dk[b + i]!)).setCells blk (off + (b + i) * k) (enc dk[a + i]!))) := Lib.hid (S1.out.swapped R (a + i) (b + i) (by omega) (by omega))
      have la := S1.out.ld1 R (by omega) Tryz.prog (a + i) (by omega)
      have lb := S1.out.ld1 R (by omega) Tryz.prog (b + i) (by omega)
      have sa := S1.out.st1 R (by omega) Tryz.prog (a + i) (by omega) dk[b + i]!
      have sb := S1.out.st2 R (by omega) Tryz.prog (a + i) (b + i) (by omega) (by omega) dk[b + i]! dk[a + i]!
      have na : (enc dk[a + i]!).length = k := R.hk _
      have nb : (enc dk[b + i]!).length = k := R.hk _
      generalize enc dk[a + i]! = cI at S2 la sb na
      generalize enc dk[b + i]! = cJ at S2 lb sa sb nb
      clear S1 hz
      go_wp2_with fail
      go_big_region_o
      clear la lb sa sb
      generalize (wr.drew.setCells blk (off + (a + i) * k) cJ).setCells blk (off + (b + i) * k) cI = w2 at S2 ⊢
      go_wp2
      go_roundg (n - (i + 1))
      case measure => omega
      case rel =>
        exact ⟨i + 1, swp dk (a + i) (b + i), by go_num, by omega, Nat.le_refl _, S2, Lib.hid (HSw.out.step (by omega) (by omega)), Lib.hid (permIn_trans _ _ _ _ _ HP.out (swp_permIn _ _ _ _ _ (by omega) (by omega) (by omega) (by omega) (by have := hds.out; omega)))⟩
    · obtain rfl : i = n := by omega
      go_wp2
      go_end0
      exact ⟨rfl, dk, S1.out, HSw.out, HP.out⟩
end Go.Proofs.YtjhijinbpdnmeaaGreat
end
section
/- A row of an array is turned (slices.rotateCmpFunc). -/
namespace Go.Proofs.YtjhijinbpdnmeaaGreat
open Go.ChangeShapes Go.WideShapes Go.ChangeAt Go.RowKit Go.Shelf Go.Lib Go.Sort Go.Proofs
set_option linter.unusedVariables false
variable {α : Type} [Inhabited α]

theorem swapped_perm_in {d d' : Array α} {lo hi a b n : Nat} (h1 : lo ≤ a) (h2 : b + n ≤ hi) (hs : hi ≤ d.size) (hp : PermIn a (b + n) d d') : PermIn lo hi d d' := permIn_mono _ _ _ _ _ _ h1 h2 hs hp

set_option maxHeartbeats 4000000 in
set_option maxRecDepth 1000000 in
theorem rotate_any (k : Nat) (aE : ∀ w, (isAgg 41).run Tryz.prog w = .ok true w) (zE : ∀ w, (Go.sizeOf 41).run Tryz.prog w = .ok k w) (enc : α → List Value) (g : Nat) (cb : Array Value) (blk off cap a m b : Nat) (d0 d : Array α) (w0 w : World)
    (R : RowK enc k w0 blk off d0) (hs : d.size = d0.size) (S : SWK enc k w0 blk off d w) (ham : a < m) (hmb : m < b) (hb : b ≤ d.size) (hsz : d.size < 1152921504606846976) :
    Calls Tryz.prog 114 #[.slice (some ⟨blk, off, none⟩) d.size cap, .int .i64 a, .int .i64 m, .int .i64 b, .func (.func g) #[] cb] w fun e w' =>
      e = .returned (.tuple #[]) ∧ ∃ d', SWK enc k w0 blk off d' w' ∧ Turned d a m b d' := by
  have mixed : Tryz.prog.follows .mixedOrders = true := by kernel_rfl
  have S0 : Hid (SWK enc k w0 blk off d w) := Lib.hid S
  clear S
  have HS := Lib.hid hs
  clear hs
  go_enter Tryz.func114, Tryz.ntmps114
  go_wp2
  go_loopg [10, 11] (b - a) (fun kx s10 s11 wr => ∃ (i j : Nat) (dk : Array α), s10 = .int .i64 i ∧ s11 = .int .i64 j ∧ i + j ≤ kx ∧ Hid (SWK enc k w0 blk off dk wr) ∧ Hid (Turning d a m b i j dk))
  case atStart => exact ⟨m - a, b - m, d, by rw [show ((m - a : Nat) : Int) = (m : Int) - (a : Int) by omega], by rw [show ((b - m : Nat) : Int) = (b : Int) - (m : Int) by omega], by omega, S0, Lib.hid (turning_start ham hmb)⟩
  case round =>
    clear S0
    obtain ⟨i, j, dk, rfl, rfl, hkx, S1, HT⟩ := hrel
    have hi1 := HT.out.i1
    have hj1 := HT.out.j1
    have hi2 := HT.out.i2
    have hj2 := HT.out.j2
    have hds : Hid (dk.size = d.size) := Lib.hid HT.out.size
    have swR : ∀ (aa bb nn : Nat) (xa xb xn : Int), xa = aa → xb = bb → xn = nn → a ≤ aa → aa + nn ≤ bb → bb + nn ≤ b → ∀ (W : World), SWK enc k w0 blk off dk W →
        Calls Tryz.prog 115 #[.slice (some ⟨blk, off, none⟩) d.size cap, .int .i64 xa, .int .i64 xb, .int .i64 xn, .func (.func g) #[] cb] W fun e w' =>
          e = .returned (.tuple #[]) ∧ ∃ d', SWK enc k w0 blk off d' w' ∧ Swapped dk aa bb nn d' ∧ PermIn aa (bb + nn) dk d' := by
      intro aa bb nn xa xb xn ea eb en h1 h2 h3 W hW
      subst ea eb en
      have := swapRange_any k aE zE enc g cb blk off cap aa bb nn d0 dk w0 W R (hds.out.trans HS.out) hW h2 (by have := hds.out; omega) (by have := hds.out; omega)
      rwa [hds.out] at this
    have SR := Lib.hid swR
    clear swR
    have him : (i : Int) ≤ (m : Int) := by omega
    have hjb : (m : Int) + (j : Int) ≤ (b : Int) := by omega
    by_cases hne : i = j
    · subst hne
      have hb1 : ((i : Int) != (i : Int)) = false := by simp
      have hb2 : ((i : Int) == (i : Int)) = true := by simp
      go_wp2_with (go_at_call 115; ((with_reducible refine (SR.out (m - i) m i ((m : Int) - (i : Int)) (m : Int) (i : Int) (by omega) (by omega) (by omega) (by omega) (by omega) (by omega) _ S1.out).mono ?_)); rintro e w2 ⟨rfl, d2, S2, hsw, hp⟩)
      go_end0
      exact ⟨rfl, d2, S2, HT.out.last ham hmb hsw (swapped_perm_in (by omega) (by omega) (by have := hds.out; omega) hp)⟩
    · have hb1 : ((i : Int) != (j : Int)) = true := by simp; omega
      have hb2 : ((i : Int) == (j : Int)) = false := by simp; omega
      by_cases hij : j < i
      · have hd : decide ((j : Int) < (i : Int)) = true := decide_eq_true (by omega)
        have hd2 : decide (j < i) = true := decide_eq_true (by omega)
        go_wp2_with (go_at_call 115; ((with_reducible refine (SR.out (m - i) m j ((m : Int) - (i : Int)) (m : Int) (j : Int) (by omega) (by omega) (by omega) (by omega) (by omega) (by omega) _ S1.out).mono ?_)); rintro e w2 ⟨rfl, d2, S2, hsw, hp⟩)
        have S2' := Lib.hid S2
        have HT2 := Lib.hid (HT.out.left hij ham hmb hsw (swapped_perm_in (by omega) (by omega) (by have := hds.out; omega) hp))
        clear S2 hsw hp
        go_roundg (i + j - 1)
        case measure => omega
        case rel => exact ⟨i - j, j, d2, by rw [show ((i - j : Nat) : Int) = (i : Int) - (j : Int) by omega], rfl, by omega, S2', HT2⟩
      · have hd : decide ((j : Int) < (i : Int)) = false := decide_eq_false (by omega)
        have hd2 : decide (j < i) = false := decide_eq_false (by omega)
        go_wp2_with (go_at_call 115; ((with_reducible refine (SR.out (m - i) (m + j - i) i ((m : Int) - (i : Int)) ((m : Int) + (j : Int) - (i : Int)) (i : Int) (by omega) (by omega) (by omega) (by omega) (by omega) (by omega) _ S1.out).mono ?_)); rintro e w2 ⟨rfl, d2, S2, hsw, hp⟩)
        have S2' := Lib.hid S2
        have HT2 := Lib.hid (HT.out.right (by omega) ham hmb hsw (swapped_perm_in (by omega) (by omega) (by have := hds.out; omega) hp))
        clear S2 hsw hp
        go_roundg (i + j - 1)
        case measure => omega
        case rel => exact ⟨i, j - i, d2, rfl, by rw [show ((j - i : Nat) : Int) = (j : Int) - (i : Int) by omega], by omega, S2', HT2⟩
end Go.Proofs.YtjhijinbpdnmeaaGreat
end
section
/- Merging in place where the left row is of one (slices.symMergeCmpFunc). -/
namespace Go.Proofs.YtjhijinbpdnmeaaGreat
open Go.ChangeShapes Go.WideShapes Go.ChangeAt Go.RowKit Go.Shelf Go.Lib Go.Sort Go.Proofs
set_option linter.unusedVariables false
variable {α : Type} [Inhabited α]

/-- What a merge answers. -/
def MergeTo (lt : α → α → Bool) (enc : α → List Value) (k : Nat) (w0 : World) (blk off a b : Nat) (d : Array α) (e : Ending) (w' : World) : Prop :=
  e = .returned (.tuple #[]) ∧ ∃ d', SWK enc k w0 blk off d' w' ∧ Merged lt a b d d'

set_option maxHeartbeats 4000000 in
set_option maxRecDepth 1000000 in
theorem symMerge_one (k : Nat) (aE : ∀ w, (isAgg 41).run Tryz.prog w = .ok true w) (zE : ∀ w, (Go.sizeOf 41).run Tryz.prog w = .ok k w) (enc : α → List Value) (cf : α → α → Int) (lt : α → α → Bool) (hS : SWO lt) (g : Nat) (cb : Array Value) (blk off cap a m b : Nat) (d0 d : Array α) (w0 w : World)
    (eg : ∀ args w, (callFunc g args).run Tryz.prog w = .ok (.enter g args) w) (hcmp : CmpLays Tryz.prog g cb enc k cf blk off d0.size w0) (R : RowK enc k w0 blk off d0) (hs : d.size = d0.size) (S : SWK enc k w0 blk off d w) (hm : m = a + 1) (hmb : m < b) (hb : b ≤ d.size) (hsz : d.size < 1152921504606846976)
    (hM : Mrg lt (ltOf cf) a m b d) :
    Calls Tryz.prog 104 #[.slice (some ⟨blk, off, none⟩) d.size cap, .int .i64 a, .int .i64 m, .int .i64 b, .func (.func g) #[] cb] w (MergeTo lt enc k w0 blk off a b d) := by
  have mixed : Tryz.prog.follows .mixedOrders = true := by kernel_rfl
  have S0 : Hid (SWK enc k w0 blk off d w) := Lib.hid S
  have HC := Lib.hid hcmp
  have HS := Lib.hid hs
  have HSW := Lib.hid hS
  have HM := Lib.hid hM
  have HA := Lib.hid hm
  have hma1 : (a : Int) + 1 ≤ (m : Int) := by omega
  have hma2 : (m : Int) ≤ (a : Int) + 1 := by omega
  have hb1 : ((m : Int) - (a : Int) == 1) = true := by simp; omega
  clear S hcmp hs hS hM hm
  go_enter Tryz.func104, Tryz.ntmps104
  go_wp2
  clear hb1
  go_loopg [10, 11] (b - m) (fun kx s10 s11 wr => ∃ (i j : Nat), s10 = .int .i64 i ∧ s11 = .int .i64 j ∧ i ≤ j ∧ j ≤ b ∧ m ≤ i ∧ j - i ≤ kx ∧ Hid (SWK enc k w0 blk off d wr) ∧ Hid (Half (fun x => ltOf cf d[x]! d[a]!) m b i j))
  case atStart => exact ⟨m, b, rfl, rfl, by omega, Nat.le_refl _, Nat.le_refl _, by omega, S0, Lib.hid (Half.start (by omega))⟩
  case round =>
    clear S0
    obtain ⟨i, j, rfl, rfl, hij, hjb, hmi, hkx, S1, HH⟩ := hrel
    by_cases hlt : i < j
    · have ea : (((i : Int) + (j : Int)) / 2).toNat = (i + j) / 2 := by omega
      have pa : (0 : Int) ≤ ((i : Int) + (j : Int)) / 2 := by omega
      have ba : ((i : Int) + (j : Int)) / 2 < (d.size : Int) := by omega
      have pa2 : (0 : Int) ≤ (a : Int) := by omega
      have ba2 : (a : Int) < (d.size : Int) := by omega
      have ba3 : a < d.size := by omega
      have la := S1.out.ld R HS.out Tryz.prog ((i + j) / 2) (by omega)
      have lb := S1.out.ld R HS.out Tryz.prog a (by omega)
      obtain ⟨x, hx⟩ : ∃ x, x = d[(i + j) / 2]! := ⟨_, rfl⟩
      obtain ⟨y, hy⟩ : ∃ y, y = d[a]! := ⟨_, rfl⟩
      rw [← hx] at la
      rw [← hy] at lb
      have hc := S1.out.cmp HC.out HS.out x y
      have HX := Lib.hid hx
      have HY := Lib.hid hy
      clear hx hy
      by_cases hv : cf x y < 0
      · have hd : decide (cf x y < 0) = true := decide_eq_true hv
        go_wp2_with fail
        go_quiet_grown (first | (go_at_fn g; refine Calls.grown_of (hc _ _)))
        have S2 : Hid (SWK enc k w0 blk off d (grow (wr.drewN nq) osq)) := Lib.hid (S1.out.grown nq osq)
        clear la lb hc S1
        generalize grow (wr.drewN nq) osq = w2 at S2 ⊢
        clear nq osq
        go_wp2
        go_roundg (j - ((i + j) / 2 + 1))
        case measure => omega
        case rel =>
          refine ⟨(i + j) / 2 + 1, j, by rw [show (((i + j) / 2 + 1 : Nat) : Int) = ((i : Int) + (j : Int)) / 2 + 1 by omega], rfl, by omega, hjb, by omega, Nat.le_refl _, S2, Lib.hid ?_⟩
          have e := HA.out
          refine HH.out.up (by subst e; exact falls1 HSW.out HM.out) (by omega) (by omega) ?_
          show ltOf cf d[(i + j) / 2]! d[a]! = true
          rw [← HX.out, ← HY.out]; exact decide_eq_true hv
      · have hd : decide (cf x y < 0) = false := decide_eq_false hv
        go_wp2_with fail
        go_quiet_grown (first | (go_at_fn g; refine Calls.grown_of (hc _ _)))
        have S2 : Hid (SWK enc k w0 blk off d (grow (wr.drewN nq) osq)) := Lib.hid (S1.out.grown nq osq)
        clear la lb hc S1
        generalize grow (wr.drewN nq) osq = w2 at S2 ⊢
        clear nq osq
        go_wp2
        go_roundg ((i + j) / 2 - i)
        case measure => omega
        case rel =>
          refine ⟨i, (i + j) / 2, rfl, by rw [show (((i + j) / 2 : Nat) : Int) = ((i : Int) + (j : Int)) / 2 by omega], by omega, by omega, hmi, Nat.le_refl _, S2, Lib.hid ?_⟩
          have e := HA.out
          refine HH.out.down (by subst e; exact falls1 HSW.out HM.out) (by omega) (by omega) ?_
          show ltOf cf d[(i + j) / 2]! d[a]! = false
          rw [← HX.out, ← HY.out]; exact decide_eq_false (by omega)
    · obtain rfl : i = j := by omega
      clear hlt hij
      go_wp2
      go_loopg [13] (i - 1 - a) (fun kx s13 wr => ∃ (x : Nat) (dk : Array α), s13 = .int .i64 x ∧ a ≤ x ∧ x + 1 ≤ i ∧ i - 1 - x ≤ kx ∧ Hid (SWK enc k w0 blk off dk wr) ∧ Hid (MovedUp d a x dk))
      case atStart => exact ⟨a, d, rfl, Nat.le_refl _, by omega, Nat.le_refl _, S1, Lib.hid (movedUp_start d a (by omega))⟩
      case round =>
        clear S1
        obtain ⟨x, dk, rfl, hax, hxi, hkx, S1, HU⟩ := hrel
        by_cases hlt : x + 1 < i
        · have hlz : (x : Int) < (i : Int) - 1 := by omega
          have hds : Hid (dk.size = d.size) := Lib.hid HU.out.1
          have hz := hds.out
          have ea : ((x : Int)).toNat = x := by omega
          have pa : (0 : Int) ≤ (x : Int) := by omega
          have ba : (x : Int) < (d.size : Int) := by omega
          have ec : ((x : Int) + 1).toNat = x + 1 := by omega
          have pc : (0 : Int) ≤ (x : Int) + 1 := by omega
          have bc : (x : Int) + 1 < (d.size : Int) := by omega
          have rc : IntKind.i64.wrap ((x : Int) + 1) = (x : Int) + 1 := by rw [IntKind.wrap_i64]; omega
          have hk0 : dk.size = d0.size := hz.trans HS.out
          have S2 : Hid (SWK enc k w0 blk off (swp dk x (x + 1)) ((wr.drew.setCells blk (off + x * k) (enc dk[x + 1]!)).setCells blk (off + (x + 1) * k) (enc dk[x]!))) := Lib.hid (S1.out.swapped R x (x + 1) (by omega) (by omega))
          have la := S1.out.ld1 R hk0 Tryz.prog x (by omega)
          have lb := S1.out.ld1 R hk0 Tryz.prog (x + 1) (by omega)
          have sa := S1.out.st1 R hk0 Tryz.prog x (by omega) dk[x + 1]!
          have sb := S1.out.st2 R hk0 Tryz.prog x (x + 1) (by omega) (by omega) dk[x + 1]! dk[x]!
          have na : (enc dk[x]!).length = k := R.hk _
          have nb : (enc dk[x + 1]!).length = k := R.hk _
          generalize enc dk[x]! = cI at S2 la sb na
          generalize enc dk[x + 1]! = cJ at S2 lb sa sb nb
          clear S1 hz hk0
          go_wp2_with fail
          go_big_region_o
          clear la lb sa sb
          generalize (wr.drew.setCells blk (off + x * k) cJ).setCells blk (off + (x + 1) * k) cI = w2 at S2 ⊢
          go_wp2
          go_roundg (i - 1 - (x + 1))
          case measure => omega
          case rel =>
            exact ⟨x + 1, swp dk x (x + 1), by go_num, by omega, by omega, Nat.le_refl _, S2, Lib.hid (HU.out.step hax (by omega))⟩
        · obtain rfl : i = x + 1 := by omega
          have hlz : ¬ ((x : Int) < ((x + 1 : Nat) : Int) - 1) := by omega
          have hlz2 : ¬ ((x : Int) < (x : Int) + 1 - 1) := by omega
          go_wp2
          go_end0
          refine ⟨rfl, dk, S1.out, ?_⟩
          have e := HA.out
          subst e
          exact merged1 HSW.out HM.out hb HH.out HU.out
end Go.Proofs.YtjhijinbpdnmeaaGreat
end
section
/- Merging in place where the right row is of one (slices.symMergeCmpFunc). -/
namespace Go.Proofs.YtjhijinbpdnmeaaGreat
open Go.ChangeShapes Go.WideShapes Go.ChangeAt Go.RowKit Go.Shelf Go.Lib Go.Sort Go.Proofs
set_option linter.unusedVariables false
variable {α : Type} [Inhabited α]

set_option maxHeartbeats 4000000 in
set_option maxRecDepth 1000000 in
theorem symMerge_last (k : Nat) (aE : ∀ w, (isAgg 41).run Tryz.prog w = .ok true w) (zE : ∀ w, (Go.sizeOf 41).run Tryz.prog w = .ok k w) (enc : α → List Value) (cf : α → α → Int) (lt : α → α → Bool) (hS : SWO lt) (g : Nat) (cb : Array Value) (blk off cap a m b : Nat) (d0 d : Array α) (w0 w : World)
    (eg : ∀ args w, (callFunc g args).run Tryz.prog w = .ok (.enter g args) w) (hcmp : CmpLays Tryz.prog g cb enc k cf blk off d0.size w0) (R : RowK enc k w0 blk off d0) (hs : d.size = d0.size) (S : SWK enc k w0 blk off d w) (hm : b = m + 1) (ham : a + 1 < m) (hb : b ≤ d.size) (hsz : d.size < 1152921504606846976)
    (hM : Mrg lt (ltOf cf) a m b d) :
    Calls Tryz.prog 104 #[.slice (some ⟨blk, off, none⟩) d.size cap, .int .i64 a, .int .i64 m, .int .i64 b, .func (.func g) #[] cb] w (MergeTo lt enc k w0 blk off a b d) := by
  have mixed : Tryz.prog.follows .mixedOrders = true := by kernel_rfl
  have S0 : Hid (SWK enc k w0 blk off d w) := Lib.hid S
  have HC := Lib.hid hcmp
  have HS := Lib.hid hs
  have HSW := Lib.hid hS
  have HM := Lib.hid hM
  have HA := Lib.hid hm
  have hma1 : (m : Int) + 1 ≤ (b : Int) := by omega
  have hma2 : (b : Int) ≤ (m : Int) + 1 := by omega
  have hb1 : ((m : Int) - (a : Int) == 1) = false := by simp; omega
  have hb2 : ((b : Int) - (m : Int) == 1) = true := by simp; omega
  clear S hcmp hs hS hM hm
  go_enter Tryz.func104, Tryz.ntmps104
  go_wp2
  clear hb1 hb2
  go_loopg [14, 15] (m - a) (fun kx s10 s11 wr => ∃ (i j : Nat), s10 = .int .i64 i ∧ s11 = .int .i64 j ∧ i ≤ j ∧ j ≤ m ∧ a ≤ i ∧ j - i ≤ kx ∧ Hid (SWK enc k w0 blk off d wr) ∧ Hid (Half (fun x => !ltOf cf d[m]! d[x]!) a m i j))
  case atStart => exact ⟨a, m, rfl, rfl, by omega, Nat.le_refl _, Nat.le_refl _, by omega, S0, Lib.hid (Half.start (by omega))⟩
  case round =>
    clear S0
    obtain ⟨i, j, rfl, rfl, hij, hjb, hmi, hkx, S1, HH⟩ := hrel
    by_cases hlt : i < j
    · have ea : (((i : Int) + (j : Int)) / 2).toNat = (i + j) / 2 := by omega
      have pa : (0 : Int) ≤ ((i : Int) + (j : Int)) / 2 := by omega
      have ba : ((i : Int) + (j : Int)) / 2 < (d.size : Int) := by omega
      have pa2 : (0 : Int) ≤ (m : Int) := by omega
      have ba2 : (m : Int) < (d.size : Int) := by omega
      have ba3 : m < d.size := by omega
      have la := S1.out.ld R HS.out Tryz.prog ((i + j) / 2) (by omega)
      have lb := S1.out.ld R HS.out Tryz.prog m (by omega)
      obtain ⟨x, hx⟩ : ∃ x, x = d[(i + j) / 2]! := ⟨_, rfl⟩
      obtain ⟨y, hy⟩ : ∃ y, y = d[m]! := ⟨_, rfl⟩
      rw [← hx] at la
      rw [← hy] at lb
      have hc := S1.out.cmp HC.out HS.out y x
      have HX := Lib.hid hx
      have HY := Lib.hid hy
      clear hx hy
      by_cases hv : cf y x < 0
      · have hd : decide (cf y x < 0) = true := decide_eq_true hv
        go_wp2_with fail
        go_quiet_grown (first | (go_at_fn g; refine Calls.grown_of (hc _ _)))
        have S2 : Hid (SWK enc k w0 blk off d (grow (wr.drewN nq) osq)) := Lib.hid (S1.out.grown nq osq)
        clear la lb hc S1
        generalize grow (wr.drewN nq) osq = w2 at S2 ⊢
        clear nq osq
        go_wp2
        go_roundg ((i + j) / 2 - i)
        case measure => omega
        case rel =>
          refine ⟨i, (i + j) / 2, rfl, by rw [show (((i + j) / 2 : Nat) : Int) = ((i : Int) + (j : Int)) / 2 by omega], by omega, by omega, hmi, Nat.le_refl _, S2, Lib.hid ?_⟩
          have e := HA.out
          refine HH.out.down (by subst e; exact falls2 HSW.out HM.out) (by omega) (by omega) ?_
          show (!ltOf cf d[m]! d[(i + j) / 2]!) = false
          rw [← HX.out, ← HY.out, Bool.not_eq_false']; exact decide_eq_true hv
      · have hd : decide (cf y x < 0) = false := decide_eq_false hv
        go_wp2_with fail
        go_quiet_grown (first | (go_at_fn g; refine Calls.grown_of (hc _ _)))
        have S2 : Hid (SWK enc k w0 blk off d (grow (wr.drewN nq) osq)) := Lib.hid (S1.out.grown nq osq)
        clear la lb hc S1
        generalize grow (wr.drewN nq) osq = w2 at S2 ⊢
        clear nq osq
        go_wp2
        go_roundg (j - ((i + j) / 2 + 1))
        case measure => omega
        case rel =>
          refine ⟨(i + j) / 2 + 1, j, by rw [show (((i + j) / 2 + 1 : Nat) : Int) = ((i : Int) + (j : Int)) / 2 + 1 by omega], rfl, by omega, hjb, by omega, Nat.le_refl _, S2, Lib.hid ?_⟩
          have e := HA.out
          refine HH.out.up (by subst e; exact falls2 HSW.out HM.out) (by omega) (by omega) ?_
          show (!ltOf cf d[m]! d[(i + j) / 2]!) = true
          rw [← HX.out, ← HY.out, Bool.not_eq_true']; exact decide_eq_false (by omega)
    · obtain rfl : i = j := by omega
      clear hlt hij
      go_wp2
      go_loopg [17] (m - i) (fun kx s13 wr => ∃ (x : Nat) (dk : Array α), s13 = .int .i64 x ∧ i ≤ x ∧ x ≤ m ∧ x - i ≤ kx ∧ Hid (SWK enc k w0 blk off dk wr) ∧ Hid (MovedDown d x m dk))
      case atStart => exact ⟨m, d, rfl, hjb, Nat.le_refl _, Nat.le_refl _, S1, Lib.hid (movedDown_start d m (by omega))⟩
      case round =>
        clear S1
        obtain ⟨x, dk, rfl, hax, hxi, hkx, S1, HU⟩ := hrel
        by_cases hlt : i < x
        · obtain ⟨z, rfl⟩ : ∃ z, x = z + 1 := ⟨x - 1, by omega⟩
          have hlz : (i : Int) < (z : Int) + 1 := by omega
          have hlz2 : (i : Int) < ((z + 1 : Nat) : Int) := by omega
          have hds : Hid (dk.size = d.size) := Lib.hid HU.out.1
          have hz := hds.out
          have ea : ((z : Int) + 1).toNat = z + 1 := by omega
          have pa : (0 : Int) ≤ (z : Int) + 1 := by omega
          have ba : (z : Int) + 1 < (d.size : Int) := by omega
          have pc : (0 : Int) ≤ (z : Int) := by omega
          have bc : (z : Int) < (d.size : Int) := by omega
          have rc : IntKind.i64.wrap (z : Int) = (z : Int) := by rw [IntKind.wrap_i64]; omega
          have hk0 : dk.size = d0.size := hz.trans HS.out
          have S2 : Hid (SWK enc k w0 blk off (swp dk (z + 1) z) ((wr.drew.setCells blk (off + (z + 1) * k) (enc dk[z]!)).setCells blk (off + z * k) (enc dk[z + 1]!))) := Lib.hid (S1.out.swapped R (z + 1) z (by omega) (by omega))
          have la := S1.out.ld1 R hk0 Tryz.prog (z + 1) (by omega)
          have lb := S1.out.ld1 R hk0 Tryz.prog z (by omega)
          have sa := S1.out.st1 R hk0 Tryz.prog (z + 1) (by omega) dk[z]!
          have sb := S1.out.st2 R hk0 Tryz.prog (z + 1) z (by omega) (by omega) dk[z]! dk[z + 1]!
          have na : (enc dk[z + 1]!).length = k := R.hk _
          have nb : (enc dk[z]!).length = k := R.hk _
          generalize enc dk[z + 1]! = cI at S2 la sb na
          generalize enc dk[z]! = cJ at S2 lb sa sb nb
          clear S1 hz hk0
          go_wp2_with fail
          go_big_region_o
          clear la lb sa sb
          generalize (wr.drew.setCells blk (off + (z + 1) * k) cJ).setCells blk (off + z * k) cI = w2 at S2 ⊢
          go_wp2
          go_roundg (z - i)
          case measure => omega
          case rel =>
            exact ⟨z, swp dk (z + 1) z, by first | rfl | go_num | (congr 1; omega), by omega, by omega, Nat.le_refl _, S2, Lib.hid (HU.out.step (by omega) (by omega))⟩
        · obtain rfl : x = i := by omega
          have hlz : ¬ ((x : Int) < (x : Int)) := by omega
          go_wp2
          go_end0
          refine ⟨rfl, dk, S1.out, ?_⟩
          have e := HA.out
          subst e
          exact merged2 HSW.out HM.out (by omega) HH.out HU.out
end Go.Proofs.YtjhijinbpdnmeaaGreat
end
