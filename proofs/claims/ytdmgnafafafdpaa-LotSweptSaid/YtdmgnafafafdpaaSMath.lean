/- Rows that are turned and merged where they lie: what becomes of an array. No Go in sight. -/
import Derived.Sort.LotA
import Derived.Sort.Lot0
namespace Go.Proofs.Ytdmgnafafafdpaa
open Go.Sort
set_option linter.unusedVariables false
set_option linter.unusedSectionVars false
variable {α : Type} [Inhabited α]

/-! ### a search by halves -/
structure Half (q : Nat → Bool) (lo hi i j : Nat) : Prop where
  lo_ : lo ≤ i
  mid_ : i ≤ j
  hi_ : j ≤ hi
  yes : ∀ k, lo ≤ k → k < i → q k = true
  no : ∀ k, j ≤ k → k < hi → q k = false
def Falls (q : Nat → Bool) (lo hi : Nat) : Prop := ∀ k h, lo ≤ k → k ≤ h → h < hi → q h = true → q k = true
theorem Half.start {q : Nat → Bool} {lo hi : Nat} (h : lo ≤ hi) : Half q lo hi lo hi :=
  ⟨Nat.le_refl _, h, Nat.le_refl _, fun k h1 h2 => by omega, fun k h1 h2 => by omega⟩
theorem Half.up {q : Nat → Bool} {lo hi i j : Nat} (h : Half q lo hi i j) (hf : Falls q lo hi) {m : Nat} (h1 : i ≤ m) (h2 : m < j) (hm : q m = true) : Half q lo hi (m + 1) j :=
  ⟨by have := h.lo_; omega, by omega, h.hi_, fun k hk1 hk2 => hf k m hk1 (by omega) (by have := h.hi_; omega) hm, h.no⟩
theorem Half.down {q : Nat → Bool} {lo hi i j : Nat} (h : Half q lo hi i j) (hf : Falls q lo hi) {m : Nat} (h1 : i ≤ m) (h2 : m < j) (hm : q m = false) : Half q lo hi i m :=
  ⟨h.lo_, h1, by have := h.hi_; omega, h.yes, fun k hk1 hk2 => by
    cases hq : q k with
    | false => rfl
    | true => have := hf m k (by have := h.lo_; omega) hk1 hk2 hq; rw [hm] at this; cases this⟩

/-! ### an order that is told by 'less' -/
section
variable {lt : α → α → Bool} (hS : SWO lt)
include hS
theorem swo_asymm {x y : α} (h : lt x y = true) : lt y x = false := by
  cases hq : lt y x with
  | false => rfl
  | true => have := hS.trans _ _ _ h hq; rw [hS.irrefl] at this; cases this
theorem swo_lt_of_lt_le {x y z : α} (h : lt x y = true) (h2 : lt z y = false) : lt x z = true := by
  cases hq : lt x z with
  | true => rfl
  | false => have := hS.ntrans _ _ _ hq h2; rw [h] at this; cases this
theorem swo_lt_of_le_lt {x y z : α} (h : lt y x = false) (h2 : lt y z = true) : lt x z = true := by
  cases hq : lt x z with
  | true => rfl
  | false => have := hS.ntrans _ _ _ h hq; rw [h2] at this; cases this
theorem sorted_le {a b : Nat} {d : Array α} (h : SortedIn lt a b d) {i j : Nat} (h1 : a ≤ i) (h2 : i ≤ j) (h3 : j < b) : lt d[j]! d[i]! = false := by
  rcases Nat.lt_or_eq_of_le h2 with h4 | rfl
  · exact h i j h1 h4 h3
  · exact hS.irrefl _
end

/-- What is asked of two rows that are merged: each is in order, and the test tells of a right one and a left one what the order tells. -/
structure Mrg (lt t : α → α → Bool) (a m b : Nat) (d : Array α) : Prop where
  left : SortedIn lt a m d
  right : SortedIn lt m b d
  agree : ∀ i j, a ≤ i → i < m → m ≤ j → j < b → t d[j]! d[i]! = lt d[j]! d[i]!

section
variable {lt t : α → α → Bool} (hS : SWO lt) {a m b : Nat} {d : Array α}
include hS
theorem falls1 (h : Mrg lt t a (a + 1) b d) : Falls (fun k => t d[k]! d[a]!) (a + 1) b := fun k n h1 h2 h3 hq => by
  simp only at hq ⊢
  rw [h.agree a n (by omega) (by omega) (by omega) h3] at hq
  rw [h.agree a k (by omega) (by omega) h1 (by omega)]
  exact swo_lt_of_le_lt hS (sorted_le hS h.right h1 h2 h3) hq
theorem falls2 (h : Mrg lt t a m (m + 1) d) : Falls (fun k => !t d[m]! d[k]!) a m := fun k n h1 h2 h3 hq => by
  simp only [Bool.not_eq_true'] at hq ⊢
  rw [h.agree n m (by omega) h3 (by omega) (by omega)] at hq
  rw [h.agree k m h1 (by omega) (by omega) (by omega)]
  exact hS.ntrans _ _ _ hq (sorted_le hS h.left h1 h2 h3)
theorem falls3 (h : Mrg lt t a m b d) {lo hi p : Nat} (h1 : a ≤ lo) (h2 : hi ≤ m) (h3 : p < b + lo) (h4 : m + hi ≤ p + 1) : Falls (fun c => !t d[p - c]! d[c]!) lo hi := fun k n k1 k2 k3 hq => by
  simp only [Bool.not_eq_true'] at hq ⊢
  rw [h.agree n (p - n) (by omega) (by omega) (by omega) (by omega)] at hq
  rw [h.agree k (p - k) (by omega) (by omega) (by omega) (by omega)]
  have e1 := sorted_le hS h.left (i := k) (j := n) (by omega) k2 (by omega)
  have e2 := sorted_le hS h.right (i := p - n) (j := p - k) (by omega) (by omega) (by omega)
  exact hS.ntrans _ _ _ e2 (hS.ntrans _ _ _ hq e1)
end

/-! ### one that is moved by exchanges -/
/-- d' is d with the one at a moved up to k, those between one down. -/
def MovedUp (d : Array α) (a k : Nat) (d' : Array α) : Prop :=
  d'.size = d.size ∧ PermIn a (k + 1) d d' ∧ (∀ x, a ≤ x → x < k → d'[x]! = d[x + 1]!) ∧ d'[k]! = d[a]! ∧ ∀ x, x < a ∨ k < x → d'[x]! = d[x]!
theorem movedUp_start (d : Array α) (a : Nat) (h : a < d.size) : MovedUp d a a d :=
  ⟨rfl, permIn_refl _ _ _, fun x h1 h2 => by omega, rfl, fun x _ => rfl⟩
theorem MovedUp.step {d d' : Array α} {a k : Nat} (h : MovedUp d a k d') (hk : a ≤ k) (hs : k + 1 < d.size) : MovedUp d a (k + 1) (swp d' k (k + 1)) := by
  obtain ⟨h1, h2, h3, h4, h5⟩ := h
  have g := swp_get d' (i := k) (j := k + 1) (by omega) (by omega)
  refine ⟨by rw [size_swp]; exact h1, permIn_trans _ _ _ _ _ (permIn_mono _ _ _ _ _ _ (Nat.le_refl _) (by omega) (by omega) h2) (swp_permIn _ _ _ _ _ hk (by omega) (by omega) (by omega) (by omega)), fun x hx1 hx2 => ?_, ?_, fun x hx => ?_⟩
  · rw [g]
    by_cases e : x = k
    · subst e; rw [if_neg (by omega), if_pos rfl, h5 _ (by omega)]
    · rw [if_neg (by omega), if_neg e, h3 x hx1 (by omega)]
  · rw [g, if_pos rfl, h4]
  · rw [g, if_neg (by omega), if_neg (by omega), h5 x (by omega)]
/-- d' is d with the one at m moved down to k, those between one up. -/
def MovedDown (d : Array α) (k m : Nat) (d' : Array α) : Prop :=
  d'.size = d.size ∧ PermIn k (m + 1) d d' ∧ (∀ x, k < x → x ≤ m → d'[x]! = d[x - 1]!) ∧ d'[k]! = d[m]! ∧ ∀ x, x < k ∨ m < x → d'[x]! = d[x]!
theorem movedDown_start (d : Array α) (m : Nat) (h : m < d.size) : MovedDown d m m d :=
  ⟨rfl, permIn_refl _ _ _, fun x h1 h2 => by omega, rfl, fun x _ => rfl⟩
theorem MovedDown.step {d d' : Array α} {k m : Nat} (h : MovedDown d (k + 1) m d') (hk : k + 1 ≤ m) (hs : m < d.size) : MovedDown d k m (swp d' (k + 1) k) := by
  obtain ⟨h1, h2, h3, h4, h5⟩ := h
  have g := swp_get d' (i := k + 1) (j := k) (by omega) (by omega)
  refine ⟨by rw [size_swp]; exact h1, permIn_trans _ _ _ _ _ (permIn_mono _ _ _ _ _ _ (by omega) (Nat.le_refl _) (by omega) h2) (swp_permIn _ _ _ _ _ (by omega) (by omega) (by omega) (by omega) (by omega)), fun x hx1 hx2 => ?_, ?_, fun x hx => ?_⟩
  · rw [g]
    by_cases e : x = k + 1
    · subst e; rw [if_neg (by omega), if_pos rfl, h5 _ (by omega)]; rfl
    · rw [if_neg (by omega), if_neg e, h3 x (by omega) hx2]
  · rw [g, if_pos rfl, h4]
  · rw [g, if_neg (by omega), if_neg (by omega), h5 x (by omega)]

/-- What a merge leaves. -/
def Merged (lt : α → α → Bool) (a b : Nat) (d d' : Array α) : Prop := d'.size = d.size ∧ PermIn a b d d' ∧ SortedIn lt a b d'

section
variable {lt t : α → α → Bool} (hS : SWO lt) {a m b : Nat} {d d' : Array α}
include hS
theorem merged1 (h : Mrg lt t a (a + 1) b d) {i : Nat} (hb : b ≤ d.size) (hH : Half (fun k => t d[k]! d[a]!) (a + 1) b i i) (hm : MovedUp d a (i - 1) d') : Merged lt a b d d' := by
  obtain ⟨h1, h2, h3, h4, h5⟩ := hm
  have hi1 := hH.lo_
  have hi2 := hH.hi_
  refine ⟨h1, permIn_mono _ _ _ _ _ _ (Nat.le_refl _) (by omega) hb h2, fun x y hx hxy hy => ?_⟩
  have yes : ∀ k, a + 1 ≤ k → k < i → lt d[k]! d[a]! = true := fun k k1 k2 => by
    have : t d[k]! d[a]! = true := hH.yes k k1 k2
    rwa [h.agree a k (by omega) (by omega) k1 (by omega)] at this
  have no : ∀ k, i ≤ k → k < b → lt d[k]! d[a]! = false := fun k k1 k2 => by
    have : t d[k]! d[a]! = false := hH.no k k1 k2
    rwa [h.agree a k (by omega) (by omega) (by omega) k2] at this
  by_cases hy1 : y < i - 1
  · rw [h3 x hx (by omega), h3 y (by omega) hy1]
    exact h.right _ _ (by omega) (by omega) (by omega)
  · by_cases hy2 : y = i - 1
    · subst hy2
      rw [h4, h3 x hx (by omega)]
      exact swo_asymm hS (yes _ (by omega) (by omega))
    · rw [h5 y (by omega)]
      by_cases hx1 : x < i - 1
      · rw [h3 x hx hx1]
        exact h.right _ _ (by omega) (by omega) hy
      · by_cases hx2 : x = i - 1
        · subst hx2
          rw [h4]
          exact no y (by omega) hy
        · rw [h5 x (by omega)]
          exact h.right _ _ (by omega) hxy hy
theorem merged2 (h : Mrg lt t a m (m + 1) d) {i : Nat} (hb : m < d.size) (hH : Half (fun k => !t d[m]! d[k]!) a m i i) (hm : MovedDown d i m d') : Merged lt a (m + 1) d d' := by
  obtain ⟨h1, h2, h3, h4, h5⟩ := hm
  have hi1 := hH.lo_
  have hi2 := hH.hi_
  refine ⟨h1, permIn_mono _ _ _ _ _ _ hi1 (Nat.le_refl _) (by omega) h2, fun x y hx hxy hy => ?_⟩
  have yes : ∀ k, a ≤ k → k < i → lt d[m]! d[k]! = false := fun k k1 k2 => by
    have := hH.yes k k1 k2
    simp only [Bool.not_eq_true'] at this
    rwa [h.agree k m k1 (by omega) (by omega) (by omega)] at this
  have no : ∀ k, i ≤ k → k < m → lt d[m]! d[k]! = true := fun k k1 k2 => by
    have := hH.no k k1 k2
    simp only [Bool.not_eq_false'] at this
    rwa [h.agree k m (by omega) k2 (by omega) (by omega)] at this
  by_cases hy1 : y < i
  · rw [h5 x (by omega), h5 y (by omega)]
    exact h.left _ _ hx hxy (by omega)
  · by_cases hy2 : y = i
    · subst hy2
      rw [h4, h5 x (by omega)]
      exact yes x hx hxy
    · rw [h3 y (by omega) (by omega)]
      by_cases hx1 : x < i
      · rw [h5 x (by omega)]
        exact sorted_le hS h.left hx (by omega) (by omega)
      · by_cases hx2 : x = i
        · subst hx2
          rw [h4]
          exact swo_asymm hS (no (y - 1) (by omega) (by omega))
        · rw [h3 x (by omega) (by omega)]
          exact h.left _ _ (by omega) (by omega) (by omega)
end

/-! ### ranges that change places, rows that are turned -/
def Swapped (d : Array α) (a b n : Nat) (d' : Array α) : Prop :=
  d'.size = d.size ∧ ∀ k, d'[k]! = if a ≤ k ∧ k < a + n then d[k + (b - a)]! else if b ≤ k ∧ k < b + n then d[k - (b - a)]! else d[k]!
theorem swapped_start (d : Array α) (a b : Nat) : Swapped d a b 0 d := ⟨rfl, fun k => by rw [if_neg (by omega), if_neg (by omega)]⟩
theorem Swapped.step {d d' : Array α} {a b n : Nat} (h : Swapped d a b n d') (hab : a + n < b) (hs : b + n < d.size) : Swapped d a b (n + 1) (swp d' (a + n) (b + n)) := by
  obtain ⟨h1, h2⟩ := h
  have g := swp_get d' (i := a + n) (j := b + n) (by omega) (by omega)
  refine ⟨by rw [size_swp]; exact h1, fun k => ?_⟩
  rw [g]
  by_cases e1 : k = b + n
  · subst e1
    rw [if_pos rfl, if_neg (by omega), if_pos (by omega), h2, if_neg (by omega), if_neg (by omega)]
    try (congr 1 <;> omega)
  · by_cases e2 : k = a + n
    · subst e2
      rw [if_neg e1, if_pos rfl, if_pos (by omega), h2, if_neg (by omega), if_neg (by omega)]
      try (congr 1 <;> omega)
    · rw [if_neg e1, if_neg e2, h2]
      by_cases e3 : a ≤ k ∧ k < a + n
      · rw [if_pos e3, if_pos (by omega)]
      · rw [if_neg e3]
        by_cases e4 : b ≤ k ∧ k < b + n
        · rw [if_pos e4, if_neg (by omega), if_pos (by omega)]
        · rw [if_neg e4, if_neg (by omega), if_neg (by omega)]

/-- The row [a, b) turned so that [m, b) stands first. -/
def turnAt (d : Array α) (a m b k : Nat) : α := if a ≤ k ∧ k < a + (b - m) then d[k + (m - a)]! else if a + (b - m) ≤ k ∧ k < b then d[k - (b - m)]! else d[k]!
def Turned (d : Array α) (a m b : Nat) (d' : Array α) : Prop := d'.size = d.size ∧ PermIn a b d d' ∧ ∀ k, d'[k]! = turnAt d a m b k
/-- Underway: what is left to be turned is [m - i, m + j). -/
structure Turning (d : Array α) (a m b i j : Nat) (d' : Array α) : Prop where
  size : d'.size = d.size
  perm : PermIn a b d d'
  i1 : 1 ≤ i
  j1 : 1 ≤ j
  i2 : i ≤ m - a
  j2 : j ≤ b - m
  tells : ∀ k, turnAt d a m b k = turnAt d' (m - i) m (m + j) k
theorem turning_start {d : Array α} {a m b : Nat} (h1 : a < m) (h2 : m < b) : Turning d a m b (m - a) (b - m) d :=
  ⟨rfl, permIn_refl _ _ _, by omega, by omega, Nat.le_refl _, Nat.le_refl _, fun k => by rw [show m - (m - a) = a by omega, show m + (b - m) = b by omega]⟩
theorem Turning.left {d d1 d2 : Array α} {a m b i j : Nat} (h : Turning d a m b i j d1) (hij : j < i) (h1 : a < m) (h2 : m < b) (hs : Swapped d1 (m - i) m j d2) (hp : PermIn a b d1 d2) : Turning d a m b (i - j) j d2 := by
  obtain ⟨z, pm, i1, j1, i2, j2, tl⟩ := h
  refine ⟨hs.1.trans z, permIn_trans _ _ _ _ _ pm hp, by omega, j1, by omega, j2, fun k => ?_⟩
  rw [tl k]
  have g := hs.2
  unfold turnAt
  by_cases c1 : m - i ≤ k ∧ k < m - i + j
  · rw [if_pos (by omega), if_neg (by omega), if_neg (by omega), g k, if_pos c1]
    try (congr 1 <;> omega)
  · by_cases c2 : m - i + j ≤ k ∧ k < m - i + 2 * j
    · rw [if_neg (by omega), if_pos (by omega), if_pos (by omega), g, if_neg (by omega), if_pos (by omega)]
      try (congr 1 <;> omega)
    · by_cases c3 : m - i + 2 * j ≤ k ∧ k < m + j
      · rw [if_neg (by omega), if_pos (by omega), if_neg (by omega), if_pos (by omega), g, if_neg (by omega), if_neg (by omega)]
        try (congr 1 <;> omega)
      · rw [if_neg (by omega), if_neg (by omega), if_neg (by omega), if_neg (by omega), g, if_neg (by omega), if_neg (by omega)]
theorem Turning.right {d d1 d2 : Array α} {a m b i j : Nat} (h : Turning d a m b i j d1) (hij : i < j) (h1 : a < m) (h2 : m < b) (hs : Swapped d1 (m - i) (m + j - i) i d2) (hp : PermIn a b d1 d2) : Turning d a m b i (j - i) d2 := by
  obtain ⟨z, pm, i1, j1, i2, j2, tl⟩ := h
  refine ⟨hs.1.trans z, permIn_trans _ _ _ _ _ pm hp, i1, by omega, i2, by omega, fun k => ?_⟩
  rw [tl k]
  have g := hs.2
  unfold turnAt
  by_cases c1 : m + j - i ≤ k ∧ k < m + j
  · rw [if_neg (by omega), if_pos (by omega), if_neg (by omega), if_neg (by omega), g k, if_neg (by omega), if_pos (by omega)]
    try (congr 1 <;> omega)
  · by_cases c2 : m - i ≤ k ∧ k < m - i + (j - i)
    · rw [if_pos (by omega), if_pos (by omega), g, if_neg (by omega), if_neg (by omega)]
      try (congr 1 <;> omega)
    · by_cases c3 : m - i + (j - i) ≤ k ∧ k < m + j - i
      · rw [if_pos (by omega), if_neg (by omega), if_pos (by omega), g, if_pos (by omega)]
        try (congr 1 <;> omega)
      · rw [if_neg (by omega), if_neg (by omega), if_neg (by omega), if_neg (by omega), g, if_neg (by omega), if_neg (by omega)]
theorem Turning.last {d d1 d2 : Array α} {a m b i : Nat} (h : Turning d a m b i i d1) (h1 : a < m) (h2 : m < b) (hs : Swapped d1 (m - i) m i d2) (hp : PermIn a b d1 d2) : Turned d a m b d2 := by
  obtain ⟨z, pm, i1, j1, i2, j2, tl⟩ := h
  refine ⟨hs.1.trans z, permIn_trans _ _ _ _ _ pm hp, fun k => ?_⟩
  rw [tl k, hs.2]
  unfold turnAt
  by_cases c1 : m - i ≤ k ∧ k < m - i + i
  · rw [if_pos c1, if_pos (by omega)]; try (congr 1 <;> omega)
  · rw [if_neg c1]
    by_cases c2 : m ≤ k ∧ k < m + i
    · rw [if_pos c2, if_neg (by omega), if_pos (by omega)]; try (congr 1 <;> omega)
    · rw [if_neg c2, if_neg (by omega), if_neg (by omega)]
end Go.Proofs.Ytdmgnafafafdpaa
