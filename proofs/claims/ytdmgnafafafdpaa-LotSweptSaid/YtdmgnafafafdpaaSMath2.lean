/- Rows that are merged in halves, and runs that grow by merging: what becomes of an array. No Go in sight. -/
import Derived.Test.YtdmgnafafafdpaaSMath
namespace Go.Proofs.Ytdmgnafafafdpaa
open Go.Sort
set_option linter.unusedVariables false
set_option linter.unusedSectionVars false
variable {α : Type} [Inhabited α]

/-- Behind the turn of a merge: both halves are two rows to be merged, none of the later half is less than one of the earlier. -/
structure Cut (lt t : α → α → Bool) (a s mid e b : Nat) (d d1 : Array α) : Prop where
  size : d1.size = d.size
  perm : PermIn a b d d1
  mrgL : Mrg lt t a s mid d1
  mrgR : Mrg lt t mid e b d1
  cross : ∀ i j, a ≤ i → i < mid → mid ≤ j → j < b → lt d1[j]! d1[i]! = false
  s1 : a ≤ s
  s2 : s ≤ mid
  e1 : mid ≤ e
  e2 : e ≤ b

theorem turned_none {d : Array α} {s m e : Nat} (h : s = m ∨ m = e) : ∀ k, d[k]! = turnAt d s m e k := fun k => by
  unfold turnAt
  rcases h with rfl | rfl
  · by_cases c1 : s ≤ k ∧ k < s + (e - s)
    · rw [if_pos c1]; try (congr 1 <;> omega)
    · rw [if_neg c1, if_neg (by omega)]
  · rw [if_neg (by omega)]
    by_cases c2 : s + (m - m) ≤ k ∧ k < m
    · rw [if_pos c2]; try (congr 1 <;> omega)
    · rw [if_neg c2]

section
variable {lt t : α → α → Bool} (hS : SWO lt) {a m b s e mid : Nat} {d d1 d2 d3 : Array α}
include hS
theorem cut_of (h : Mrg lt t a m b d) (hb : b ≤ d.size) (h1 : a ≤ s) (h2 : s ≤ m) (h3 : m ≤ e) (h4 : e ≤ b) (h5 : s + e = mid + m)
    (c1 : s = a ∨ e = b ∨ (a < s ∧ e < b ∧ lt d[e]! d[s - 1]! = false)) (c2 : s = m ∨ e = m ∨ (s < m ∧ m < e ∧ lt d[e - 1]! d[s]! = true))
    (hz : d1.size = d.size) (hp : PermIn s e d d1) (ht : ∀ k, d1[k]! = turnAt d s m e k) : Cut lt t a s mid e b d d1 := by
  have g1 : ∀ k, k < s → d1[k]! = d[k]! := fun k hk => by rw [ht]; unfold turnAt; rw [if_neg (by omega), if_neg (by omega)]
  have g2 : ∀ k, s ≤ k → k < mid → d1[k]! = d[k + (m - s)]! := fun k k1 k2 => by rw [ht]; unfold turnAt; rw [if_pos (by omega)]
  have g3 : ∀ k, mid ≤ k → k < e → d1[k]! = d[k - (e - m)]! := fun k k1 k2 => by rw [ht]; unfold turnAt; rw [if_neg (by omega), if_pos (by omega)]
  have g4 : ∀ k, e ≤ k → d1[k]! = d[k]! := fun k hk => by rw [ht]; unfold turnAt; rw [if_neg (by omega), if_neg (by omega)]
  refine ⟨hz, permIn_mono _ _ _ _ _ _ h1 h4 hb hp, ⟨fun i j i1 i2 i3 => ?_, fun i j i1 i2 i3 => ?_, fun i j i1 i2 i3 i4 => ?_⟩, ⟨fun i j i1 i2 i3 => ?_, fun i j i1 i2 i3 => ?_, fun i j i1 i2 i3 i4 => ?_⟩, fun i j i1 i2 i3 i4 => ?_, h1, by omega, by omega, h4⟩
  · rw [g1 i (by omega), g1 j i3]; exact h.left i j i1 i2 (by omega)
  · rw [g2 i i1 (by omega), g2 j (by omega) i3]; exact h.right _ _ (by omega) (by omega) (by omega)
  · rw [g1 i i2, g2 j i3 i4]; exact h.agree _ _ i1 (by omega) (by omega) (by omega)
  · rw [g3 i i1 (by omega), g3 j (by omega) i3]; exact h.left _ _ (by omega) (by omega) (by omega)
  · rw [g4 i i1, g4 j (by omega)]; exact h.right _ _ (by omega) i2 i3
  · rw [g3 i i1 i2, g4 j i3]; exact h.agree _ _ (by omega) (by omega) (by omega) i4
  · by_cases hi : i < s
    · rw [g1 i hi]
      by_cases hj : j < e
      · rw [g3 j i3 hj]
        exact sorted_le hS h.left i1 (by omega) (by omega)
      · rw [g4 j (by omega)]
        rcases c1 with c | c | ⟨c, c', c''⟩
        · omega
        · omega
        · exact hS.ntrans _ _ _ (sorted_le hS h.right (i := e) (j := j) h3 (by omega) i4) (hS.ntrans _ _ _ c'' (sorted_le hS h.left (i := i) (j := s - 1) i1 (by omega) (by omega)))
    · rw [g2 i (by omega) i2]
      by_cases hj : j < e
      · rw [g3 j i3 hj]
        rcases c2 with c | c | ⟨c, c', c''⟩
        · omega
        · omega
        · have e1 := sorted_le hS h.right (i := i + (m - s)) (j := e - 1) (by omega) (by omega) (by omega)
          have e2 := sorted_le hS h.left (i := s) (j := j - (e - m)) (by omega) (by omega) (by omega)
          exact swo_asymm hS (swo_lt_of_lt_le hS (swo_lt_of_le_lt hS e1 c'') e2)
      · rw [g4 j (by omega)]
        exact sorted_le hS h.right (by omega) (by omega) i4
theorem cut_skipL (h : Cut lt t a s mid e b d d1) (hn : ¬ (a < s ∧ s < mid)) : Merged lt a mid d1 d1 := by
  refine ⟨rfl, permIn_refl _ _ _, ?_⟩
  have := h.s1
  have := h.s2
  by_cases e : s = a
  · subst e; exact h.mrgL.right
  · obtain rfl : s = mid := by omega
    exact h.mrgL.left
theorem cut_skipR (h : Cut lt t a s mid e b d d1) (hn : ¬ (mid < e ∧ e < b)) (h2 : Merged lt a mid d1 d2) : Merged lt mid b d2 d2 := by
  refine ⟨rfl, permIn_refl _ _ _, ?_⟩
  have := h.e1
  have := h.e2
  have hsame : ∀ k, mid ≤ k → d2[k]! = d1[k]! := fun k hk => h2.2.1.2.1 k (.inr hk)
  intro i j i1 i2 i3
  rw [hsame i i1, hsame j (by omega)]
  by_cases c : e = mid
  · subst c; exact h.mrgR.right i j i1 i2 i3
  · obtain rfl : e = b := by omega
    exact h.mrgR.left i j i1 i2 i3
theorem cut_R (h : Cut lt t a s mid e b d d1) (h2 : Merged lt a mid d1 d2) : Mrg lt t mid e b d2 := by
  have hsame : ∀ k, mid ≤ k → d2[k]! = d1[k]! := fun k hk => h2.2.1.2.1 k (.inr hk)
  have := h.e1
  refine ⟨fun i j i1 i2 i3 => ?_, fun i j i1 i2 i3 => ?_, fun i j i1 i2 i3 i4 => ?_⟩
  · rw [hsame i i1, hsame j (by omega)]; exact h.mrgR.left i j i1 i2 i3
  · rw [hsame i (by omega), hsame j (by omega)]; exact h.mrgR.right i j i1 i2 i3
  · rw [hsame i i1, hsame j (by omega)]; exact h.mrgR.agree i j i1 i2 i3 i4
theorem cut_end (h : Cut lt t a s mid e b d d1) (hb : b ≤ d.size) (h2 : Merged lt a mid d1 d2) (h3 : Merged lt mid b d2 d3) : Merged lt a b d d3 := by
  obtain ⟨z2, p2, s2⟩ := h2
  obtain ⟨z3, p3, s3⟩ := h3
  have hs1 := h.s1; have hs2 := h.s2; have he1 := h.e1; have he2 := h.e2; have hz := h.size
  refine ⟨by omega, permIn_trans _ _ _ _ _ h.perm (permIn_trans _ _ _ _ _ (permIn_mono _ _ _ _ _ _ (Nat.le_refl _) (by omega) (by omega) p2) (permIn_mono _ _ _ _ _ _ (by omega) (Nat.le_refl _) (by omega) p3)), fun i j i1 i2 i3 => ?_⟩
  by_cases hj : j < mid
  · rw [p3.2.1 j (.inl hj), p3.2.1 i (.inl (by omega))]
    exact s2 i j i1 i2 hj
  · by_cases hi : i < mid
    · rw [p3.2.1 i (.inl hi)]
      refine permIn_all d2 d3 mid b (fun y => lt y d2[i]! = false) (by omega) p3 (fun k k1 k2 => ?_) j (by omega) i3
      rw [p2.2.1 k (.inr k1)]
      exact permIn_all d1 d2 a mid (fun x => lt d1[k]! x = false) (by omega) p2 (fun x x1 x2 => h.cross x k x1 x2 k1 k2) i i1 hi
    · exact s3 i j (by omega) i2 i3
end

/-! ### insertion by a test that tells what the order tells -/
theorem insInner_agree {lt t : α → α → Bool} (a : Nat) : ∀ (j : Nat) (d : Array α), j < d.size → (∀ i, a ≤ i → i < j → t d[j]! d[i]! = lt d[j]! d[i]!) → insInner t a j d = insInner lt a j d
  | 0, d, _, _ => rfl
  | j + 1, d, hs, h => by
    unfold insInner
    by_cases ha : j + 1 > a
    · rw [h j (by omega) (by omega)]
      cases lt d[j + 1]! d[j]!
      · simp
      · simp only [ha, decide_true, Bool.and_self, if_true]
        have g := swp_get d (i := j + 1) (j := j) hs (by omega)
        refine insInner_agree a j _ (by rw [size_swp]; omega) (fun i i1 i2 => ?_)
        rw [g, g, if_pos rfl, if_neg (by omega), if_neg (by omega)]
        exact h i i1 (by omega)
    · simp [ha]
theorem insInner_perm (lt : α → α → Bool) (a : Nat) : ∀ (j i : Nat) (d : Array α), a ≤ j → j ≤ i → i < d.size → PermIn a (i + 1) d (insInner lt a j d)
  | 0, i, d, _, _, _ => permIn_refl _ _ _
  | j + 1, i, d, h1, h2, hs => by
    unfold insInner
    split
    · rename_i hc
      have ha : j + 1 > a := by simp at hc; omega
      exact permIn_trans _ _ _ _ _ (swp_permIn _ _ _ _ _ h1 (by omega) (by omega) (by omega) (by omega)) (insInner_perm lt a j i _ (by omega) (by omega) (by rw [size_swp]; exact hs))
    · exact permIn_refl _ _ _
theorem insOuter_agree {lt t : α → α → Bool} (a b : Nat) : ∀ (n i : Nat) (d : Array α), b - i = n → a ≤ i → b ≤ d.size → (∀ j k, a ≤ j → j < k → i ≤ k → k < b → t d[k]! d[j]! = lt d[k]! d[j]!) → insOuter t a b i d = insOuter lt a b i d
  | 0, i, d, hn, _, _, _ => by
    unfold insOuter; rw [if_neg (by omega), if_neg (by omega)]
  | n + 1, i, d, hn, ha, hb, h => by
    unfold insOuter
    rw [if_pos (by omega), if_pos (by omega), insInner_agree a i d (by omega) (fun j j1 j2 => h j i j1 j2 (Nat.le_refl _) (by omega))]
    have hp := insInner_perm lt a i i d ha (Nat.le_refl _) (by omega)
    refine insOuter_agree a b n (i + 1) _ (by omega) (by omega) (by rw [hp.1]; exact hb) (fun j k j1 j2 j3 j4 => ?_)
    rw [hp.2.1 k (.inr (by omega))]
    by_cases hj : j < i + 1
    · exact permIn_all d _ a (i + 1) (fun y => t d[k]! y = lt d[k]! y) (by omega) hp (fun x x1 x2 => h x k x1 (by omega) (by omega) j4) j j1 hj
    · rw [hp.2.1 j (.inr (by omega))]
      exact h j k j1 j2 (by omega) j4
theorem insertion_merged {lt t : α → α → Bool} (hS : SWO lt) {a b : Nat} {d : Array α} (hab : a ≤ b) (hb : b ≤ d.size) (h : ∀ i j, a ≤ i → i < j → j < b → t d[j]! d[i]! = lt d[j]! d[i]!) : Merged lt a b d (insertionSort t d a b) := by
  have e : insertionSort t d a b = insertionSort lt d a b := by
    unfold insertionSort
    exact insOuter_agree a b _ (a + 1) d rfl (by omega) hb (fun j k j1 j2 j3 j4 => h j k j1 j2 j4)
  rw [e]
  have := insertionSort_holds (lt := lt) hS d a b hab hb
  exact ⟨this.1.1, this.1, this.2⟩

/-! ### runs that grow -/
/-- Runs of c are in order; of two that lie in different ones the test tells what the order tells. -/
structure Done (lt t : α → α → Bool) (c n : Nat) (d0 d : Array α) : Prop where
  size : d.size = d0.size
  perm : PermIn 0 n d0 d
  srt : ∀ i j, i < j → j < n → i / c = j / c → lt d[j]! d[i]! = false
  agr : ∀ i j, i < j → j < n → i / c ≠ j / c → t d[j]! d[i]! = lt d[j]! d[i]!
/-- Ahead of a runs of e, from there on runs of c. -/
structure Runs (lt t : α → α → Bool) (c e a n : Nat) (d0 d : Array α) : Prop where
  size : d.size = d0.size
  perm : PermIn 0 n d0 d
  done : ∀ i j, i < j → j < n → j < a → i / e = j / e → lt d[j]! d[i]! = false
  todo : ∀ i j, i < j → j < n → a ≤ i → i / c = j / c → lt d[j]! d[i]! = false
  agr1 : ∀ i j, i < j → j < n → i / e ≠ j / e → t d[j]! d[i]! = lt d[j]! d[i]!
  agr2 : ∀ i j, i < j → j < n → a ≤ i → i / c ≠ j / c → t d[j]! d[i]! = lt d[j]! d[i]!

theorem div_in {e q i : Nat} (he : 0 < e) (h1 : e * q ≤ i) (h2 : i < e * q + e) : i / e = q :=
  Nat.div_eq_of_lt_le (by rw [Nat.mul_comm]; exact h1) (by rw [Nat.add_mul, Nat.one_mul, Nat.mul_comm q e]; exact h2)
theorem div_below {e q i : Nat} (he : 0 < e) (h : i < e * q) : i / e < q := Nat.div_lt_of_lt_mul h
theorem div_above {e q i : Nat} (he : 0 < e) (h : e * q + e ≤ i) : q < i / e := by
  have : q + 1 ≤ i / e := (Nat.le_div_iff_mul_le he).2 (by rw [Nat.add_mul, Nat.one_mul, Nat.mul_comm q e]; exact h)
  omega

section
variable {lt t : α → α → Bool} {c e a n : Nat} {d0 d d' : Array α}
theorem done_start (h : ∀ i j, i < j → j < n → t d[j]! d[i]! = lt d[j]! d[i]!) : Done lt t 1 n d d :=
  ⟨rfl, permIn_refl _ _ _, fun i j h1 h2 h3 => by simp at h3; omega, fun i j h1 h2 _ => h i j h1 h2⟩
theorem Done.runs (h : Done lt t c n d0 d) (r : Nat) : Runs lt t c (c * r) 0 n d0 d :=
  ⟨h.size, h.perm, fun i j _ _ h3 => by omega, fun i j h1 h2 _ h4 => h.srt i j h1 h2 h4, fun i j h1 h2 h3 => h.agr i j h1 h2 (fun he => h3 (by rw [← Nat.div_div_eq_div_mul, ← Nat.div_div_eq_div_mul, he])), fun i j h1 h2 _ h4 => h.agr i j h1 h2 h4⟩
theorem Runs.fin (h : Runs lt t c e a n d0 d) {q : Nat} (hc : 0 < c) (he0 : 0 < e) (ha : a = e * q) (hn : n ≤ a + c) (he : e = c * 2 ∨ n ≤ a) : Done lt t e n d0 d := by
  refine ⟨h.size, h.perm, fun i j h1 h2 h3 => ?_, h.agr1⟩
  by_cases hj : j < a
  · exact h.done i j h1 h2 hj h3
  · rcases he with rfl | he
    · have hq : a = c * (2 * q) := by rw [ha, Nat.mul_assoc]
      by_cases hi : a ≤ i
      · refine h.todo i j h1 h2 hi ?_
        rw [div_in hc (q := 2 * q) (by omega) (by omega), div_in hc (q := 2 * q) (by omega) (by omega)]
      · have := div_below he0 (i := i) (q := q) (by omega)
        have := div_in he0 (i := j) (q := q) (by omega) (by omega)
        omega
    · omega
theorem Runs.mrg (h : Runs lt t c (c * 2) a n d0 d) {q b : Nat} (hc : 0 < c) (ha : a = c * 2 * q) (hb : b ≤ a + c * 2) (hcb : a + c ≤ b) (hn : b ≤ n) : Mrg lt t a (a + c) b d := by
  have hq : a = c * (2 * q) := by rw [ha, Nat.mul_assoc]
  have hq2 : a + c = c * (2 * q + 1) := by rw [Nat.mul_add, Nat.mul_one, ← hq]
  have d1 : ∀ i, a ≤ i → i < a + c → i / c = 2 * q := fun i i1 i2 => div_in hc (by omega) (by omega)
  have d2 : ∀ i, a + c ≤ i → i < b → i / c = 2 * q + 1 := fun i i1 i2 => div_in hc (by omega) (by omega)
  refine ⟨fun i j i1 i2 i3 => ?_, fun i j i1 i2 i3 => ?_, fun i j i1 i2 i3 i4 => ?_⟩
  · exact h.todo i j i2 (by omega) i1 (by rw [d1 i i1 (by omega), d1 j (by omega) i3])
  · exact h.todo i j i2 (by omega) (by omega) (by rw [d2 i i1 (by omega), d2 j (by omega) i3])
  · exact h.agr2 i j (by omega) (by omega) i1 (by rw [d1 i i1 i2, d2 j i3 i4]; omega)
theorem Runs.step (h : Runs lt t c e a n d0 d) {q b : Nat} (he : 0 < e) (hr : ∃ r, e = c * r) (ha : a = e * q) (hb : b = a + e ∨ (b = n ∧ n ≤ a + e)) (hab : a ≤ b) (hbn : b ≤ n) (hn : n ≤ d.size) (hm : Merged lt a b d d') : Runs lt t c e (a + e) n d0 d' := by
  obtain ⟨z, p, s⟩ := hm
  have o1 : ∀ k, k < a → d'[k]! = d[k]! := fun k hk => p.2.1 k (.inl hk)
  have o2 : ∀ k, b ≤ k → d'[k]! = d[k]! := fun k hk => p.2.1 k (.inr hk)
  have all : ∀ (P : α → Prop), (∀ k, a ≤ k → k < b → P d[k]!) → ∀ k, a ≤ k → k < b → P d'[k]! := fun P => permIn_all d d' a b P (by omega) p
  refine ⟨z.trans h.size, permIn_trans _ _ _ _ _ h.perm (permIn_mono _ _ _ _ _ _ (Nat.zero_le _) hbn (by omega) p), fun i j h1 h2 h3 h4 => ?_, fun i j h1 h2 h3 h4 => ?_, fun i j h1 h2 h3 => ?_, fun i j h1 h2 h3 h4 => ?_⟩
  · by_cases hj : j < a
    · rw [o1 j hj, o1 i (by omega)]; exact h.done i j h1 h2 hj h4
    · have hi : a ≤ i := by
        rcases Nat.lt_or_ge i a with hi | hi
        · have := div_below he (i := i) (q := q) (by omega)
          have := div_in he (i := j) (q := q) (by omega) (by omega)
          omega
        · exact hi
      exact s i j hi h1 (by omega)
  · rw [o2 j (by omega), o2 i (by omega)]; exact h.todo i j h1 h2 (by omega) h4
  · by_cases hi : a ≤ i ∧ i < b
    · have hdi := div_in he (i := i) (q := q) (by omega) (by omega)
      have hj : b ≤ j := by
        rcases Nat.lt_or_ge j b with hj | hj
        · have := div_in he (i := j) (q := q) (by omega) (by omega); omega
        · exact hj
      rw [o2 j hj]
      refine all (fun y => t d[j]! y = lt d[j]! y) (fun k k1 k2 => ?_) i hi.1 hi.2
      have := div_in he (i := k) (q := q) (by omega) (by omega)
      exact h.agr1 k j (by omega) h2 (by omega)
    · have ei : d'[i]! = d[i]! := by
        rcases Nat.lt_or_ge i a with hi2 | hi2
        · exact o1 i hi2
        · exact o2 i (by omega)
      rw [ei]
      by_cases hj : a ≤ j ∧ j < b
      · have hdj := div_in he (i := j) (q := q) (by omega) (by omega)
        have hia : i < a := by omega
        refine all (fun y => t y d[i]! = lt y d[i]!) (fun k k1 k2 => ?_) j hj.1 hj.2
        have := div_in he (i := k) (q := q) (by omega) (by omega)
        exact h.agr1 i k (by omega) (by omega) (by omega)
      · have ej : d'[j]! = d[j]! := by
          rcases Nat.lt_or_ge j a with hj2 | hj2
          · exact o1 j hj2
          · exact o2 j (by omega)
        rw [ej]
        exact h.agr1 i j h1 h2 h3
  · rw [o2 j (by omega), o2 i (by omega)]; exact h.agr2 i j h1 h2 (by omega) h4
theorem Done.whole (h : Done lt t c n d0 d) (hn : n ≤ c) : SortedIn lt 0 n d := fun i j _ h1 h2 =>
  h.srt i j h1 h2 (by rw [Nat.div_eq_of_lt (by omega), Nat.div_eq_of_lt (by omega)])
end
end Go.Proofs.Ytdmgnafafafdpaa
