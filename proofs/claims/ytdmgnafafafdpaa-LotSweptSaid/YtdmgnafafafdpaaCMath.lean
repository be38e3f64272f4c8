/- Codes, in plain words. No walk. -/
namespace Go.Proofs.Ytdmgnafafafdpaa
set_option linter.unusedVariables false
set_option linter.unusedSimpArgs false

/-! ### codes -/
def upB (c : UInt8) : Bool := decide (65 ≤ c.toNat) && decide (c.toNat ≤ 90)
def inB (c : UInt8) : Bool := (decide (48 ≤ c.toNat) && decide (c.toNat ≤ 57)) || decide (c.toNat = 45)
def okAt (k : Nat) (c : UInt8) : Bool := upB c || (decide (k ≠ 0) && inB c)
/-- Each byte, from place k on, may stand there. -/
def allOk : Nat → List UInt8 → Bool
  | _, [] => true
  | k, c :: l => okAt k c && allOk (k + 1) l
def rightL (l : List UInt8) : Bool := decide (1 ≤ l.length) && decide (l.length ≤ 12) && allOk 0 l

theorem allOk_append : ∀ (l m : List UInt8) (k : Nat), allOk k (l ++ m) = (allOk k l && allOk (k + l.length) m)
  | [], m, k => by simp [allOk]
  | c :: l, m, k => by
    simp only [List.cons_append, allOk, allOk_append l m (k + 1), List.length_cons]
    rw [show k + 1 + l.length = k + (l.length + 1) by omega, Bool.and_assoc]
theorem allOk_take {l : List UInt8} {k : Nat} (n : Nat) (h : allOk k l = true) : allOk k (l.take n) = true := by
  have e := allOk_append (l.take n) (l.drop n) k
  rw [List.take_append_drop, h] at e
  have := e.symm
  rw [Bool.and_eq_true] at this
  exact this.1
theorem allOk_get : ∀ {l : List UInt8} {k : Nat}, allOk k l = true → ∀ {j : Nat} {c : UInt8}, l[j]? = some c → okAt (k + j) c = true
  | [], k, _, j, c, hc => by simp at hc
  | d :: l, k, h, 0, c, hc => by
    simp at hc; subst hc
    rw [allOk, Bool.and_eq_true] at h
    exact h.1
  | d :: l, k, h, j + 1, c, hc => by
    rw [allOk, Bool.and_eq_true] at h
    have := allOk_get h.2 (j := j) (c := c) (by simpa using hc)
    rwa [show k + 1 + j = k + (j + 1) by omega] at this
theorem allOk_no {l : List UInt8} {k j : Nat} {c : UInt8} (hc : l[j]? = some c) (h : okAt (k + j) c = false) : allOk k l = false := by
  cases e : allOk k l with
  | false => rfl
  | true => rw [allOk_get e hc] at h; cases h
theorem allOk_step {l : List UInt8} {j : Nat} {c : UInt8} (h : allOk 0 (l.take j) = true) (hc : l[j]? = some c) (ho : okAt j c = true) : allOk 0 (l.take (j + 1)) = true := by
  rw [List.take_add_one, hc]
  have hj : j < l.length := (List.getElem?_eq_some_iff.1 hc).1
  simp only [Option.toList]
  rw [allOk_append, h, List.length_take, Nat.min_eq_left (by omega)]
  simp [allOk, ho]
/-- The same from any place behind the first one. -/
theorem allOk_shift : ∀ (l : List UInt8) (k j : Nat), allOk (k + 1) l = true → allOk (j + 1) l = true
  | [], _, _, _ => rfl
  | c :: l, k, j, h => by
    rw [allOk, Bool.and_eq_true] at h ⊢
    refine ⟨?_, allOk_shift l (k + 1) (j + 1) h.2⟩
    have := h.1
    simpa [okAt] using this
theorem allOk_zero {l : List UInt8} {k : Nat} (h : allOk 0 l = true) : allOk (k + 1) l = true := by
  cases l with
  | nil => rfl
  | cons c l =>
    rw [allOk, Bool.and_eq_true] at h ⊢
    refine ⟨?_, allOk_shift l 0 (k + 1) h.2⟩
    have h1 := h.1
    simp [okAt] at h1 ⊢
    exact .inl h1
theorem rightL_parts {l : List UInt8} (h : rightL l = true) : 1 ≤ l.length ∧ l.length ≤ 12 ∧ allOk 0 l = true := by
  simp only [rightL, Bool.and_eq_true, decide_eq_true_eq] at h
  exact ⟨h.1.1, h.1.2, h.2⟩
theorem rightL_mk {l : List UInt8} (h1 : 1 ≤ l.length) (h2 : l.length ≤ 12) (h3 : allOk 0 l = true) : rightL l = true := by
  simp [rightL, h1, h2, h3]
theorem rightL_short {l : List UInt8} (h : l.length < 1) : rightL l = false := by
  have : decide (1 ≤ l.length) = false := by simpa using h
  simp [rightL, this]
theorem rightL_long {l : List UInt8} (h : 12 < l.length) : rightL l = false := by
  have : decide (l.length ≤ 12) = false := by simpa using h
  simp [rightL, this]
theorem rightL_no {l : List UInt8} {j : Nat} {c : UInt8} (hc : l[j]? = some c) (h : okAt j c = false) : rightL l = false := by
  rw [rightL, allOk_no (k := 0) hc (by rwa [Nat.zero_add]), Bool.and_false]
/-- What a code begins with is one. -/
theorem rightL_take {l : List UInt8} (h : rightL l = true) {k : Nat} (h1 : 1 ≤ k) : rightL (l.take k) = true := by
  obtain ⟨a, b, c⟩ := rightL_parts h
  exact rightL_mk (by rw [List.length_take]; omega) (by rw [List.length_take]; omega) (allOk_take k c)
/-- Two codes put together. -/
theorem rightL_app {a b : List UInt8} (ha : rightL a = true) (hb : rightL b = true) : rightL (a ++ b) = decide (a.length + b.length ≤ 12) := by
  obtain ⟨a1, a2, a3⟩ := rightL_parts ha
  obtain ⟨b1, b2, b3⟩ := rightL_parts hb
  have e : allOk 0 (a ++ b) = true := by
    rw [allOk_append, a3, Nat.zero_add, show a.length = (a.length - 1) + 1 by omega, allOk_zero b3]
    rfl
  simp only [rightL, e, List.length_append, Bool.and_true]
  rw [show decide (1 ≤ a.length + b.length) = true from decide_eq_true (by omega), Bool.true_and]

end Go.Proofs.Ytdmgnafafafdpaa
