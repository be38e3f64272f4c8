/- Codes and decimal numerals, in plain words. No walk. -/
import Derived.Lib.ItoaNum
import Derived.Lib.ItoaMem
import Derived.Lib.AtoiAllCases
namespace Go.Proofs.YtcdjefbeillfmaaGreatDoor
set_option linter.unusedVariables false
set_option linter.unusedSimpArgs false

/-! ### codes -/
def upB (c : UInt8) : Bool := decide (65 ≤ c.toNat) && decide (c.toNat ≤ 90)
def inB (c : UInt8) : Bool := (decide (48 ≤ c.toNat) && decide (c.toNat ≤ 57)) || decide (c.toNat = 45)
def okAt (k : Nat) (c : UInt8) : Bool := upB c || (decide (k ≠ 0) && inB c)
/-- Each byte, from place k on, may stand there. -/
def allOk : Nat → List UInt8 → Bool
  | _, [] => true
  | k, c :: l => okAt k c && allOk (k + 1) l
def rightL (l : List UInt8) : Bool := decide (1 ≤ l.length) && decide (l.length ≤ 12) && allOk 0 l

theorem allOk_append : ∀ (l m : List UInt8) (k : Nat), allOk k (l ++ m) = (allOk k l && allOk (k + l.length) m)
  | [], m, k => by simp [allOk]
  | c :: l, m, k => by
    simp only [List.cons_append, allOk, allOk_append l m (k + 1), List.length_cons]
    rw [show k + 1 + l.length = k + (l.length + 1) by omega, Bool.and_assoc]
theorem allOk_take {l : List UInt8} {k : Nat} (n : Nat) (h : allOk k l = true) : allOk k (l.take n) = true := by
  have e := allOk_append (l.take n) (l.drop n) k
  rw [List.take_append_drop, h] at e
  have := e.symm
  rw [Bool.and_eq_true] at this
  exact this.1
theorem allOk_get : ∀ {l : List UInt8} {k : Nat}, allOk k l = true → ∀ {j : Nat} {c : UInt8}, l[j]? = some c → okAt (k + j) c = true
  | [], k, _, j, c, hc => by simp at hc
  | d :: l, k, h, 0, c, hc => by
    simp at hc; subst hc
    rw [allOk, Bool.and_eq_true] at h
    exact h.1
  | d :: l, k, h, j + 1, c, hc => by
    rw [allOk, Bool.and_eq_true] at h
    have := allOk_get h.2 (j := j) (c := c) (by simpa using hc)
    rwa [show k + 1 + j = k + (j + 1) by omega] at this
theorem allOk_no {l : List UInt8} {k j : Nat} {c : UInt8} (hc : l[j]? = some c) (h : okAt (k + j) c = false) : allOk k l = false := by
  cases e : allOk k l with
  | false => rfl
  | true => rw [allOk_get e hc] at h; cases h
theorem allOk_step {l : List UInt8} {j : Nat} {c : UInt8} (h : allOk 0 (l.take j) = true) (hc : l[j]? = some c) (ho : okAt j c = true) : allOk 0 (l.take (j + 1)) = true := by
  rw [List.take_add_one, hc]
  have hj : j < l.length := (List.getElem?_eq_some_iff.1 hc).1
  simp only [Option.toList]
  rw [allOk_append, h, List.length_take, Nat.min_eq_left (by omega)]
  simp [allOk, ho]
/-- The same from any place behind the first one. -/
theorem allOk_shift : ∀ (l : List UInt8) (k j : Nat), allOk (k + 1) l = true → allOk (j + 1) l = true
  | [], _, _, _ => rfl
  | c :: l, k, j, h => by
    rw [allOk, Bool.and_eq_true] at h ⊢
    refine ⟨?_, allOk_shift l (k + 1) (j + 1) h.2⟩
    have := h.1
    simpa [okAt] using this
theorem allOk_zero {l : List UInt8} {k : Nat} (h : allOk 0 l = true) : allOk (k + 1) l = true := by
  cases l with
  | nil => rfl
  | cons c l =>
    rw [allOk, Bool.and_eq_true] at h ⊢
    refine ⟨?_, allOk_shift l 0 (k + 1) h.2⟩
    have h1 := h.1
    simp [okAt] at h1 ⊢
    exact .inl h1
theorem rightL_parts {l : List UInt8} (h : rightL l = true) : 1 ≤ l.length ∧ l.length ≤ 12 ∧ allOk 0 l = true := by
  simp only [rightL, Bool.and_eq_true, decide_eq_true_eq] at h
  exact ⟨h.1.1, h.1.2, h.2⟩
theorem rightL_mk {l : List UInt8} (h1 : 1 ≤ l.length) (h2 : l.length ≤ 12) (h3 : allOk 0 l = true) : rightL l = true := by
  simp [rightL, h1, h2, h3]
theorem rightL_short {l : List UInt8} (h : l.length < 1) : rightL l = false := by
  have : decide (1 ≤ l.length) = false := by simpa using h
  simp [rightL, this]
theorem rightL_long {l : List UInt8} (h : 12 < l.length) : rightL l = false := by
  have : decide (l.length ≤ 12) = false := by simpa using h
  simp [rightL, this]
theorem rightL_no {l : List UInt8} {j : Nat} {c : UInt8} (hc : l[j]? = some c) (h : okAt j c = false) : rightL l = false := by
  rw [rightL, allOk_no (k := 0) hc (by rwa [Nat.zero_add]), Bool.and_false]
/-- What a code begins with is one. -/
theorem rightL_take {l : List UInt8} (h : rightL l = true) {k : Nat} (h1 : 1 ≤ k) : rightL (l.take k) = true := by
  obtain ⟨a, b, c⟩ := rightL_parts h
  exact rightL_mk (by rw [List.length_take]; omega) (by rw [List.length_take]; omega) (allOk_take k c)
/-- Two codes put together. -/
theorem rightL_app {a b : List UInt8} (ha : rightL a = true) (hb : rightL b = true) : rightL (a ++ b) = decide (a.length + b.length ≤ 12) := by
  obtain ⟨a1, a2, a3⟩ := rightL_parts ha
  obtain ⟨b1, b2, b3⟩ := rightL_parts hb
  have e : allOk 0 (a ++ b) = true := by
    rw [allOk_append, a3, Nat.zero_add, show a.length = (a.length - 1) + 1 by omega, allOk_zero b3]
    rfl
  simp only [rightL, e, List.length_append, Bool.and_true]
  rw [show decide (1 ≤ a.length + b.length) = true from decide_eq_true (by omega), Bool.true_and]

/-! ### a code's bytes -/
def orNoneL (l : List UInt8) : Bool := decide (l = []) || rightL l
theorem orNoneL_length {l : List UInt8} (h : orNoneL l = true) : l.length ≤ 12 := by
  simp only [orNoneL, Bool.or_eq_true, decide_eq_true_eq] at h
  rcases h with rfl | h
  · simp
  · exact (rightL_parts h).2.1
def putL (l : List UInt8) : List UInt8 := if orNoneL l = true then UInt8.ofNat l.length :: l else []
/-- What b begins with: the code, how many bytes, and whether. -/
def getL (b : List UInt8) : Option (List UInt8) :=
  match b with
  | [] => none
  | c :: r => if c.toNat ≤ r.length ∧ orNoneL (r.take c.toNat) = true then some (r.take c.toNat) else none
def getS (b : List UInt8) : List UInt8 := (getL b).getD []
def getN (b : List UInt8) : Int := match getL b with | some s => 1 + s.length | none => 0
def getB (b : List UInt8) : Bool := (getL b).isSome

theorem getL_put {s : List UInt8} (m : List UInt8) (h : orNoneL s = true) : getL (putL s ++ m) = some s := by
  have hl := orNoneL_length h
  have e : (UInt8.ofNat s.length).toNat = s.length := by simp; omega
  simp only [putL, h, if_true, List.cons_append, getL, e]
  rw [if_pos ⟨by simp, by rw [List.take_left']; exact h; rfl⟩, List.take_left' rfl]
theorem put_getL {b s : List UInt8} (h : getL b = some s) : s.length + 1 ≤ b.length ∧ putL s = b.take (1 + s.length) ∧ orNoneL s = true := by
  unfold getL at h
  split at h
  · cases h
  · rename_i c r
    split at h
    · rename_i hc
      injection h with h
      subst h
      have hl : (r.take c.toNat).length = c.toNat := by rw [List.length_take]; omega
      refine ⟨by rw [hl, List.length_cons]; omega, ?_, hc.2⟩
      rw [putL, if_pos hc.2, hl, Nat.add_comm, List.take_succ_cons]
      simp
    · cases h

/-! ### numerals -/
def digB (c : UInt8) : Bool := decide (48 ≤ c.toNat) && decide (c.toNat ≤ 57)
def dstep (acc : Nat) (c : UInt8) : Nat := acc * 10 + (c.toNat - 48)
def dval (acc : Nat) (l : List UInt8) : Nat := l.foldl dstep acc
theorem dval_nil (acc : Nat) : dval acc [] = acc := by unfold dval; rw [List.foldl_nil]
theorem dval_cons (acc : Nat) (c : UInt8) (l : List UInt8) : dval acc (c :: l) = dval (acc * 10 + (c.toNat - 48)) l := by
  unfold dval; rw [List.foldl_cons]; unfold dstep; exact Eq.refl _
theorem dval_append (l m : List UInt8) (acc : Nat) : dval acc (l ++ m) = dval (dval acc l) m := by
  unfold dval; rw [List.foldl_append]
theorem digB_parts {c : UInt8} (h : digB c = true) : 48 ≤ c.toNat ∧ c.toNat ≤ 57 := by
  simpa [digB] using h
theorem dval_lt : ∀ (l : List UInt8) (acc k : Nat), (∀ c ∈ l, digB c = true) → acc < 10 ^ k → dval acc l < 10 ^ (k + l.length)
  | [], acc, k, _, h => by rw [dval_nil]; simpa using h
  | c :: l, acc, k, hd, h => by
    have hc := digB_parts (hd c (by simp))
    simp only [dval_cons, List.length_cons]
    have := dval_lt l (acc * 10 + (c.toNat - 48)) (k + 1) (fun x hx => hd x (by simp [hx])) (by rw [Nat.pow_succ]; omega)
    rwa [show k + (l.length + 1) = k + 1 + l.length by omega]
theorem dval_ge : ∀ (l : List UInt8) (acc : Nat), acc ≤ dval acc l
  | [], acc => by rw [dval_nil]; exact Nat.le_refl _
  | c :: l, acc => by rw [dval_cons]; exact Nat.le_trans (by omega) (dval_ge l (acc * 10 + (c.toNat - 48)))
theorem parse_digits : ∀ (l : List UInt8) (acc k : Nat), (∀ c ∈ l, digB c = true) → acc < 10 ^ k → k + l.length ≤ 19 → Lib.parseUint10 acc l = .ok (dval acc l)
  | [], acc, k, _, _, _ => by rw [dval_nil]; rfl
  | c :: l, acc, k, hd, h, hk => by
    rw [dval_cons]
    have hc := digB_parts (hd c (by simp))
    have hp : 10 ^ k ≤ 10 ^ 18 := Nat.pow_le_pow_right (by decide) (by simp at hk; omega)
    have e18 : 10 ^ 18 = 1000000000000000000 := by decide
    rw [Lib.parseUint10, if_pos hc, if_neg (by omega), if_neg (by omega)]
    exact parse_digits l _ (k + 1) (fun x hx => hd x (by simp [hx])) (by rw [Nat.pow_succ]; omega) (by simp at hk; omega)

/-- A numeral without noughts ahead. -/
def plainD (d : List UInt8) : Bool := decide (1 ≤ d.length) && d.all digB && (decide (d.head? ≠ some 48) || decide (d.length = 1))
theorem ofNat_dig {c : UInt8} (h : digB c = true) : UInt8.ofNat (48 + (c.toNat - 48)) = c := by
  have := digB_parts h
  rw [show 48 + (c.toNat - 48) = c.toNat by omega, UInt8.ofNat_toNat]
theorem dval_zero_nil : ∀ (l : List UInt8), (∀ c ∈ l, digB c = true) → l.head? ≠ some 48 → dval 0 l = 0 → l = []
  | [], _, _, _ => rfl
  | c :: l, hd, hh, h => by
    exfalso
    have hc := digB_parts (hd c (by simp))
    have h1 := dval_ge l (0 * 10 + (c.toNat - 48))
    rw [dval_cons] at h
    have : c.toNat = 48 := by omega
    apply hh
    simp
    exact UInt8.toNat_inj.1 this
theorem dec_dval : ∀ (n : Nat) (d : List UInt8), d.length = n → plainD d = true → Lib.decDigits (dval 0 d) = d := by
  intro n
  induction n using Nat.strongRecOn with
  | _ n ih =>
    intro d hn hp
    simp only [plainD, Bool.and_eq_true, Bool.or_eq_true, decide_eq_true_eq, List.all_eq_true] at hp
    obtain ⟨⟨h1, hd⟩, hh⟩ := hp
    rcases List.eq_nil_or_concat d with rfl | ⟨i, c, rfl⟩
    · simp at h1
    · rw [List.concat_eq_append] at *
      have hc := hd c (by simp)
      have hcb := digB_parts hc
      have hi : ∀ x ∈ i, digB x = true := fun x hx => hd x (by simp [hx])
      rw [dval_append]
      simp only [dval_cons, dval_nil]
      by_cases hin : i = []
      · subst hin
        simp only [dval_nil, Nat.zero_mul, Nat.zero_add, List.nil_append]
        rw [Lib.decDigits, dif_pos (by omega), ofNat_dig hc]
      · have hhi : i.head? ≠ some 48 := by
          rcases hh with hh | hh
          · intro e
            apply hh
            rw [List.head?_append, e]; rfl
          · simp at hh; exact absurd hh hin
        have hv : dval 0 i ≠ 0 := fun e => hin (dval_zero_nil i hi hhi e)
        rw [Lib.decDigits, dif_neg (by omega)]
        rw [show (dval 0 i * 10 + (c.toNat - 48)) / 10 = dval 0 i by omega, show (dval 0 i * 10 + (c.toNat - 48)) % 10 = c.toNat - 48 by omega, ofNat_dig hc]
        rw [ih i.length (by rw [← hn]; simp) i rfl]
        have : 1 ≤ i.length := by cases i with | nil => exact absurd rfl hin | cons => simp
        simp only [plainD, Bool.and_eq_true, Bool.or_eq_true, decide_eq_true_eq, List.all_eq_true]
        exact ⟨⟨this, hi⟩, .inl hhi⟩
theorem dec_plain (u : Nat) : plainD (Lib.decDigits u) = true ∧ dval 0 (Lib.decDigits u) = u ∧ (1 ≤ u → (Lib.decDigits u).head? ≠ some 48) := by
  induction u using Nat.strongRecOn with
  | _ u ih =>
    by_cases h : u < 10
    · have e : (UInt8.ofNat (48 + u)).toNat = 48 + u := by simp; omega
      rw [Lib.decDigits, dif_pos h]
      refine ⟨?_, ?_, ?_⟩
      · simp [plainD, digB, e]; omega
      · simp only [dval_cons, dval_nil, e]; omega
      · intro h1 h2
        rw [List.head?_cons] at h2
        injection h2 with h2
        have := congrArg UInt8.toNat h2
        rw [e, show (48 : UInt8).toNat = 48 from rfl] at this
        omega
    · obtain ⟨p, v, z⟩ := ih (u / 10) (by omega)
      have e : (UInt8.ofNat (48 + u % 10)).toNat = 48 + u % 10 := by simp; omega
      have z' := z (by omega)
      simp only [plainD, Bool.and_eq_true, Bool.or_eq_true, decide_eq_true_eq, List.all_eq_true] at p
      have hne : Lib.decDigits (u / 10) ≠ [] := by intro e0; rw [e0] at p; simp at p
      have hhd : (Lib.decDigits (u / 10) ++ [UInt8.ofNat (48 + u % 10)]).head? ≠ some 48 := by
        rw [List.head?_append]
        cases hx : (Lib.decDigits (u / 10)).head? with
        | none => rw [List.head?_eq_none_iff] at hx; exact absurd hx hne
        | some y => rw [hx] at z'; simpa using z'
      rw [Lib.decDigits, dif_neg h]
      refine ⟨?_, ?_, fun _ => hhd⟩
      · simp only [plainD, Bool.and_eq_true, Bool.or_eq_true, decide_eq_true_eq, List.all_eq_true]
        refine ⟨⟨by simp, ?_⟩, .inl hhd⟩
        intro x hx
        rcases List.mem_append.1 hx with hx | hx
        · exact p.1.2 x hx
        · simp at hx; subst hx; simp [digB, e]; omega
      · rw [dval_append, v]; simp only [dval_cons, dval_nil, e]; omega

/-- The number that l says, in the form that itoa gives it. -/
def numL (l : List UInt8) : Option Int := match Lib.atoiAll l with | .ok v => if Lib.itoa v = l then some v else none | _ => none
def numV (l : List UInt8) : Int := (numL l).getD 0
def numB (l : List UInt8) : Bool := (numL l).isSome

/-! ### what numL is -/
theorem dec_len : ∀ (k u : Nat), 1 ≤ k → u < 10 ^ k → (Lib.decDigits u).length ≤ k
  | 0, u, h, _ => by omega
  | k + 1, u, _, hu => by
    by_cases h : u < 10
    · rw [Lib.decDigits, dif_pos h]; simp
    · rw [Lib.decDigits, dif_neg h]
      have hk : 1 ≤ k := by
        rcases Nat.eq_zero_or_pos k with rfl | hk
        · simp at hu; omega
        · exact hk
      have := dec_len k (u / 10) hk (by rw [Nat.pow_succ] at hu; omega)
      simp; omega
/-- Behind a '-'. -/
def negL (l : List UInt8) : Bool := decide (l.head? = some 45)
def digsL (l : List UInt8) : List UInt8 := if negL l = true then l.tail else l
theorem plain_head {d : List UInt8} (h : plainD d = true) : d.head? ≠ some 45 := by
  intro e
  cases d with
  | nil => simp at e
  | cons c d =>
    simp at e; subst e
    simp only [plainD, Bool.and_eq_true, List.all_eq_true] at h
    have := digB_parts (h.1.2 45 (by simp))
    simp at this
theorem atoi_bounds {l : List UInt8} {v : Int} (h : Lib.atoiAll l = .ok v) : -9223372036854775808 ≤ v ∧ v ≤ 9223372036854775807 := by
  cases l with
  | nil => simp [Lib.atoiAll] at h
  | cons c r =>
    simp only [Lib.atoiAll] at h
    split at h
    · cases h
    · cases h
    · rename_i u _
      by_cases hn : c.toNat = 45
      · simp only [hn, not_true_eq_false, false_and, if_false, true_and, if_true] at h
        split at h
        · cases h
        · injection h with h; omega
      · simp only [hn, not_false_eq_true, true_and, false_and, if_false] at h
        split at h
        · cases h
        · injection h with h; omega
theorem numL_parts {l : List UInt8} {v : Int} (h : numL l = some v) : Lib.atoiAll l = .ok v ∧ Lib.itoa v = l := by
  unfold numL at h
  split at h
  · split at h
    · rename_i h1 h2
      injection h with h
      subst h
      exact ⟨h1, h2⟩
    · cases h
  · cases h
theorem num_form {l : List UInt8} {v : Int} (h : numL l = some v) : plainD (digsL l) = true ∧ (digsL l).length ≤ 19 ∧ (negL l = true → (digsL l).head? ≠ some 48) := by
  obtain ⟨h1, h2⟩ := numL_parts h
  have hb := atoi_bounds h1
  have e19 : (10 : Nat) ^ 19 = 10000000000000000000 := by decide
  unfold Lib.itoa at h2
  split at h2
  · rename_i hv
    subst h2
    have hd := dec_plain v.natAbs
    have hn : negL (45 :: Lib.decDigits v.natAbs) = true := by simp [negL]
    simp only [digsL, hn, if_true, List.tail_cons]
    exact ⟨hd.1, dec_len 19 _ (by decide) (by omega), fun _ => hd.2.2 (by omega)⟩
  · rename_i hv
    subst h2
    have hd := dec_plain v.toNat
    have hn : negL (Lib.decDigits v.toNat) = false := by simpa [negL] using plain_head hd.1
    simp only [digsL, hn]
    exact ⟨hd.1, dec_len 19 _ (by decide) (by omega), fun h => by cases h⟩
theorem num_no {l : List UInt8} (h : plainD (digsL l) = false ∨ 19 < (digsL l).length ∨ (negL l = true ∧ (digsL l).head? = some 48)) : numL l = none := by
  cases e : numL l with
  | none => rfl
  | some v =>
    exfalso
    obtain ⟨a, b, c⟩ := num_form e
    rcases h with h | h | ⟨h1, h2⟩
    · rw [a] at h; cases h
    · omega
    · exact c h1 h2
theorem plain_digs {d : List UInt8} (h : plainD d = true) : ∀ c ∈ d, digB c = true := by
  simp only [plainD, Bool.and_eq_true, List.all_eq_true] at h
  exact h.1.2
theorem num_pos {l : List UInt8} (hn : negL l = false) (hp : plainD l = true) (hl : l.length ≤ 19) : numL l = if dval 0 l < 9223372036854775808 then some ((dval 0 l : Nat) : Int) else none := by
  cases l with
  | nil => simp [plainD] at hp
  | cons c r =>
    have hd := plain_digs hp
    have hc := digB_parts (hd c (by simp))
    have hpar := parse_digits (c :: r) 0 0 hd (by simp) (by simpa using hl)
    have hat : Lib.atoiAll (c :: r) = if 9223372036854775808 ≤ dval 0 (c :: r) then .range else .ok ((dval 0 (c :: r) : Nat) : Int) := by
      have h43 : ¬ c.toNat = 43 := by omega
      have h45 : ¬ c.toNat = 45 := by omega
      simp only [Lib.atoiAll, h43, h45, or_self, if_false, Lib.parseMag, List.cons_ne_nil, hpar, not_false_eq_true, true_and, false_and, reduceCtorEq]
    by_cases h : dval 0 (c :: r) < 9223372036854775808
    · rw [if_pos h]
      unfold numL
      rw [hat, if_neg (by omega)]
      have e : Lib.itoa ((dval 0 (c :: r) : Nat) : Int) = c :: r := by rw [Lib.itoa_nonneg, dec_dval _ _ rfl hp]
      simp only [e, if_true]
    · rw [if_neg h]
      unfold numL
      rw [hat, if_pos (by omega)]
theorem num_neg {r : List UInt8} (hp : plainD r = true) (hl : r.length ≤ 19) (hh : r.head? ≠ some 48) : numL (45 :: r) = if dval 0 r ≤ 9223372036854775808 then some (-((dval 0 r : Nat) : Int)) else none := by
  have hd := plain_digs hp
  have hpar := parse_digits r 0 0 hd (by simp) (by simpa using hl)
  have hne : r ≠ [] := by rintro rfl; simp [plainD] at hp
  have hat : Lib.atoiAll (45 :: r) = if 9223372036854775808 < dval 0 r then .range else .ok (-((dval 0 r : Nat) : Int)) := by
    have h45 : (45 : UInt8).toNat = 45 := rfl
    simp only [Lib.atoiAll, h45, or_true, if_true, Lib.parseMag, hne, if_false, hpar, not_true_eq_false, false_and, true_and]
  have h1 : 1 ≤ dval 0 r := by
    rcases Nat.eq_zero_or_pos (dval 0 r) with e | e
    · exact absurd (dval_zero_nil r hd hh e) hne
    · exact e
  by_cases h : dval 0 r ≤ 9223372036854775808
  · rw [if_pos h]
    unfold numL
    rw [hat, if_neg (by omega)]
    have e : Lib.itoa (-((dval 0 r : Nat) : Int)) = 45 :: r := by rw [Lib.itoa_neg _ h1, dec_dval _ _ rfl hp]
    simp only [e, if_true]
  · rw [if_neg h]
    unfold numL
    rw [hat, if_pos (by omega)]
/-- A number's text says it. -/
theorem num_text {n : Int} (h0 : -9223372036854775808 ≤ n) (h1 : n ≤ 9223372036854775807) : numL (Lib.itoa n) = some n := by
  have e19 : (10 : Nat) ^ 19 = 10000000000000000000 := by decide
  unfold Lib.itoa
  split
  · rename_i hn
    have hd := dec_plain n.natAbs
    rw [num_neg hd.1 (dec_len 19 _ (by decide) (by omega)) (hd.2.2 (by omega)), hd.2.1, if_pos (by omega)]
    congr 1; omega
  · have hd := dec_plain n.toNat
    have hn : negL (Lib.decDigits n.toNat) = false := by simpa [negL] using plain_head hd.1
    rw [num_pos hn hd.1 (dec_len 19 _ (by decide) (by omega)), hd.2.1, if_pos (by omega)]
    congr 1; omega
/-- No other text does. -/
theorem num_only {l : List UInt8} : (numL l).isSome = decide (Lib.itoa (numV l) = l) ∨ (numL l = none ∧ numV l = 0) := by
  cases h : numL l with
  | none => exact .inr ⟨rfl, by simp [numV, h]⟩
  | some v => exact .inl (by rw [show numV l = v by simp [numV, h], (numL_parts h).2]; simp)
theorem num_says (l : List UInt8) : numB l = decide (Lib.itoa (numV l) = l) := by
  cases h : numL l with
  | none =>
    have e : numV l = 0 := by simp [numV, h]
    rw [numB, h, e]
    symm
    apply decide_eq_false
    intro he
    have := num_text (n := 0) (by omega) (by omega)
    rw [he, h] at this
    cases this
  | some v => rw [numB, h, show numV l = v by simp [numV, h], (numL_parts h).2]; simp
end Go.Proofs.YtcdjefbeillfmaaGreatDoor
