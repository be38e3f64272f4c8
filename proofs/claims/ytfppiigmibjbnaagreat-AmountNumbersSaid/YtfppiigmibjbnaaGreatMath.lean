/- Plain mathematics of amounts that are joined: totals per item, strictly rising lists, what is joined is one. No Go in sight. -/
namespace Go.Proofs.YtfppiigmibjbnaaGreat

abbrev Pt := List UInt8 × Int

def rightB (n : Int) : Bool := decide (0 ≤ n ∧ n ≤ 1125899906842624)
theorem rightB_true {n : Int} (h0 : 0 ≤ n) (h1 : n ≤ 1125899906842624) : rightB n = true := by simp [rightB, h0, h1]
theorem rightB_false {n : Int} (h : n < 0 ∨ 1125899906842624 < n) : rightB n = false := by simp [rightB]; omega
theorem of_rightB {n : Int} (h : rightB n = true) : 0 ≤ n ∧ n ≤ 1125899906842624 := by simpa [rightB] using h
theorem of_not_rightB {n : Int} (h : rightB n = false) : n < 0 ∨ 1125899906842624 < n := by
  simp [rightB] at h; omega

/-! ### two numbers -/
def addB (a b : Int) : Bool := rightB a && (rightB b && rightB (a + b))
def addV (a b : Int) : Int := if addB a b = true then a + b else 0
def timesB (a b : Int) : Bool := rightB a && (rightB b && rightB (a * b))
def timesV (a b : Int) : Int := if timesB a b = true then a * b else 0

/-! ### totals -/
def tot (it : List UInt8) : List Pt → Int
  | [] => 0
  | p :: l => (if p.1 = it then p.2 else 0) + tot it l

theorem tot_append (it : List UInt8) : ∀ l m : List Pt, tot it (l ++ m) = tot it l + tot it m
  | [], m => by simp [tot]
  | p :: l, m => by simp [tot, tot_append it l m]; omega

theorem tot_nonneg (it : List UInt8) : ∀ l : List Pt, (∀ p ∈ l, 0 ≤ p.2) → 0 ≤ tot it l
  | [], _ => by simp [tot]
  | p :: l, h => by
    have h1 := h p (by simp)
    have h2 := tot_nonneg it l (fun q hq => h q (by simp [hq]))
    simp only [tot]
    split <;> omega

theorem tot_of_not_mem (it : List UInt8) : ∀ l : List Pt, it ∉ l.map (·.1) → tot it l = 0
  | [], _ => rfl
  | p :: l, h => by
    simp only [List.map_cons, List.mem_cons, not_or] at h
    simp only [tot]
    rw [if_neg (fun e => h.1 e.symm), tot_of_not_mem it l h.2]
    rfl

theorem tot_perm (it : List UInt8) {l m : List Pt} (h : l.Perm m) : tot it l = tot it m := by
  induction h with
  | nil => rfl
  | cons x _ ih => simp [tot, ih]
  | swap x y l => simp [tot]; omega
  | trans _ _ i1 i2 => exact i1.trans i2

theorem tot_mem_le (it : List UInt8) {q : Int} : ∀ l : List Pt, (∀ p ∈ l, 0 ≤ p.2) → (it, q) ∈ l → q ≤ tot it l
  | [], _, h => by simp at h
  | p :: l, h0, h => by
    have h1 := h0 p (by simp)
    have h2 := tot_nonneg it l (fun q hq => h0 q (by simp [hq]))
    rcases List.mem_cons.1 h with e | e
    · subst e
      simp only [tot, if_true]
      omega
    · have := tot_mem_le it l (fun q hq => h0 q (by simp [hq])) e
      simp only [tot]
      split <;> omega

def JoinOk (l : List Pt) : Prop := (∀ p ∈ l, 0 ≤ p.2 ∧ p.2 ≤ 1125899906842624) ∧ ∀ it, tot it l ≤ 1125899906842624

theorem joinOk_nil : JoinOk [] := ⟨by simp, by simp [tot]⟩

theorem JoinOk.left {l m : List Pt} (h : JoinOk (l ++ m)) : JoinOk l :=
  ⟨fun p hp => h.1 p (by simp [hp]), fun it => by
    have := h.2 it
    rw [tot_append] at this
    have := tot_nonneg it m (fun p hp => (h.1 p (by simp [hp])).1)
    omega⟩

theorem JoinOk.perm {l m : List Pt} (h : JoinOk l) (hp : l.Perm m) : JoinOk m :=
  ⟨fun p hm => h.1 p (hp.mem_iff.2 hm), fun it => by rw [← tot_perm it hp]; exact h.2 it⟩

theorem joinOk_snoc {l : List Pt} {p : Pt} (h : JoinOk l) (h1 : 0 ≤ p.2) (h2 : p.2 ≤ 1125899906842624) (h3 : tot p.1 l + p.2 ≤ 1125899906842624) : JoinOk (l ++ [p]) := by
  refine ⟨fun q hq => ?_, fun it => ?_⟩
  · rcases List.mem_append.1 hq with e | e
    · exact h.1 q e
    · simp at e; subst e; exact ⟨h1, h2⟩
  · rw [tot_append]
    simp only [tot]
    by_cases e : p.1 = it
    · subst e; rw [if_pos rfl]; omega
    · rw [if_neg e]; have := h.2 it; omega

theorem not_joinOk_snoc {l m : List Pt} {p : Pt} (h : addB (tot p.1 l) p.2 = false) : ¬ JoinOk (l ++ p :: m) := by
  intro hj
  have hl : JoinOk (l ++ [p]) := JoinOk.left (m := m) (by simpa using hj)
  have h0 := tot_nonneg p.1 l (fun q hq => (hj.1 q (by simp [hq])).1)
  have h1 := hj.1 p (by simp)
  have h2 := hl.2 p.1
  rw [tot_append] at h2
  simp only [tot, if_true] at h2
  have h3 := hl.left.2 p.1
  simp [addB, rightB_true h0 h3, rightB_true h1.1 h1.2, rightB_true (n := tot p.1 l + p.2) (by omega) (by omega)] at h

theorem joinOk_of_add {l : List Pt} {p : Pt} (h : JoinOk l) (ha : addB (tot p.1 l) p.2 = true) : JoinOk (l ++ [p]) := by
  simp only [addB, Bool.and_eq_true] at ha
  have h1 := of_rightB ha.2.1
  have h2 := of_rightB ha.2.2
  exact joinOk_snoc h h1.1 h1.2 h2.2

/-! ### strictly rising lists -/
theorem lt_irrefl_ (x : List UInt8) : ¬ x < x := List.lt_irrefl x
theorem lt_trans_ {x y z : List UInt8} (h : x < y) (k : y < z) : x < z := List.lt_trans h k

def Rising (l : List Pt) : Prop := l.Pairwise (fun a b => a.1 < b.1)

theorem rising_ext : ∀ {l m : List Pt}, Rising l → Rising m → (∀ p, p ∈ l ↔ p ∈ m) → l = m
  | [], [], _, _, _ => rfl
  | [], q :: m, _, _, h => by have := (h q).2 (by simp); simp at this
  | p :: l, [], _, _, h => by have := (h p).1 (by simp); simp at this
  | p :: l, q :: m, hl, hm, h => by
    have hl' := List.pairwise_cons.1 hl
    have hm' := List.pairwise_cons.1 hm
    have e : p = q := by
      rcases List.mem_cons.1 ((h p).1 (by simp)) with e | e
      · exact e
      · rcases List.mem_cons.1 ((h q).2 (by simp)) with e' | e'
        · exact e'.symm
        · exact absurd (lt_trans_ (hm'.1 p e) (hl'.1 q e')) (lt_irrefl_ _)
    subst e
    rw [rising_ext (l := l) (m := m) hl'.2 hm'.2 (fun r => ?_)]
    have hr := h r
    constructor
    · intro hrl
      rcases List.mem_cons.1 (hr.1 (by simp [hrl])) with e | e
      · subst e; exact absurd (hl'.1 r hrl) (lt_irrefl_ _)
      · exact e
    · intro hrm
      rcases List.mem_cons.1 (hr.2 (by simp [hrm])) with e | e
      · subst e; exact absurd (hm'.1 r hrm) (lt_irrefl_ _)
      · exact e

/-- What is joined of l. -/
def IsJoin (l out : List Pt) : Prop := Rising out ∧ ∀ it q, (it, q) ∈ out ↔ (it ∈ l.map (·.1) ∧ q = tot it l)

theorem IsJoin.unique {l o1 o2 : List Pt} (h1 : IsJoin l o1) (h2 : IsJoin l o2) : o1 = o2 :=
  rising_ext h1.1 h2.1 (fun p => by obtain ⟨it, q⟩ := p; rw [h1.2, h2.2])

theorem IsJoin.perm {l m out : List Pt} (h : IsJoin l out) (hp : l.Perm m) : IsJoin m out :=
  ⟨h.1, fun it q => by rw [h.2, tot_perm it hp, (hp.map (·.1)).mem_iff]⟩

theorem isJoin_nil : IsJoin [] [] := ⟨List.Pairwise.nil, by simp⟩

theorem tot_rising (it : List UInt8) : ∀ {out : List Pt}, Rising out → ∀ {q : Int}, (it, q) ∈ out → tot it out = q
  | [], _, q, h => by simp at h
  | p :: l, hr, q, h => by
    have hr' := List.pairwise_cons.1 hr
    rcases List.mem_cons.1 h with e | e
    · subst e
      have : it ∉ l.map (·.1) := by
        intro hm
        obtain ⟨r, hrl, hre⟩ := List.mem_map.1 hm
        have := hr'.1 r hrl
        rw [hre] at this
        exact lt_irrefl_ _ this
      simp only [tot, if_true, tot_of_not_mem it l this]
      omega
    · have hne : p.1 ≠ it := by
        intro e'
        have := hr'.1 _ e
        rw [e'] at this
        exact lt_irrefl_ _ this
      simp only [tot, if_neg hne, tot_rising it hr'.2 e]
      omega

theorem IsJoin.self {l out : List Pt} (h : IsJoin l out) : IsJoin out out :=
  ⟨h.1, fun it q => by
    constructor
    · intro hm
      exact ⟨List.mem_map.2 ⟨_, hm, rfl⟩, (tot_rising it h.1 hm).symm⟩
    · rintro ⟨hm, rfl⟩
      obtain ⟨⟨it', q'⟩, hr, rfl⟩ := List.mem_map.1 hm
      rw [tot_rising it' h.1 hr]
      exact hr⟩

theorem IsJoin.ok {l out : List Pt} (h : IsJoin l out) (hl : JoinOk l) : JoinOk out := by
  refine ⟨fun p hp => ?_, fun it => ?_⟩
  · obtain ⟨it, q⟩ := p
    obtain ⟨_, rfl⟩ := (h.2 it q).1 hp
    exact ⟨tot_nonneg it l (fun p hp => (hl.1 p hp).1), hl.2 it⟩
  · by_cases hm : it ∈ out.map (·.1)
    · obtain ⟨⟨it', q'⟩, hr, rfl⟩ := List.mem_map.1 hm
      rw [tot_rising it' h.1 hr, ((h.2 it' q').1 hr).2]
      exact hl.2 it'
    · rw [tot_of_not_mem it out hm]
      omega

end Go.Proofs.YtfppiigmibjbnaaGreat
