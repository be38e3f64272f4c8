/- Plain mathematics of a part that is put into a rising list. -/
import Derived.Test.YtfppiigmibjbnaaGreatMath
namespace Go.Proofs.YtfppiigmibjbnaaGreat

theorem rising_split {a b : List Pt} (h : Rising (a ++ b)) : Rising a ∧ Rising b ∧ ∀ p ∈ a, ∀ q ∈ b, p.1 < q.1 := List.pairwise_append.1 h
theorem rising_put {a b : List Pt} {x : Pt} (h : Rising (a ++ b)) (ha : ∀ p ∈ a, p.1 < x.1) (hb : ∀ q ∈ b, x.1 < q.1) : Rising (a ++ x :: b) := by
  obtain ⟨h1, h2, h3⟩ := rising_split h
  refine List.pairwise_append.2 ⟨h1, List.pairwise_cons.2 ⟨hb, h2⟩, fun p hp q hq => ?_⟩
  rcases List.mem_cons.1 hq with rfl | hq
  · exact ha p hp
  · exact h3 p hp q hq
theorem tot_snoc (it : List UInt8) (l : List Pt) (p : Pt) : tot it (l ++ [p]) = tot it l + if p.1 = it then p.2 else 0 := by
  rw [tot_append]; simp [tot]
theorem join_put {l a b : List Pt} {it : List UInt8} (q : Int) (h : IsJoin l (a ++ b)) (ha : ∀ p ∈ a, p.1 < it) (hb : ∀ r ∈ b, it < r.1) : it ∉ l.map (·.1) ∧ IsJoin (l ++ [(it, q)]) (a ++ (it, q) :: b) := by
  have hn : it ∉ l.map (·.1) := by
    intro hm
    have := (h.2 it (tot it l)).2 ⟨hm, rfl⟩
    rcases List.mem_append.1 this with e | e
    · exact lt_irrefl_ _ (ha _ e)
    · exact lt_irrefl_ _ (hb _ e)
  refine ⟨hn, rising_put h.1 ha hb, fun it' q' => ?_⟩
  have hmem : (it', q') ∈ a ++ (it, q) :: b ↔ (it', q') = (it, q) ∨ (it', q') ∈ a ++ b := by
    simp only [List.mem_append, List.mem_cons]
    constructor
    · rintro (e | e | e) <;> simp [e]
    · rintro (e | e | e) <;> simp [e]
  rw [hmem, h.2, tot_snoc]
  simp only [Prod.mk.injEq, List.map_append, List.map_cons, List.map_nil, List.mem_append, List.mem_singleton]
  constructor
  · rintro (⟨rfl, rfl⟩ | ⟨h1, rfl⟩)
    · exact ⟨.inr rfl, by rw [tot_of_not_mem _ _ hn]; simp⟩
    · refine ⟨.inl h1, ?_⟩
      rw [if_neg (fun (e : it = it') => hn (by rw [e]; exact h1))]
      omega
  · rintro ⟨h1, rfl⟩
    by_cases e : it' = it
    · subst e
      exact .inl ⟨rfl, by rw [tot_of_not_mem _ _ hn]; simp⟩
    · rcases h1 with h1 | h1
      · exact .inr ⟨h1, by rw [if_neg (Ne.symm e)]; omega⟩
      · exact absurd h1 e
theorem join_add {l a b : List Pt} {it : List UInt8} {q0 : Int} (q : Int) (h : IsJoin l (a ++ (it, q0) :: b)) : q0 = tot it l ∧ IsJoin (l ++ [(it, q)]) (a ++ (it, tot it l + q) :: b) := by
  have h0 := (h.2 it q0).1 (by simp)
  have hr := h.1
  obtain ⟨r1, r2, r3⟩ := rising_split hr
  have r2' := List.pairwise_cons.1 r2
  have hr' : Rising (a ++ (it, tot it l + q) :: b) := by
    refine List.pairwise_append.2 ⟨r1, List.pairwise_cons.2 ⟨r2'.1, r2'.2⟩, fun p hp r hr => ?_⟩
    rcases List.mem_cons.1 hr with rfl | hr
    · exact r3 p hp (it, q0) (by simp)
    · exact r3 p hp r (by simp [hr])
  refine ⟨h0.2, hr', fun it' q' => ?_⟩
  rw [tot_snoc]
  have hne : ∀ p ∈ a ++ b, p.1 ≠ it := by
    intro p hp
    rcases List.mem_append.1 hp with e | e
    · exact fun e' => lt_irrefl_ it (by have := r3 p e (it, q0) (by simp); rwa [e'] at this)
    · exact fun e' => lt_irrefl_ it (by have := r2'.1 p e; rwa [e'] at this)
  have hmem : (it', q') ∈ a ++ (it, tot it l + q) :: b ↔ (it' = it ∧ q' = tot it l + q) ∨ (it', q') ∈ a ++ b := by
    simp only [List.mem_append, List.mem_cons, Prod.mk.injEq]
    constructor
    · rintro (e | e | e) <;> simp [e]
    · rintro (e | e | e) <;> simp [e]
  have hmem0 : (it', q') ∈ a ++ (it, q0) :: b ↔ (it' = it ∧ q' = q0) ∨ (it', q') ∈ a ++ b := by
    simp only [List.mem_append, List.mem_cons, Prod.mk.injEq]
    constructor
    · rintro (e | e | e) <;> simp [e]
    · rintro (e | e | e) <;> simp [e]
  rw [hmem]
  simp only [List.map_append, List.map_cons, List.map_nil, List.mem_append (a := it'), List.mem_singleton]
  by_cases e : it' = it
  · subst e
    constructor
    · rintro (⟨_, rfl⟩ | e')
      · exact ⟨.inr rfl, by simp⟩
      · exact absurd rfl (hne _ e')
    · rintro ⟨_, rfl⟩
      exact .inl ⟨rfl, by simp⟩
  · rw [if_neg (Ne.symm e)]
    have := h.2 it' q'
    rw [hmem0] at this
    constructor
    · rintro (⟨e', _⟩ | e')
      · exact absurd e' e
      · have := this.1 (.inr e')
        exact ⟨.inl this.1, by omega⟩
    · rintro ⟨h1 | h1, h2⟩
      · rcases this.2 ⟨h1, by omega⟩ with ⟨e', _⟩ | e'
        · exact absurd e' e
        · exact .inr e'
      · exact absurd h1 e

/-- The list in which the part's item stands at 'at', with what it has so far. -/
structure Mid (l : List Pt) (it : List UInt8) (mid : List Pt) (k : Nat) : Prop where
  at_ : mid[k]? = some (it, tot it l)
  step : ∀ q, IsJoin (l ++ [(it, q)]) (mid.set k (it, tot it l + q))
theorem set_mid (a b : List Pt) (x y : Pt) : (a ++ x :: b).set a.length y = a ++ y :: b := by
  rw [List.set_append_right _ _ (Nat.le_refl _)]; simp
theorem mid_new {l out : List Pt} {it : List UInt8} {k : Nat} (h : IsJoin l out) (hk : k ≤ out.length) (ha : ∀ (j : Nat) (p : Pt), j < k → out[j]? = some p → p.1 < it)
    (hb : ∀ p : Pt, out[k]? = some p → ¬ p.1 < it ∧ p.1 ≠ it) : Mid l it (out.take k ++ ([(it, 0)] ++ out.drop k)) k := by
  have hsp : IsJoin l (out.take k ++ out.drop k) := by rw [List.take_append_drop]; exact h
  have hta : ∀ p ∈ out.take k, p.1 < it := by
    intro p hp
    obtain ⟨j, hj, he⟩ := List.getElem_of_mem hp
    have hjk : j < k := by simp at hj; omega
    rw [List.getElem_take] at he
    exact ha j p hjk (by rw [List.getElem?_eq_getElem (by simp at hj; omega), he])
  have hdb : ∀ r ∈ out.drop k, it < r.1 := by
    intro r hr
    by_cases hlt : k < out.length
    · obtain ⟨p, hp⟩ : ∃ p, out[k]? = some p := ⟨_, List.getElem?_eq_getElem hlt⟩
      obtain ⟨h1, h2⟩ := hb p hp
      have hlp : it < p.1 := by
        by_cases h3 : it < p.1
        · exact h3
        · exact absurd (List.le_antisymm (List.not_lt.1 h3) (List.not_lt.1 h1)) h2
      have hd : out.drop k = p :: out.drop (k + 1) := by rw [List.drop_eq_getElem_cons hlt]; rw [List.getElem?_eq_getElem hlt] at hp; cases hp; rfl
      rw [hd] at hr
      rcases List.mem_cons.1 hr with rfl | hr
      · exact hlp
      · have hrd := (rising_split hsp.1).2.1
        rw [hd] at hrd
        exact lt_trans_ hlp ((List.pairwise_cons.1 hrd).1 r hr)
    · rw [List.drop_eq_nil_of_le (by omega)] at hr
      simp at hr
  have hlen : (out.take k).length = k := by simp; omega
  have h0 := (join_put 0 hsp hta hdb).1
  have ht0 := tot_of_not_mem it l h0
  refine ⟨?_, fun q => ?_⟩
  · rw [List.getElem?_append_right (by omega), hlen, ht0]; simp
  · have h2 := (join_put q hsp hta hdb).2
    have e := set_mid (out.take k) (out.drop k) (it, 0) (it, tot it l + q)
    rw [hlen] at e
    simp only [List.singleton_append]
    rw [e, ht0]
    simpa using h2
theorem mid_old {l out : List Pt} {it : List UInt8} {k : Nat} {p : Pt} (h : IsJoin l out) (hp : out[k]? = some p) (he : p.1 = it) : Mid l it out k := by
  have hk := List.getElem?_eq_some_iff.1 hp
  have hsp : out = out.take k ++ p :: out.drop (k + 1) := by
    conv => lhs; rw [← List.take_append_drop k out, List.drop_eq_getElem_cons hk.1, hk.2]
  have hlen : (out.take k).length = k := by have := hk.1; rw [List.length_take]; omega
  obtain ⟨it', q0⟩ := p
  simp only at he
  subst he
  rw [hsp] at h
  have h0 := (join_add 0 h).1
  subst h0
  refine ⟨hp, fun q => ?_⟩
  have e := set_mid (out.take k) (out.drop (k + 1)) (it', tot it' l) (it', tot it' l + q)
  rw [hlen, ← hsp] at e
  rw [e]
  exact (join_add q h).2
end Go.Proofs.YtfppiigmibjbnaaGreat
