/- Texts of this proof, one behind the other. -/
import Derived.Test.YtddnfikjfmfhfaaW04
import Derived.Test.YtddnfikjfmfhfaaW09
import Derived.Test.YtddnfikjfmfhfaaW10
section
/- If no uses serve all wants, some of them want more than all lots have that can serve one of them. Lists and integers alone. -/
namespace Go.Proofs.Ytddnfikjfmfhfaa
set_option linter.unusedVariables false

namespace Fl
section
variable {α γ : Type} (id : α → Int) (sv : α → γ → Bool)

/-- What the wants of a set want; what the lots have that can serve one of them. -/
def needT : (Nat → Bool) → List (γ × Int) → Int
  | _, [] => 0
  | T, p :: r => (if T 0 = true then p.2 else 0) + needT (fun i => T (i + 1)) r
def meets (l : α) : (Nat → Bool) → List (γ × Int) → Bool
  | _, [] => false
  | T, p :: r => (T 0 && sv l p.1) || meets l (fun i => T (i + 1)) r
def haveT (q : Int → Int) (T : Nat → Bool) (wn : List (γ × Int)) : List α → Int
  | [] => 0
  | l :: r => (if meets sv l T wn = true then q (id l) else 0) + haveT q T wn r
def Hall (ls : List α) (q : Int → Int) (wn : List (γ × Int)) : Prop := ∀ T : Nat → Bool, needT T wn ≤ haveT id sv q T wn ls

theorem needT_mod : ∀ (A B : Nat → Bool) (wn : List (γ × Int)), needT (fun i => A i || B i) wn + needT (fun i => A i && B i) wn = needT A wn + needT B wn
  | A, B, [] => rfl
  | A, B, p :: r => by
    have h := needT_mod (fun i => A (i + 1)) (fun i => B (i + 1)) r
    simp only [needT]
    rcases Bool.eq_false_or_eq_true (A 0) with ha | ha <;> rcases Bool.eq_false_or_eq_true (B 0) with hb | hb <;> simp [ha, hb] <;> omega
theorem meets_or (l : α) : ∀ (A B : Nat → Bool) (wn : List (γ × Int)), meets sv l (fun i => A i || B i) wn = (meets sv l A wn || meets sv l B wn)
  | A, B, [] => rfl
  | A, B, p :: r => by
    have h := meets_or l (fun i => A (i + 1)) (fun i => B (i + 1)) r
    simp only [meets]
    rw [h]
    cases A 0 <;> cases B 0 <;> cases sv l p.1 <;> simp
theorem meets_and (l : α) : ∀ (A B : Nat → Bool) (wn : List (γ × Int)), meets sv l (fun i => A i && B i) wn = true → meets sv l A wn = true ∧ meets sv l B wn = true
  | A, B, [], h => by simp [meets] at h
  | A, B, p :: r, h => by
    simp only [meets, Bool.or_eq_true, Bool.and_eq_true] at h ⊢
    rcases h with ⟨⟨h1, h2⟩, h3⟩ | h
    · exact ⟨.inl ⟨h1, h3⟩, .inl ⟨h2, h3⟩⟩
    · obtain ⟨h1, h2⟩ := meets_and l (fun i => A (i + 1)) (fun i => B (i + 1)) r h
      exact ⟨.inr h1, .inr h2⟩
theorem meets_none (l : α) : ∀ (T : Nat → Bool) (wn : List (γ × Int)), (∀ i, T i = false) → meets sv l T wn = false
  | T, [], h => rfl
  | T, p :: r, h => by
    simp only [meets, h 0, Bool.false_and, Bool.false_or]
    exact meets_none l _ r (fun i => h (i + 1))
theorem needT_none : ∀ (T : Nat → Bool) (wn : List (γ × Int)), (∀ i, T i = false) → needT T wn = 0
  | T, [], h => rfl
  | T, p :: r, h => by
    simp only [needT, h 0]
    rw [needT_none _ r (fun i => h (i + 1))]
    rfl
variable {id sv}
theorem haveT_sub (q : Int → Int) (A B : Nat → Bool) (wn : List (γ × Int)) : ∀ {ls : List α}, (∀ l ∈ ls, 0 ≤ q (id l)) → haveT id sv q (fun i => A i || B i) wn ls + haveT id sv q (fun i => A i && B i) wn ls ≤ haveT id sv q A wn ls + haveT id sv q B wn ls
  | [], _ => by simp [haveT]
  | l :: r, h => by
    have h1 := haveT_sub q A B wn (ls := r) (fun x hx => h x (by simp [hx]))
    have h0 := h l (by simp)
    have h2 := meets_or sv l A B wn
    have h3 := meets_and sv l A B wn
    simp only [haveT]
    rw [h2]
    cases ha : meets sv l A wn <;> cases hb : meets sv l B wn <;> cases hc : meets sv l (fun i => A i && B i) wn <;> simp_all <;> omega
theorem haveT_nonneg (q : Int → Int) (A : Nat → Bool) (wn : List (γ × Int)) : ∀ {ls : List α}, (∀ l ∈ ls, 0 ≤ q (id l)) → 0 ≤ haveT id sv q A wn ls
  | [], _ => by simp [haveT]
  | l :: r, h => by
    have h1 := haveT_nonneg q A wn (ls := r) (fun x hx => h x (by simp [hx]))
    have h0 := h l (by simp)
    simp only [haveT]
    split <;> omega
/-- Of lots that all lie in one set's reach the other set's counts as well. -/
theorem haveT_le (q : Int → Int) (A B : Nat → Bool) (wn : List (γ × Int)) : ∀ {ls : List α}, (∀ l ∈ ls, 0 ≤ q (id l)) → (∀ l ∈ ls, 0 < q (id l) → meets sv l A wn = true → meets sv l B wn = true) → haveT id sv q A wn ls ≤ haveT id sv q B wn ls
  | [], _, _ => by simp [haveT]
  | l :: r, h, hm => by
    have h1 := haveT_le q A B wn (ls := r) (fun x hx => h x (by simp [hx])) (fun x hx => hm x (by simp [hx]))
    have h0 := h l (by simp)
    have h2 := hm l (by simp)
    simp only [haveT]
    by_cases ha : meets sv l A wn = true
    · by_cases hq : 0 < q (id l)
      · rw [if_pos ha, if_pos (h2 hq ha)]; omega
      · rw [if_pos ha]; split <;> omega
    · rw [if_neg ha]; split <;> omega
theorem haveT_bmp (q : Int → Int) (A : Nat → Bool) (wn : List (γ × Int)) (a : α) (t : Int) : ∀ {ls : List α}, (ls.map id).Nodup → a ∈ ls → haveT id sv (bmp q (id a) t) A wn ls = haveT id sv q A wn ls + (if meets sv a A wn = true then t else 0)
  | [], _, h => by simp at h
  | l :: r, hn, h => by
    have hn0 := hn
    rw [List.map_cons, List.nodup_cons] at hn
    simp only [haveT]
    have hnot : ∀ {ls : List α}, (∀ l ∈ ls, id l ≠ id a) → haveT id sv (bmp q (id a) t) A wn ls = haveT id sv q A wn ls := by
      intro ls
      induction ls with
      | nil => intro _; rfl
      | cons z s ih =>
        intro hz
        simp only [haveT]
        rw [bmp_other _ _ _ _ (hz z (by simp)), ih (fun x hx => hz x (by simp [hx]))]
    by_cases e : id l = id a
    · have : l = a := id_inj id hn0 (by simp) h e
      subst this
      rw [bmp_same, hnot (fun x hx e' => hn.1 (by rw [← e']; exact List.mem_map_of_mem hx))]
      split <;> omega
    · rw [bmp_other _ _ _ _ e, haveT_bmp q A wn a t hn.2 (by
        rcases List.mem_cons.1 h with rfl | h
        · exact absurd rfl e
        · exact h)]
      omega
def shiftT (T : Nat → Bool) : Nat → Bool := fun i => match i with
  | 0 => false
  | k + 1 => T k
theorem hall_cons {ls : List α} {q : Int → Int} {p : γ × Int} {r : List (γ × Int)} (h : Hall id sv ls q (p :: r)) : Hall id sv ls q r := fun T => by
  have h1 := h (shiftT T)
  have h2 : ∀ {ls : List α}, haveT id sv q (shiftT T) (p :: r) ls = haveT id sv q T r ls := by
    intro ls
    induction ls with
    | nil => rfl
    | cons l s ih => simp only [haveT, ih]; rfl
  rw [h2] at h1
  have h3 : needT (shiftT T) (p :: r) = needT T r := by
    simp only [needT, shiftT]; simp
  rw [h3] at h1
  exact h1
theorem Hall.congr {ls : List α} {q q' : Int → Int} {wn : List (γ × Int)} (h : Hall id sv ls q wn) (e : ∀ l ∈ ls, q (id l) = q' (id l)) : Hall id sv ls q' wn := fun T => by
  have : ∀ {ls : List α}, (∀ l ∈ ls, q (id l) = q' (id l)) → haveT id sv q T wn ls = haveT id sv q' T wn ls := by
    intro ls
    induction ls with
    | nil => intro _; rfl
    | cons l s ih => intro e; simp only [haveT, ih (fun x hx => e x (by simp [hx])), e l (by simp)]
  rw [← this e]
  exact h T
theorem needT_set0 (T : Nat → Bool) (p : γ × Int) (r : List (γ × Int)) (h : T 0 = false) : needT (fun i => T i || i == 0) (p :: r) = p.2 + needT T (p :: r) := by
  simp only [needT, h]; simp
theorem meets_set0 (l : α) (T : Nat → Bool) (p : γ × Int) (r : List (γ × Int)) : meets sv l (fun i => T i || i == 0) (p :: r) = (sv l p.1 || meets sv l T (p :: r)) := by
  simp only [meets]; cases T 0 <;> cases sv l p.1 <;> simp
theorem needT_dec (T : Nat → Bool) (w : γ) (n : Int) (r : List (γ × Int)) : needT T ((w, n - 1) :: r) = needT T ((w, n) :: r) - (if T 0 = true then 1 else 0) := by
  simp only [needT]; split <;> omega
theorem meets_dec (l : α) (T : Nat → Bool) (w : γ) (n m : Int) (r : List (γ × Int)) : meets sv l T ((w, n) :: r) = meets sv l T ((w, m) :: r) := rfl
theorem haveT_dec (q : Int → Int) (T : Nat → Bool) (w : γ) (n m : Int) (r : List (γ × Int)) : ∀ {ls : List α}, haveT id sv q T ((w, n) :: r) ls = haveT id sv q T ((w, m) :: r) ls
  | [] => rfl
  | l :: s => by simp only [haveT]; rw [haveT_dec q T w n m r (ls := s), meets_dec l T w n m r]

/-- Sets that are tight, and do not have the first want: together they are tight. -/
def Tight (id : α → Int) (sv : α → γ → Bool) (ls : List α) (q : Int → Int) (wn : List (γ × Int)) (T : Nat → Bool) : Prop := T 0 = false ∧ haveT id sv q T wn ls ≤ needT T wn
theorem Tight.or {ls : List α} {q : Int → Int} {wn : List (γ × Int)} {A B : Nat → Bool} (hq : ∀ l ∈ ls, 0 ≤ q (id l)) (hH : Hall id sv ls q wn) (ha : Tight id sv ls q wn A) (hb : Tight id sv ls q wn B) : Tight id sv ls q wn (fun i => A i || B i) := by
  refine ⟨by show (A 0 || B 0) = false; rw [ha.1, hb.1]; rfl, ?_⟩
  have h1 := needT_mod A B wn
  have h2 := haveT_sub (id := id) (sv := sv) q A B wn hq
  have h3 := hH (fun i => A i && B i)
  have h4 := ha.2
  have h5 := hb.2
  omega
theorem hall_step {ls : List α} (hn : (ls.map id).Nodup) {q : Int → Int} {w : γ} {n : Int} {r : List (γ × Int)} (hq : ∀ l ∈ ls, 0 ≤ q (id l)) (h1 : 1 ≤ n) (hH : Hall id sv ls q ((w, n) :: r)) :
    ∃ l ∈ ls, sv l w = true ∧ 1 ≤ q (id l) ∧ Hall id sv ls (bmp q (id l) (-1)) ((w, n - 1) :: r) := by
  refine Classical.byContradiction fun hno => ?_
  -- each lot that could serve lies in the reach of a tight set
  have hall : ∀ l ∈ ls, sv l w = true → 1 ≤ q (id l) → ∃ T, Tight id sv ls q ((w, n) :: r) T ∧ meets sv l T ((w, n) :: r) = true := by
    intro l hl hs hql
    refine Classical.byContradiction fun hnt => hno ⟨l, hl, hs, hql, fun T => ?_⟩
    have hT := hH T
    rw [haveT_bmp q T _ l (-1) hn hl, needT_dec, haveT_dec q T w (n - 1) n r, meets_dec l T w (n - 1) n r]
    by_cases h0 : T 0 = true
    · rw [if_pos h0]; split <;> omega
    · rw [if_neg h0]
      by_cases hm : meets sv l T ((w, n) :: r) = true
      · rw [if_pos hm]
        refine Int.not_lt.1 fun hlt => hnt ⟨T, ⟨by simpa using h0, by omega⟩, hm⟩
      · rw [if_neg hm]; omega
  -- one tight set for them all
  have hone : ∀ s : List α, (∀ l ∈ s, l ∈ ls) → ∃ T, Tight id sv ls q ((w, n) :: r) T ∧ ∀ l ∈ s, sv l w = true → 1 ≤ q (id l) → meets sv l T ((w, n) :: r) = true := by
    intro s
    induction s with
    | nil =>
      intro _
      refine ⟨fun _ => false, ⟨rfl, ?_⟩, fun l hl => absurd hl (by simp)⟩
      rw [needT_none _ _ (fun _ => rfl)]
      have : ∀ {ls : List α}, haveT id sv q (fun _ => false) ((w, n) :: r) ls = 0 := by
        intro ls
        induction ls with
        | nil => rfl
        | cons z s ih => simp only [haveT, ih, meets_none sv z (fun _ => false) _ (fun _ => rfl)]; rfl
      rw [this]
      exact Int.le_refl _
    | cons x s ih =>
      intro hs
      obtain ⟨T, hT, hm⟩ := ih (fun l hl => hs l (by simp [hl]))
      by_cases hx : sv x w = true ∧ 1 ≤ q (id x)
      · obtain ⟨T', hT', hm'⟩ := hall x (hs x (by simp)) hx.1 hx.2
        refine ⟨_, Tight.or hq hH hT hT', fun l hl h2 h3 => ?_⟩
        rw [meets_or]
        rcases List.mem_cons.1 hl with rfl | hl
        · rw [hm', Bool.or_true]
        · rw [hm l hl h2 h3, Bool.true_or]
      · refine ⟨T, hT, fun l hl h2 h3 => ?_⟩
        rcases List.mem_cons.1 hl with rfl | hl
        · exact absurd ⟨h2, h3⟩ hx
        · exact hm l hl h2 h3
  obtain ⟨T, hT, hm⟩ := hone ls (fun _ h => h)
  have h2 := hH (fun i => T i || i == 0)
  rw [needT_set0 T _ _ hT.1] at h2
  have h3 : haveT id sv q (fun i => T i || i == 0) ((w, n) :: r) ls ≤ haveT id sv q T ((w, n) :: r) ls :=
    haveT_le q _ _ _ hq (fun l hl hpos hme => by
      rw [meets_set0] at hme
      rcases Bool.or_eq_true_iff.1 hme with hme | hme
      · exact hm l hl hme (by omega)
      · exact hme)
  have h4 := hT.2
  simp only at h2
  omega
/-- The wants with what they want beside them. -/
theorem hall_feas {ls : List α} (hn : (ls.map id).Nodup) : ∀ (r : List (γ × Int)) (q : Int → Int), (∀ l ∈ ls, 0 ≤ q (id l)) → (∀ p ∈ r, 0 ≤ p.2) → Hall id sv ls q r → Feas id (fun l (p : γ × Int) => sv l p.1) Prod.snd ls q r
  | [], q, hq, _, _ => hq
  | (w, n) :: r, q, hq, hp, hH => by
    have key : ∀ (k : Nat) (n : Int) (q : Int → Int), n = k → (∀ l ∈ ls, 0 ≤ q (id l)) → Hall id sv ls q ((w, n) :: r) → FeasN id (fun l (p : γ × Int) => sv l p.1) Prod.snd ls q n (w, n) r := by
      intro k
      induction k with
      | zero =>
        intro n q hk hq hH
        subst hk
        refine ⟨fun _ => 0, ⟨fun _ => Int.le_refl _, fun l hl h => absurd h (Int.lt_irrefl 0), by rw [tot_zero]; rfl⟩, ?_⟩
        exact (hall_feas hn r q hq (fun p hpm => hp p (by simp [hpm])) (hall_cons hH)).mono (fun l hl => by show q (id l) ≤ q (id l) - 0; omega)
      | succ k ih =>
        intro n q hk hq hH
        obtain ⟨l, hl, hs, hql, hH'⟩ := hall_step hn hq (by omega) hH
        obtain ⟨y, hT, hF⟩ := ih (n - 1) (bmp q (id l) (-1)) (by omega) (fun x hx => by
          have := hq x hx
          unfold bmp
          split
          · rename_i e; rw [e]; omega
          · exact this) hH'
        refine ⟨bmp y (id l) 1, ⟨fun i => ?_, fun x hx hpx => ?_, ?_⟩, hF.mono (fun x hx => ?_)⟩
        · have := hT.pos i
          unfold bmp
          split <;> simp_all <;> omega
        · by_cases ex : id x = id l
          · rw [id_inj id hn hx hl ex]; exact hs
          · rw [bmp_other _ _ _ _ ex] at hpx
            exact hT.may x hx hpx
        · rw [tot_bmp id 1 hn l hl, hT.sum]; omega
        · unfold bmp
          split <;> simp_all <;> omega
    have h0 := hp (w, n) (by simp)
    exact key n.toNat n q (by simp only at h0; omega) hq hH
/-- The other way round: whoever is served is no such set. -/
theorem feas_hall {ls : List α} : ∀ (r : List (γ × Int)) (q : Int → Int), Feas id (fun l (p : γ × Int) => sv l p.1) Prod.snd ls q r → Hall id sv ls q r
  | [], q, h => fun T => by
    simp only [needT]
    exact haveT_nonneg q T [] h
  | (w, n) :: r, q, ⟨y, hy, h⟩ => fun T => by
    have hq := h.nonneg
    have h1 := feas_hall r _ h (fun i => T (i + 1))
    have key : ∀ {s : List α}, (∀ l ∈ s, l ∈ ls) → (if T 0 = true then tot id y s else 0) + haveT id sv (fun i => q i - y i) (fun i => T (i + 1)) r s ≤ haveT id sv q T ((w, n) :: r) s := by
      intro s
      induction s with
      | nil => intro _; simp [haveT, tot]
      | cons l s ih =>
        intro hs
        have h2 := ih (fun x hx => hs x (by simp [hx]))
        have h3 := hy.pos (id l)
        have h4 := hy.may l (hs l (by simp))
        have h5 : y (id l) ≤ q (id l) := by have := hq l (hs l (by simp)); (try simp only at this); omega
        simp only [haveT, meets, tot]
        rcases Bool.eq_false_or_eq_true (T 0) with h6 | h6 <;> rcases Bool.eq_false_or_eq_true (sv l w) with h7 | h7 <;> rcases Bool.eq_false_or_eq_true (meets sv l (fun i => T (i + 1)) r) with h8 | h8 <;> simp only [h6, if_true, Bool.false_eq_true, if_false] at h2 <;> simp [h6, h7, h8] <;> (try simp [h7] at h4) <;> omega
    have h2 := key (s := ls) (fun _ h => h)
    rw [hy.sum] at h2
    simp only [needT]
    try simp only at h2
    by_cases h9 : T 0 = true
    · rw [if_pos h9] at h2 ⊢; omega
    · rw [if_neg h9] at h2 ⊢; omega
/-- Wants with what they want beside them, or without. -/
theorem feas_with {β : Type} {svb : α → β → Bool} {need : β → Int} {ls : List α} {ws : List β} : ∀ {q : Int → Int}, Feas id svb need ls q ws ↔ Feas id (fun l (p : β × Int) => svb l p.1) Prod.snd ls q (ws.map fun w => (w, need w)) := by
  induction ws with
  | nil => intro q; exact Iff.rfl
  | cons w ws ih =>
    intro q
    constructor
    · rintro ⟨y, hy, h⟩
      exact ⟨y, ⟨hy.pos, hy.may, hy.sum⟩, ih.1 h⟩
    · rintro ⟨y, hy, h⟩
      exact ⟨y, ⟨hy.pos, hy.may, hy.sum⟩, ih.2 h⟩
theorem feas_iff_hall {β : Type} {svb : α → β → Bool} {need : β → Int} {ls : List α} (hn : (ls.map id).Nodup) {ws : List β} {q : Int → Int} (hq : ∀ l ∈ ls, 0 ≤ q (id l)) (h0 : ∀ w ∈ ws, 0 ≤ need w) :
    Feas id svb need ls q ws ↔ Hall id svb ls q (ws.map fun w => (w, need w)) :=
  feas_with.trans ⟨feas_hall _ _, fun h => hall_feas hn _ _ hq (fun p hp => by
    obtain ⟨w, hw, rfl⟩ := List.mem_map.1 hp
    exact h0 w hw) h⟩
end
end Fl
end Go.Proofs.Ytddnfikjfmfhfaa
end
section
/- What serving tells is found right; what any uses serve can be served; sums. No walk. -/
namespace Go.Proofs.Ytddnfikjfmfhfaa
open Go.ChangeShapes Go.WideShapes Go.ChangeAt Go.RowKit Go.Maps
set_option linter.unusedVariables false

namespace Fl
section
variable {α γ : Type} {id : α → Int} {sv : α → γ → Bool}
theorem feas_zero {ls : List α} : ∀ (wn : List (γ × Int)) (q : Int → Int), (∀ l ∈ ls, 0 ≤ q (id l)) → (∀ p ∈ wn, p.2 = 0) → Feas id (fun l (p : γ × Int) => sv l p.1) Prod.snd ls q wn
  | [], q, hq, _ => hq
  | p :: r, q, hq, h0 => ⟨fun _ => 0, ⟨fun _ => Int.le_refl _, fun l hl h => absurd h (by omega), by rw [tot_zero]; exact (h0 p (by simp)).symm⟩, (feas_zero r q hq (fun x hx => h0 x (by simp [hx]))).mono (fun l hl => by (try simp only); omega)⟩
theorem feas_add {ls : List α} (hn : (ls.map id).Nodup) {a : α} (ha : a ∈ ls) {w : γ} {n t : Int} {r : List (γ × Int)} {q : Int → Int} (hs : sv a w = true) (ht : 0 ≤ t)
    (h : Feas id (fun l (p : γ × Int) => sv l p.1) Prod.snd ls (bmp q (id a) (-t)) ((w, n - t) :: r)) : Feas id (fun l (p : γ × Int) => sv l p.1) Prod.snd ls q ((w, n) :: r) := by
  obtain ⟨y, hT, hF1⟩ := h
  refine ⟨bmp y (id a) t, ⟨fun i => ?_, fun x hx hp => ?_, ?_⟩, hF1.mono (fun x hx => ?_)⟩
  · have := hT.pos i
    unfold bmp
    split <;> simp_all <;> omega
  · by_cases ex : id x = id a
    · rw [id_inj id hn hx ha ex]; exact hs
    · rw [bmp_other _ _ _ _ ex] at hp
      exact hT.may x hx hp
  · have := hT.sum
    rw [tot_bmp id t hn a ha]
    simp only at this ⊢
    omega
  · unfold bmp
    split <;> simp_all <;> omega
end
end Fl

theorem set_perm {α : Type} (l : List α) (p : Nat) (x : α) (hp : p < l.length) : (l.set p x).Perm (x :: (l.take p ++ l.drop (p + 1))) := by
  rw [List.set_eq_take_append_cons_drop, if_pos hp]
  exact List.perm_middle
theorem zip_set_right {α β : Type} : ∀ (ws : List α) (nd : List β) (p : Nat) (m : β) (x : α), ws[p]? = some x → ws.zip (nd.set p m) = (ws.zip nd).set p (x, m)
  | [], nd, p, m, x, h => by simp at h
  | a :: ws, [], p, m, x, h => by simp
  | a :: ws, b :: nd, 0, m, x, h => by simp at h; subst h; simp
  | a :: ws, b :: nd, p + 1, m, x, h => by simp; exact zip_set_right ws nd p m x (by simpa using h)
theorem zip_at {α β : Type} {ws : List α} {nd : List β} {p : Nat} {x : α} {n : β} (hx : ws[p]? = some x) (hn : nd[p]? = some n) : ws.zip nd = (ws.zip nd).set p (x, n) := by
  have e : nd.set p n = nd := by
    apply List.ext_getElem?
    intro i
    rw [List.getElem?_set]
    split
    · rename_i h; subst h
      rw [if_pos (List.getElem?_eq_some_iff.1 hn).1]; exact hn.symm
    · rfl
  have := zip_set_right ws nd p n x hx
  rwa [e] at this
theorem set_self {β : Type} {nd : List β} {p : Nat} {n : β} (hn : nd[p]? = some n) : nd.set p n = nd := by
  apply List.ext_getElem?
  intro i
  rw [List.getElem?_set]
  split
  · rename_i h; subst h
    rw [if_pos (List.getElem?_eq_some_iff.1 hn).1]; exact hn.symm
  · rfl

theorem useOk_parts {l : List Lt} {x : Wt} {u : Us} {q : Int → Int} {n : Int} (h : useOk l x u q n = true) : servesB (foundL l u.lot) x = true ∧ 1 ≤ u.qty ∧ u.qty ≤ q u.lot ∧ u.qty ≤ n := by
  unfold useOk at h
  simp only [Bool.and_eq_true, Bool.not_eq_true', Bool.or_eq_false_iff, decide_eq_false_iff_not] at h
  refine ⟨h.1, ?_, ?_, ?_⟩ <;> omega
theorem useOk_of {l : List Lt} {x : Wt} {u : Us} {q : Int → Int} {n : Int} (h1 : servesB (foundL l u.lot) x = true) (h2 : 1 ≤ u.qty) (h3 : u.qty ≤ q u.lot) (h4 : u.qty ≤ n) : useOk l x u q n = true := by
  unfold useOk
  simp only [Bool.and_eq_true, Bool.not_eq_true', Bool.or_eq_false_iff, decide_eq_false_iff_not]
  exact ⟨h1, ⟨by omega, by omega⟩, by omega⟩
theorem found_of_qty {l : List Lt} {i : Int} (h : 1 ≤ qtyOf l i) : foundL l i ∈ l ∧ (foundL l i).id = i := by
  unfold qtyOf at h
  split at h
  · rename_i y hy
    have := lastId_some l hy
    unfold foundL; rw [hy]; exact this
  · omega
/-- Uses that are found right serve. -/
theorem check_feas {l : List Lt} {ws : List Wt} (hn : (l.map Lt.id).Nodup) : ∀ (us : List Us) (q : Int → Int) (nd : List Int), nd.length = ws.length → (∀ x ∈ l, 0 ≤ q x.id) → (∀ i, q i ≤ qtyOf l i) → (∀ n ∈ nd, 0 ≤ n) →
    checkGo l ws us q nd = true → Fl.Feas Lt.id (fun a (p : Wt × Int) => servesB a p.1) Prod.snd l q (ws.zip nd)
  | [], q, nd, hl, hq, _, h0, h => Fl.feas_zero (sv := servesB) _ q hq (fun p hp => by
      have hm := (List.of_mem_zip (a := p.1) (b := p.2) hp).2
      have h1 := h0 _ hm
      unfold checkGo at h
      rw [List.all_eq_true] at h
      have := h _ hm
      simp only [Bool.not_eq_true', decide_eq_false_iff_not] at this
      omega)
  | u :: r, q, nd, hl, hq, hqq, h0, h => by
    unfold checkGo at h
    split at h
    · cases h
    · rename_i hw
      split at h
      · rename_i hc
        obtain ⟨p, hp⟩ : ∃ p : Nat, u.want = p := ⟨u.want.toNat, by omega⟩
        have hpl : p < ws.length := by omega
        obtain ⟨x, hx⟩ : ∃ x, ws[p]? = some x := ⟨_, List.getElem?_eq_getElem hpl⟩
        obtain ⟨n, hnn⟩ : ∃ n, nd[p]? = some n := ⟨_, List.getElem?_eq_getElem (by omega)⟩
        have e1 : ws.getD u.want.toNat default = x := by rw [hp]; simp [List.getD_eq_getElem?_getD, hx]
        have e2 : nd.getD u.want.toNat 0 = n := by rw [hp]; simp [List.getD_eq_getElem?_getD, hnn]
        have e3 : u.want.toNat = p := by omega
        rw [e1, e2] at hc
        rw [e2, e3] at h
        obtain ⟨hs, h1, h2, h3⟩ := useOk_parts hc
        obtain ⟨hm, hid⟩ := found_of_qty (l := l) (i := u.lot) (by have := hqq u.lot; omega)
        have ih := check_feas hn r (Fl.bmp q u.lot (-u.qty)) (nd.set p (n - u.qty)) (by rw [List.length_set]; exact hl) (fun y hy => by
            unfold Fl.bmp; have := hq y hy; split
            · rename_i e; rw [e]; omega
            · exact this) (fun i => by
            unfold Fl.bmp; have := hqq i; split
            · omega
            · exact this) (fun m hm => by
            rcases List.mem_or_eq_of_mem_set hm with h | h
            · exact h0 m h
            · omega) h
        rw [zip_set_right ws nd p _ x hx] at ih
        have hzl : p < (ws.zip nd).length := by rw [List.length_zip]; omega
        have ih2 := ih.perm (set_perm (ws.zip nd) p (x, n - u.qty) hzl)
        rw [← hid] at ih2
        have ih3 := Fl.feas_add (sv := servesB) hn hm hs (by omega) ih2
        rw [zip_at hx hnn]
        exact ih3.perm (set_perm (ws.zip nd) p (x, n) hzl).symm
      · cases h
theorem zip_map {ws : List Wt} : ws.zip (ws.map Wt.qty) = ws.map (fun w => (w, w.qty)) := by
  induction ws with
  | nil => rfl
  | cons a r ih => simp [ih]
theorem check_can {l : List Lt} {ws : List Wt} {us : List Us} (h : checkB l ws us = true) : fitsP l ws := by
  unfold checkB at h
  rw [Bool.and_eq_true] at h
  obtain ⟨hb, hg⟩ := h
  obtain ⟨_, _, hlr, hwr, hnd⟩ := mayB_true hb
  refine ⟨hb, ?_⟩
  have := check_feas hnd us (qtyOf l) (ws.map Wt.qty) (by simp) (fun x hx => (qtyOf_range hlr _).1) (fun i => Int.le_refl _) (fun n hn => by
    obtain ⟨w, hw, rfl⟩ := List.mem_map.1 hn
    have := (wantB_parts (hwr w hw)).2.1; omega) hg
  rw [zip_map] at this
  exact Fl.feas_with.2 this

/-! ### what serving tells -/
def ofT (t : Int × Int × Int) : Us := ⟨t.1, t.2.1, t.2.2⟩
theorem ofT_useT (U : List Us) : (U.map useT).map ofT = U := by
  rw [List.map_map]
  have : ofT ∘ useT = fun u => u := by funext u; rfl
  rw [this, List.map_id']
theorem checkGo_take {l : List Lt} {ws : List Wt} (hn : (l.map Lt.id).Nodup) (p : Nat) (x : Wt) (hx : ws[p]? = some x) (R : List Us) : ∀ (S : List Lt) (n : Int) (q : Int → Int) (nd : List Int), (∀ y ∈ S, y ∈ l) → nd[p]? = some n →
    checkGo l ws ((Fl.takeG Lt.id servesB p x S n q).1.map ofT ++ R) q nd = checkGo l ws R (Fl.takeG Lt.id servesB p x S n q).2.2 (nd.set p (Fl.takeG Lt.id servesB p x S n q).2.1)
  | [], n, q, nd, hS, hnn => by
    simp only [Fl.takeG, List.map_nil, List.nil_append]
    rw [set_self hnn]
  | y :: S, n, q, nd, hS, hnn => by
    unfold Fl.takeG
    split
    · rename_i hc
      obtain ⟨h1, h2, h3⟩ := hc
      obtain ⟨t, ht⟩ : ∃ t, min n (q y.id) = t := ⟨_, rfl⟩
      rw [ht]
      have hpl := (List.getElem?_eq_some_iff.1 hx).1
      have hnl := (List.getElem?_eq_some_iff.1 hnn).1
      have ih := checkGo_take hn p x hx R S (n - t) (Fl.bmp q y.id (-t)) (nd.set p (n - t)) (fun z hz => hS z (by simp [hz])) (by rw [List.getElem?_set]; simp [hnl])
      rw [List.set_set] at ih
      rw [← ih]
      simp only [List.map_cons, List.cons_append]
      conv => lhs; unfold checkGo
      have e1 : ws.getD p default = x := by simp [List.getD_eq_getElem?_getD, hx]
      have e2 : nd.getD p 0 = n := by simp [List.getD_eq_getElem?_getD, hnn]
      have hw : ¬ (((p : Int)) < 0 ∨ (ws.length : Int) ≤ (p : Int)) := by omega
      have hok : useOk l x ⟨(p : Int), y.id, t⟩ q n = true := useOk_of (by show servesB (foundL l y.id) x = true; rw [foundL_mem hn (hS y (by simp))]; exact h3) (by show 1 ≤ t; omega) (by show t ≤ q y.id; omega) (by show t ≤ n; omega)
      rw [if_neg (show ¬ ((ofT ((p : Int), y.id, t)).want < 0 ∨ (ws.length : Int) ≤ (ofT ((p : Int), y.id, t)).want) from hw)]
      have hokk : useOk l (ws.getD (ofT ((p : Int), y.id, t)).want.toNat default) (ofT ((p : Int), y.id, t)) q (nd.getD (ofT ((p : Int), y.id, t)).want.toNat 0) = true := by
        show useOk l (ws.getD p default) ⟨(p : Int), y.id, t⟩ q (nd.getD p 0) = true
        rw [e1, e2]; exact hok
      rw [if_pos hokk]
      show checkGo l ws _ (Fl.bmp q y.id (-t)) (nd.set p (nd.getD p 0 - t)) = _
      rw [e2]
    · exact checkGo_take hn p x hx R S n q nd (fun z hz => hS z (by simp [hz])) hnn
theorem checkGo_run {l S : List Lt} {ws : List Wt} (hn : (l.map Lt.id).Nodup) (hS : ∀ y ∈ S, y ∈ l) : ∀ (P : List Nat) (q : Int → Int) (nd : List Int), (∀ p ∈ P, p < ws.length) → P.Nodup → (∀ p ∈ P, nd[p]? = some (ws.getD p default).qty) → (∀ p, p ∉ P → ∀ n, nd[p]? = some n → n = 0) →
    (serveRun S ws P q).2.1 = true → checkGo l ws ((serveRun S ws P q).1.map ofT) q nd = true
  | [], q, nd, _, _, _, h0, _ => by
    show checkGo l ws [] q nd = true
    unfold checkGo
    rw [List.all_eq_true]
    intro n hm
    obtain ⟨i, hi⟩ := List.getElem?_of_mem hm
    have := h0 i (by simp) n hi
    subst this; rfl
  | p :: P, q, nd, hP, hnd, h1, h0, hr => by
    have hx : ws[p]? = some (ws.getD p default) := by
      have := hP p (by simp)
      simp [List.getD_eq_getElem?_getD, List.getElem?_eq_getElem this]
    rw [List.nodup_cons] at hnd
    unfold serveRun atPlaces at hr ⊢
    rw [List.map_cons] at hr ⊢
    unfold Fl.runG at hr ⊢
    split at hr
    · rename_i hz
      rw [if_pos hz, List.map_append, checkGo_take hn p _ hx _ S _ q nd hS (h1 p (by simp)), hz]
      have hnl := (List.getElem?_eq_some_iff.1 (h1 p (by simp))).1
      refine checkGo_run hn hS P _ (nd.set p 0) (fun p' hp' => hP p' (by simp [hp'])) hnd.2 (fun p' hp' => ?_) (fun p' hp' n hn' => ?_) hr
      · rw [List.getElem?_set]
        have hne : p ≠ p' := fun e => hnd.1 (e ▸ hp')
        rw [if_neg hne]
        exact h1 p' (by simp [hp'])
      · rw [List.getElem?_set] at hn'
        split at hn'
        · rename_i e; subst e; simp at hn'; exact hn'.symm
        · rename_i e
          exact h0 p' (by simp [hp']; exact fun e' => e e'.symm) n hn'
    · cases hr
theorem run_check {l S : List Lt} {ws : List Wt} {P : List Nat} {U : List Us} (hb : mayB l ws = true) (hS : Stab l S) (hP : Days ws P) (hr : (serveRun S ws P (qtyOf l)).2.1 = true) (hU : (serveRun S ws P (qtyOf l)).1 = U.map useT) : checkB l ws U = true := by
  obtain ⟨_, _, hlr, hwr, hnd⟩ := mayB_true hb
  unfold checkB
  rw [hb, Bool.true_and]
  have := checkGo_run (l := l) (ws := ws) hnd (fun y hy => hS.perm.mem_iff.1 hy) P (qtyOf l) (ws.map Wt.qty) (fun p hp => by have := hP.perm.mem_iff.1 hp; simpa using this) (hP.perm.nodup_iff.2 List.nodup_range) (fun p hp => by
      have := hP.perm.mem_iff.1 hp
      have hlt : p < ws.length := by simpa using this
      simp [List.getD_eq_getElem?_getD, List.getElem?_eq_getElem hlt]) (fun p hp n hn => by
      exfalso
      have hlt := (List.getElem?_eq_some_iff.1 hn).1
      rw [List.length_map] at hlt
      exact hp (hP.perm.mem_iff.2 (by simpa using hlt))) hr
  rw [hU, ofT_useT] at this
  exact this

/-! ### sums -/
def sumT : List (Int × Int × Int) → Int
  | [] => 0
  | u :: r => u.2.2 + sumT r
theorem sumT_append : ∀ a b : List (Int × Int × Int), sumT (a ++ b) = sumT a + sumT b
  | [], b => by simp [sumT]
  | u :: a, b => by simp only [List.cons_append, sumT]; rw [sumT_append a b]; omega
theorem takeG_sum {l : List Lt} (hn : (l.map Lt.id).Nodup) (p : Int) (w : Wt) : ∀ (S : List Lt) (n : Int) (q : Int → Int), (∀ y ∈ S, y ∈ l) → Fl.tot Lt.id (Fl.takeG Lt.id servesB p w S n q).2.2 l + sumT (Fl.takeG Lt.id servesB p w S n q).1 = Fl.tot Lt.id q l
  | [], n, q, _ => by simp [Fl.takeG, sumT]
  | y :: S, n, q, hS => by
    unfold Fl.takeG
    split
    · have ih := takeG_sum hn p w S (n - min n (q y.id)) (Fl.bmp q y.id (-(min n (q y.id)))) (fun z hz => hS z (by simp [hz]))
      have hb := Fl.tot_bmp Lt.id (y := q) (-(min n (q y.id))) hn y (hS y (by simp))
      simp only [sumT]
      omega
    · exact takeG_sum hn p w S n q (fun z hz => hS z (by simp [hz]))
theorem takeG_all (p : Int) (w : Wt) : ∀ (S : List Lt) (n : Int) (q : Int → Int), ∀ t ∈ (Fl.takeG Lt.id servesB p w S n q).1, t.1 = p ∧ (∃ y ∈ S, t.2.1 = y.id) ∧ 1 ≤ t.2.2 ∧ t.2.2 ≤ n
  | [], n, q, t, h => by simp [Fl.takeG] at h
  | y :: S, n, q, t, h => by
    unfold Fl.takeG at h
    split at h
    · rename_i hc
      rcases List.mem_cons.1 h with rfl | h
      · refine ⟨rfl, ⟨y, by simp, rfl⟩, ?_, ?_⟩
        · simp only; omega
        · simp only; omega
      · obtain ⟨h1, ⟨z, hz, h2⟩, h3, h4⟩ := takeG_all p w S _ _ t h
        exact ⟨h1, ⟨z, by simp [hz], h2⟩, h3, by omega⟩
    · obtain ⟨h1, ⟨z, hz, h2⟩, h3, h4⟩ := takeG_all p w S _ _ t h
      exact ⟨h1, ⟨z, by simp [hz], h2⟩, h3, h4⟩
theorem takeG_len (p : Int) (w : Wt) : ∀ (S : List Lt) (n : Int) (q : Int → Int), (Fl.takeG Lt.id servesB p w S n q).1.length ≤ S.length
  | [], n, q => by simp [Fl.takeG]
  | y :: S, n, q => by
    unfold Fl.takeG
    split
    · simp only [List.length_cons]; exact Nat.succ_le_succ (takeG_len p w S _ _)
    · exact Nat.le_succ_of_le (takeG_len p w S _ _)
theorem run_sum {l S : List Lt} {ws : List Wt} (hn : (l.map Lt.id).Nodup) (hS : ∀ y ∈ S, y ∈ l) : ∀ (P : List Nat) (q : Int → Int), (serveRun S ws P q).2.1 = true → Fl.tot Lt.id (serveRun S ws P q).2.2 l + sumT (serveRun S ws P q).1 = Fl.tot Lt.id q l
  | [], q, _ => by simp [serveRun, atPlaces, Fl.runG, sumT]
  | p :: P, q, hr => by
    unfold serveRun atPlaces at hr ⊢
    rw [List.map_cons] at hr ⊢
    unfold Fl.runG at hr ⊢
    split at hr
    · rename_i hz
      rw [if_pos hz, sumT_append]
      have h1 := takeG_sum hn (p : Int) (ws.getD p default) S (ws.getD p default).qty q hS
      have h2 := run_sum (ws := ws) hn hS P _ hr
      unfold serveRun atPlaces at h2
      simp only at h2 ⊢
      omega
    · cases hr
theorem run_range {S : List Lt} {ws : List Wt} : ∀ (P : List Nat) (q : Int → Int), (∀ i, 0 ≤ q i) → ∀ i, 0 ≤ (serveRun S ws P q).2.2 i ∧ (serveRun S ws P q).2.2 i ≤ q i
  | [], q, h, i => ⟨h i, Int.le_refl _⟩
  | p :: P, q, h, i => by
    unfold serveRun atPlaces
    rw [List.map_cons]
    unfold Fl.runG
    split
    · have h1 := takeG_range (p : Int) (ws.getD p default) S (ws.getD p default).qty q h
      have h2 := run_range (S := S) (ws := ws) P _ (fun i => (h1 i).1) i
      unfold serveRun atPlaces at h2
      have := (h1 i).2
      exact ⟨h2.1, Int.le_trans h2.2 this⟩
    · exact ⟨h i, Int.le_refl _⟩
theorem run_all {S : List Lt} {ws : List Wt} : ∀ (P : List Nat) (q : Int → Int), ∀ t ∈ (serveRun S ws P q).1, (∃ p ∈ P, t.1 = (p : Int) ∧ t.2.2 ≤ (ws.getD p default).qty) ∧ (∃ y ∈ S, t.2.1 = y.id) ∧ 1 ≤ t.2.2
  | [], q, t, h => by simp [serveRun, atPlaces, Fl.runG] at h
  | p :: P, q, t, h => by
    unfold serveRun atPlaces at h
    rw [List.map_cons] at h
    unfold Fl.runG at h
    split at h
    · rcases List.mem_append.1 h with h | h
      · obtain ⟨h1, h2, h3, h4⟩ := takeG_all _ _ _ _ _ t h
        exact ⟨⟨p, by simp, h1, h4⟩, h2, h3⟩
      · obtain ⟨⟨p', hp', h1⟩, h2, h3⟩ := run_all (S := S) (ws := ws) P _ t h
        exact ⟨⟨p', by simp [hp'], h1⟩, h2, h3⟩
    · simp at h
theorem run_len {S : List Lt} {ws : List Wt} : ∀ (P : List Nat) (q : Int → Int), (serveRun S ws P q).1.length ≤ P.length * S.length
  | [], q => by simp [serveRun, atPlaces, Fl.runG]
  | p :: P, q => by
    unfold serveRun atPlaces
    rw [List.map_cons]
    unfold Fl.runG
    split
    · have h1 := takeG_len (p : Int) (ws.getD p default) S (ws.getD p default).qty q
      have h2 := run_len (S := S) (ws := ws) P (Fl.takeG Lt.id servesB (p : Int) (ws.getD p default) S (ws.getD p default).qty q).2.2
      unfold serveRun atPlaces at h2
      rw [List.length_append, List.length_cons, Nat.succ_mul]
      omega
    · simp
def sumQ (l : List Lt) : Int := (l.map Lt.qty).sum
def sumUs (l : List Us) : Int := (l.map Us.qty).sum
theorem sumT_us (U : List Us) : sumT (U.map useT) = sumUs U := by
  induction U with
  | nil => rfl
  | cons u r ih => simp only [List.map_cons, sumT, sumUs, List.sum_cons] at ih ⊢; rw [ih]; rfl
theorem sumQ_left {q : Int → Int} : ∀ {l : List Lt}, (∀ x ∈ l, 0 ≤ q x.id) → sumQ (leftL l q) = Fl.tot Lt.id q l
  | [], _ => rfl
  | x :: r, h => by
    have ih := sumQ_left (q := q) (l := r) (fun z hz => h z (by simp [hz]))
    have hx := h x (by simp)
    unfold sumQ leftL at ih ⊢
    rw [List.filter_cons]
    split
    · simp only [List.map_cons, List.sum_cons, Fl.tot]; rw [ih]; rfl
    · rename_i hc
      simp only [decide_eq_true_eq] at hc
      simp only [Fl.tot]
      rw [ih]; omega
theorem sumQ_tot {l : List Lt} (hn : (l.map Lt.id).Nodup) : sumQ l = Fl.tot Lt.id (qtyOf l) l := by
  have key : ∀ r : List Lt, (∀ x ∈ r, x ∈ l) → sumQ r = Fl.tot Lt.id (qtyOf l) r := by
    intro r
    induction r with
    | nil => intro _; rfl
    | cons x r ih =>
      intro h
      have := ih (fun z hz => h z (by simp [hz]))
      unfold sumQ at this ⊢
      simp only [List.map_cons, List.sum_cons, Fl.tot]
      rw [this, qtyOf_mem hn (h x (by simp))]
  exact key l (fun _ h => h)
/-- What is left and what is used is all that there was. -/
theorem run_total {l S : List Lt} {ws : List Wt} {P : List Nat} {U : List Us} (hb : mayB l ws = true) (hS : Stab l S) (hr : (serveRun S ws P (qtyOf l)).2.1 = true) (hU : (serveRun S ws P (qtyOf l)).1 = U.map useT) :
    sumQ (leftL l (serveRun S ws P (qtyOf l)).2.2) + sumUs U = sumQ l := by
  obtain ⟨_, _, hlr, hwr, hnd⟩ := mayB_true hb
  have h1 := run_sum (ws := ws) hnd (fun y hy => hS.perm.mem_iff.1 hy) P (qtyOf l) hr
  rw [hU, sumT_us] at h1
  rw [sumQ_tot hnd, ← h1, sumQ_left (fun x hx => (run_range (S := S) (ws := ws) P (qtyOf l) (fun i => (qtyOf_range hlr i).1) _).1)]
/-- Sums of some of them, from the first on. -/
theorem sum_take_bound : ∀ (l : List Int) (k : Nat), (∀ x ∈ l, 0 ≤ x) → 0 ≤ (l.take k).sum ∧ (l.take k).sum ≤ l.sum
  | [], k, _ => by simp
  | a :: l, 0, h => by
    have := sum_take_bound l 0 (fun x hx => h x (by simp [hx]))
    have := h a (by simp)
    simp at *
    omega
  | a :: l, k + 1, h => by
    have := sum_take_bound l k (fun x hx => h x (by simp [hx]))
    have := h a (by simp)
    simp only [List.take_succ_cons, List.sum_cons]
    omega
theorem sum_le_mul : ∀ (l : List Int) (m : Int), (∀ x ∈ l, x ≤ m) → l.sum ≤ l.length * m
  | [], m, _ => by simp
  | a :: l, m, h => by
    have := sum_le_mul l m (fun x hx => h x (by simp [hx]))
    have := h a (by simp)
    simp only [List.sum_cons, List.length_cons]
    have e : ((l.length + 1 : Nat) : Int) * m = l.length * m + m := by push_cast; rw [Int.add_mul, Int.one_mul]
    rw [e]; omega
theorem sum_succ {l : List Int} {k : Nat} {x : Int} (h : l[k]? = some x) : (l.take (k + 1)).sum = (l.take k).sum + x := by
  rw [List.take_add_one, h]; simp
end Go.Proofs.Ytddnfikjfmfhfaa
end
