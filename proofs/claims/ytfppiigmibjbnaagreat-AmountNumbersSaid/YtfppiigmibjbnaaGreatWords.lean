/- Words for memory: cells that lie somewhere and read as a list; parts as cells; the keys of a map of strings. No walk. -/
import Derived.Test.YtfppiigmibjbnaaGreatMath
import Derived.Below
import Derived.Laws.OwnMore
import Derived.Deep.Draws
import Derived.Sort.KeysCollected
namespace Go.Proofs.YtfppiigmibjbnaaGreat
open Go.RowKit Go.Maps

theorem addr_block (a : Addr) (n : Nat) : (a.add n).block = a.block := by unfold Addr.add; split <;> rfl
theorem addr_add (a : Addr) (i j : Nat) : (a.add i).add j = a.add (i + j) := by
  by_cases hi : i = 0
  · subst hi; simp [Addr.add]
  · by_cases hj : j = 0
    · subst hj; simp [Addr.add]
    · unfold Addr.add; simp [hi, hj, Nat.add_assoc]

/-- From A on lie the cells xs, below block B. (Of no cells nothing is asked.) -/
def Lies (w : World) (B : Nat) (A : Option Addr) (xs : List Value) : Prop :=
  xs ≠ [] → ∃ ad, A = some ad ∧ ad.block < B ∧ ∀ j u, xs[j]? = some u → w.cell? (ad.add j) = some u

section
variable {w w' : World} {B B' : Nat} {A : Option Addr} {xs : List Value}
theorem Lies.none : Lies w B A [] := fun h => absurd rfl h
theorem Lies.keep (h : Lies w B A xs) (hk : ∀ p : Addr, p.block < B → w'.cell? p = w.cell? p) : Lies w' B A xs := fun hne => by
  obtain ⟨ad, hA, hb, hc⟩ := h hne
  exact ⟨ad, hA, hb, fun j u hu => (hk _ (by rw [addr_block]; exact hb)).trans (hc j u hu)⟩
theorem Lies.mono (h : Lies w B A xs) (hB : B ≤ B') : Lies w B' A xs := fun hne => by
  obtain ⟨ad, hA, hb, hc⟩ := h hne
  exact ⟨ad, hA, Nat.lt_of_lt_of_le hb hB, hc⟩
theorem Lies.below (h : Lies w B A xs) (hb : Below B w w') : Lies w' B A xs := h.keep fun _ hp => hb.cell hp
theorem Lies.get (h : Lies w B A xs) {j : Nat} {u : Value} (hj : xs[j]? = some u) : ∃ ad, A = some ad ∧ ad.block < B ∧ w.cell? (ad.add j) = some u := by
  obtain ⟨ad, hA, hb, hc⟩ := h (by rintro rfl; simp at hj)
  exact ⟨ad, hA, hb, hc j u hj⟩
theorem Lies.drop_ (h : Lies w B A xs) (k : Nat) : Lies w B (A.map (·.add k)) (xs.drop k) := fun hne => by
  obtain ⟨ad, rfl, hb, hc⟩ := h (by rintro rfl; simp at hne)
  refine ⟨ad.add k, rfl, by rw [addr_block]; exact hb, fun j u hu => ?_⟩
  rw [addr_add]
  exact hc _ u (by rw [← hu, List.getElem?_drop])
theorem Lies.take_ (h : Lies w B A xs) (k : Nat) : Lies w B A (xs.take k) := fun hne => by
  obtain ⟨ad, rfl, hb, hc⟩ := h (by rintro rfl; simp at hne)
  exact ⟨ad, rfl, hb, fun j u hu => hc j u (by
    rw [List.getElem?_take] at hu
    split at hu
    · exact hu
    · cases hu)⟩
/-- What the call owns lies. -/
theorem Lies.own {base e size n c : Nat} (h : w.ownsRow base e size (.slice A n c) n xs) : Lies w w.heap.size A xs := fun hne => by
  have hlt := h.lt
  have hcells := h.cells (g := (Value.slice A n c).ownBlock.getD 0)
  rcases h.2 with ⟨hv, rfl⟩ | ⟨g, cap, cur, hv, _, hh, _⟩
  · exact absurd (List.eq_nil_of_length_eq_zero (by simpa using h.1)) hne
  · injection hv with hA
    subst hA
    exact ⟨_, rfl, (hlt g rfl).2, h.cells (g := g) rfl⟩
end

theorem own_form {w : World} {base e size n : Nat} {v : Value} {xs : List Value} (h : w.ownsRow base e size v n xs) : ∃ A c, v = .slice A n c ∧ n ≤ c ∧ c ≤ maxLen ∧ (A = none → c = 0) := by
  rcases h.2 with ⟨hv, rfl⟩ | ⟨g, cap, cur, hv, _, _, h1, h2, _⟩
  · exact ⟨none, 0, hv, Nat.le_refl _, by simp [maxLen], fun _ => rfl⟩
  · exact ⟨_, _, hv, h1, h2, fun h => by cases h⟩

/-! ### parts as cells -/
def pcells : List Pt → List Value
  | [] => []
  | p :: l => encStr p.1 :: .int .i64 p.2 :: pcells l
theorem pcells_length : ∀ l : List Pt, (pcells l).length = l.length * 2
  | [] => rfl
  | p :: l => by simp [pcells, pcells_length l]; omega
theorem pcells_append : ∀ l m : List Pt, pcells (l ++ m) = pcells l ++ pcells m
  | [], m => rfl
  | p :: l, m => by simp [pcells, pcells_append l m]
theorem pcells_item : ∀ (l : List Pt) (k : Nat) (p : Pt), l[k]? = some p → (pcells l)[k * 2]? = some (encStr p.1)
  | [], k, p, h => by simp at h
  | q :: l, 0, p, h => by simp at h; subst h; simp [pcells]
  | q :: l, k + 1, p, h => by
    have := pcells_item l k p (by simpa using h)
    rw [show (k + 1) * 2 = k * 2 + 1 + 1 by omega]
    simpa [pcells] using this
theorem pcells_qty : ∀ (l : List Pt) (k : Nat) (p : Pt), l[k]? = some p → (pcells l)[k * 2 + 1]? = some (.int .i64 p.2)
  | [], k, p, h => by simp at h
  | q :: l, 0, p, h => by simp at h; subst h; simp [pcells]
  | q :: l, k + 1, p, h => by
    have := pcells_qty l k p (by simpa using h)
    rw [show (k + 1) * 2 + 1 = k * 2 + 1 + 1 + 1 by omega]
    simpa [pcells] using this
theorem pcells_drop (l : List Pt) (k : Nat) (hk : k ≤ l.length) : (pcells l).drop (k * 2) = pcells (l.drop k) := by
  have h := pcells_append (l.take k) (l.drop k)
  rw [List.take_append_drop] at h
  rw [h, List.drop_append_of_le_length (by rw [pcells_length, List.length_take]; omega), List.drop_eq_nil_of_le (by rw [pcells_length, List.length_take]; omega), List.nil_append]
theorem pcells_take (l : List Pt) (k : Nat) (hk : k ≤ l.length) : (pcells l).take (k * 2) = pcells (l.take k) := by
  have h := pcells_append (l.take k) (l.drop k)
  rw [List.take_append_drop] at h
  rw [h, List.take_append_of_le_length (by rw [pcells_length, List.length_take]; omega), List.take_of_length_le (by rw [pcells_length, List.length_take]; omega)]
theorem pcells_one : ∀ (l : List Pt), ∀ u ∈ pcells l, u.oneCell' = true
  | [], u, h => by simp [pcells] at h
  | p :: l, u, h => by
    simp only [pcells, List.mem_cons] at h
    rcases h with rfl | rfl | h
    · rfl
    · rfl
    · exact pcells_one l u h

/-- A slice value that reads as parts: each item short enough, each number one of 64 bits. -/
def Sized (l : List Pt) : Prop := ∀ p ∈ l, p.1.length ≤ maxLen ∧ -9223372036854775808 ≤ p.2 ∧ p.2 ≤ 9223372036854775807
theorem Sized.nil : Sized [] := fun p h => by simp at h
theorem Sized.app {l m : List Pt} (h : Sized l) (k : Sized m) : Sized (l ++ m) := fun p hp => by
  rcases List.mem_append.1 hp with e | e
  · exact h p e
  · exact k p e
theorem Sized.sub {l m : List Pt} (h : Sized l) (hs : ∀ p ∈ m, p ∈ l) : Sized m := fun p hp => h p (hs p hp)

/-! ### the keys of a map of strings -/
section
variable {H : Type} {P : Program} {k : TypeId} {R : Value → Option (DataW H × List MemPlace)} {w : World} {b n : Nat} {D : DataW H}
theorem keys_of (hown : w.ownsMap P k R b n D) (K : Keyed P k) (hk : P.underlying k = some .string) : (strKeys D).Nodup ∧ ∀ x, x ∈ strKeys D ↔ Maps.has D (.string x) = true := by
  obtain ⟨es, hD, hpw, _⟩ := hown.entries K
  obtain ⟨es', hD', hko⟩ := hown.keysOf
  obtain rfl : es = es' := by rw [hD] at hD'; simpa using hD'
  subst hD
  have hks : ∀ p ∈ es, ∃ x, p.1 = Lit.string x := fun p hp => by
    obtain ⟨v, hv⟩ := hko p hp
    obtain ⟨x, _, hx, _⟩ := Maps.keyOf_str hk hv
    exact ⟨x, hx⟩
  refine ⟨?_, fun x => ?_⟩
  · refine List.pairwise_map.2 (hpw.imp_of_mem fun {p q} hp' hq' hne e => hne ?_)
    obtain ⟨a, ha⟩ := hks p hp'
    obtain ⟨b, hb⟩ := hks q hq'
    rw [ha, hb] at e ⊢
    exact congrArg _ e
  · rw [has_eq, List.any_eq_true]
    constructor
    · intro hx
      obtain ⟨p, hp, rfl⟩ := List.mem_map.1 hx
      obtain ⟨a, ha⟩ := hks p hp
      exact ⟨p, hp, by rw [ha]; simp [strOf, Lit.sameKey]⟩
    · rintro ⟨p, hp, he⟩
      obtain ⟨a, ha⟩ := hks p hp
      rw [ha] at he
      exact List.mem_map.2 ⟨p, hp, by rw [ha]; simpa [strOf, Lit.sameKey] using he⟩
theorem size_strKeys (hown : w.ownsMap P k R b n D) : (strKeys D).length = Maps.size D ∧ Maps.size D ≤ n := by
  obtain ⟨es, clock, _, F, hs, rfl⟩ := hown
  refine ⟨by simp [strKeys, Maps.size], ?_⟩
  show ((es.toList.map _).foldr DataW.insert []).length ≤ n
  rw [length_sorted]
  simpa using hs
end
end Go.Proofs.YtfppiigmibjbnaaGreat
