/- Texts of this proof, one behind the other. -/
import Derived.Below
import Derived.Laws.OwnMore
import Derived.Deep.Draws
import Derived.Sort.KeysCollected
import Derived.Shelf.SlIter.Nil
import Derived.Shelf.SortM.Plain
import Derived.Shelf.SortM.SortNone
import Derived.Test.YtkdcpnbfeagggaaProg
import Derived.WalkKit
import Derived.ProofKit
import Derived.Lib.Hide
import Derived.Maps.OwnOps
import Derived.Maps.AppendAt
import Derived.OwnWalk
import Derived.StringKeys
import Derived.Laws.Rows
section
/- Plain mathematics of amounts that are joined: totals per item, strictly rising lists, what is joined is one. No Go in sight. -/
namespace Go.Proofs.Ytkdcpnbfeagggaa

abbrev Pt := List UInt8 × Int

def rightB (n : Int) : Bool := decide (0 ≤ n ∧ n ≤ 1125899906842624)
theorem rightB_true {n : Int} (h0 : 0 ≤ n) (h1 : n ≤ 1125899906842624) : rightB n = true := by simp [rightB, h0, h1]
theorem rightB_false {n : Int} (h : n < 0 ∨ 1125899906842624 < n) : rightB n = false := by simp [rightB]; omega
theorem of_rightB {n : Int} (h : rightB n = true) : 0 ≤ n ∧ n ≤ 1125899906842624 := by simpa [rightB] using h
theorem of_not_rightB {n : Int} (h : rightB n = false) : n < 0 ∨ 1125899906842624 < n := by
  simp [rightB] at h; omega

/-! ### two numbers -/
def addB (a b : Int) : Bool := rightB a && (rightB b && rightB (a + b))
def addV (a b : Int) : Int := if addB a b = true then a + b else 0
def timesB (a b : Int) : Bool := rightB a && (rightB b && rightB (a * b))
def timesV (a b : Int) : Int := if timesB a b = true then a * b else 0

/-! ### totals -/
def tot (it : List UInt8) : List Pt → Int
  | [] => 0
  | p :: l => (if p.1 = it then p.2 else 0) + tot it l

theorem tot_append (it : List UInt8) : ∀ l m : List Pt, tot it (l ++ m) = tot it l + tot it m
  | [], m => by simp [tot]
  | p :: l, m => by simp [tot, tot_append it l m]; omega

theorem tot_nonneg (it : List UInt8) : ∀ l : List Pt, (∀ p ∈ l, 0 ≤ p.2) → 0 ≤ tot it l
  | [], _ => by simp [tot]
  | p :: l, h => by
    have h1 := h p (by simp)
    have h2 := tot_nonneg it l (fun q hq => h q (by simp [hq]))
    simp only [tot]
    split <;> omega

theorem tot_of_not_mem (it : List UInt8) : ∀ l : List Pt, it ∉ l.map (·.1) → tot it l = 0
  | [], _ => rfl
  | p :: l, h => by
    simp only [List.map_cons, List.mem_cons, not_or] at h
    simp only [tot]
    rw [if_neg (fun e => h.1 e.symm), tot_of_not_mem it l h.2]
    rfl

theorem tot_perm (it : List UInt8) {l m : List Pt} (h : l.Perm m) : tot it l = tot it m := by
  induction h with
  | nil => rfl
  | cons x _ ih => simp [tot, ih]
  | swap x y l => simp [tot]; omega
  | trans _ _ i1 i2 => exact i1.trans i2

theorem tot_mem_le (it : List UInt8) {q : Int} : ∀ l : List Pt, (∀ p ∈ l, 0 ≤ p.2) → (it, q) ∈ l → q ≤ tot it l
  | [], _, h => by simp at h
  | p :: l, h0, h => by
    have h1 := h0 p (by simp)
    have h2 := tot_nonneg it l (fun q hq => h0 q (by simp [hq]))
    rcases List.mem_cons.1 h with e | e
    · subst e
      simp only [tot, if_true]
      omega
    · have := tot_mem_le it l (fun q hq => h0 q (by simp [hq])) e
      simp only [tot]
      split <;> omega

def JoinOk (l : List Pt) : Prop := (∀ p ∈ l, 0 ≤ p.2 ∧ p.2 ≤ 1125899906842624) ∧ ∀ it, tot it l ≤ 1125899906842624

theorem joinOk_nil : JoinOk [] := ⟨by simp, by simp [tot]⟩

theorem JoinOk.left {l m : List Pt} (h : JoinOk (l ++ m)) : JoinOk l :=
  ⟨fun p hp => h.1 p (by simp [hp]), fun it => by
    have := h.2 it
    rw [tot_append] at this
    have := tot_nonneg it m (fun p hp => (h.1 p (by simp [hp])).1)
    omega⟩

theorem JoinOk.perm {l m : List Pt} (h : JoinOk l) (hp : l.Perm m) : JoinOk m :=
  ⟨fun p hm => h.1 p (hp.mem_iff.2 hm), fun it => by rw [← tot_perm it hp]; exact h.2 it⟩

theorem joinOk_snoc {l : List Pt} {p : Pt} (h : JoinOk l) (h1 : 0 ≤ p.2) (h2 : p.2 ≤ 1125899906842624) (h3 : tot p.1 l + p.2 ≤ 1125899906842624) : JoinOk (l ++ [p]) := by
  refine ⟨fun q hq => ?_, fun it => ?_⟩
  · rcases List.mem_append.1 hq with e | e
    · exact h.1 q e
    · simp at e; subst e; exact ⟨h1, h2⟩
  · rw [tot_append]
    simp only [tot]
    by_cases e : p.1 = it
    · subst e; rw [if_pos rfl]; omega
    · rw [if_neg e]; have := h.2 it; omega

theorem not_joinOk_snoc {l m : List Pt} {p : Pt} (h : addB (tot p.1 l) p.2 = false) : ¬ JoinOk (l ++ p :: m) := by
  intro hj
  have hl : JoinOk (l ++ [p]) := JoinOk.left (m := m) (by simpa using hj)
  have h0 := tot_nonneg p.1 l (fun q hq => (hj.1 q (by simp [hq])).1)
  have h1 := hj.1 p (by simp)
  have h2 := hl.2 p.1
  rw [tot_append] at h2
  simp only [tot, if_true] at h2
  have h3 := hl.left.2 p.1
  simp [addB, rightB_true h0 h3, rightB_true h1.1 h1.2, rightB_true (n := tot p.1 l + p.2) (by omega) (by omega)] at h

theorem joinOk_of_add {l : List Pt} {p : Pt} (h : JoinOk l) (ha : addB (tot p.1 l) p.2 = true) : JoinOk (l ++ [p]) := by
  simp only [addB, Bool.and_eq_true] at ha
  have h1 := of_rightB ha.2.1
  have h2 := of_rightB ha.2.2
  exact joinOk_snoc h h1.1 h1.2 h2.2

/-! ### strictly rising lists -/
theorem lt_irrefl_ (x : List UInt8) : ¬ x < x := List.lt_irrefl x
theorem lt_trans_ {x y z : List UInt8} (h : x < y) (k : y < z) : x < z := List.lt_trans h k

def Rising (l : List Pt) : Prop := l.Pairwise (fun a b => a.1 < b.1)

theorem rising_ext : ∀ {l m : List Pt}, Rising l → Rising m → (∀ p, p ∈ l ↔ p ∈ m) → l = m
  | [], [], _, _, _ => rfl
  | [], q :: m, _, _, h => by have := (h q).2 (by simp); simp at this
  | p :: l, [], _, _, h => by have := (h p).1 (by simp); simp at this
  | p :: l, q :: m, hl, hm, h => by
    have hl' := List.pairwise_cons.1 hl
    have hm' := List.pairwise_cons.1 hm
    have e : p = q := by
      rcases List.mem_cons.1 ((h p).1 (by simp)) with e | e
      · exact e
      · rcases List.mem_cons.1 ((h q).2 (by simp)) with e' | e'
        · exact e'.symm
        · exact absurd (lt_trans_ (hm'.1 p e) (hl'.1 q e')) (lt_irrefl_ _)
    subst e
    rw [rising_ext (l := l) (m := m) hl'.2 hm'.2 (fun r => ?_)]
    have hr := h r
    constructor
    · intro hrl
      rcases List.mem_cons.1 (hr.1 (by simp [hrl])) with e | e
      · subst e; exact absurd (hl'.1 r hrl) (lt_irrefl_ _)
      · exact e
    · intro hrm
      rcases List.mem_cons.1 (hr.2 (by simp [hrm])) with e | e
      · subst e; exact absurd (hm'.1 r hrm) (lt_irrefl_ _)
      · exact e

/-- What is joined of l. -/
def IsJoin (l out : List Pt) : Prop := Rising out ∧ ∀ it q, (it, q) ∈ out ↔ (it ∈ l.map (·.1) ∧ q = tot it l)

theorem IsJoin.unique {l o1 o2 : List Pt} (h1 : IsJoin l o1) (h2 : IsJoin l o2) : o1 = o2 :=
  rising_ext h1.1 h2.1 (fun p => by obtain ⟨it, q⟩ := p; rw [h1.2, h2.2])

theorem IsJoin.perm {l m out : List Pt} (h : IsJoin l out) (hp : l.Perm m) : IsJoin m out :=
  ⟨h.1, fun it q => by rw [h.2, tot_perm it hp, (hp.map (·.1)).mem_iff]⟩

theorem isJoin_nil : IsJoin [] [] := ⟨List.Pairwise.nil, by simp⟩

theorem tot_rising (it : List UInt8) : ∀ {out : List Pt}, Rising out → ∀ {q : Int}, (it, q) ∈ out → tot it out = q
  | [], _, q, h => by simp at h
  | p :: l, hr, q, h => by
    have hr' := List.pairwise_cons.1 hr
    rcases List.mem_cons.1 h with e | e
    · subst e
      have : it ∉ l.map (·.1) := by
        intro hm
        obtain ⟨r, hrl, hre⟩ := List.mem_map.1 hm
        have := hr'.1 r hrl
        rw [hre] at this
        exact lt_irrefl_ _ this
      simp only [tot, if_true, tot_of_not_mem it l this]
      omega
    · have hne : p.1 ≠ it := by
        intro e'
        have := hr'.1 _ e
        rw [e'] at this
        exact lt_irrefl_ _ this
      simp only [tot, if_neg hne, tot_rising it hr'.2 e]
      omega

theorem IsJoin.self {l out : List Pt} (h : IsJoin l out) : IsJoin out out :=
  ⟨h.1, fun it q => by
    constructor
    · intro hm
      exact ⟨List.mem_map.2 ⟨_, hm, rfl⟩, (tot_rising it h.1 hm).symm⟩
    · rintro ⟨hm, rfl⟩
      obtain ⟨⟨it', q'⟩, hr, rfl⟩ := List.mem_map.1 hm
      rw [tot_rising it' h.1 hr]
      exact hr⟩

theorem IsJoin.ok {l out : List Pt} (h : IsJoin l out) (hl : JoinOk l) : JoinOk out := by
  refine ⟨fun p hp => ?_, fun it => ?_⟩
  · obtain ⟨it, q⟩ := p
    obtain ⟨_, rfl⟩ := (h.2 it q).1 hp
    exact ⟨tot_nonneg it l (fun p hp => (hl.1 p hp).1), hl.2 it⟩
  · by_cases hm : it ∈ out.map (·.1)
    · obtain ⟨⟨it', q'⟩, hr, rfl⟩ := List.mem_map.1 hm
      rw [tot_rising it' h.1 hr, ((h.2 it' q').1 hr).2]
      exact hl.2 it'
    · rw [tot_of_not_mem it out hm]
      omega

end Go.Proofs.Ytkdcpnbfeagggaa
end
section
/- Words for memory: cells that lie somewhere and read as a list; parts as cells; the keys of a map of strings. No walk. -/
namespace Go.Proofs.Ytkdcpnbfeagggaa
open Go.RowKit Go.Maps

theorem addr_block (a : Addr) (n : Nat) : (a.add n).block = a.block := by unfold Addr.add; split <;> rfl
theorem addr_add (a : Addr) (i j : Nat) : (a.add i).add j = a.add (i + j) := by
  by_cases hi : i = 0
  · subst hi; simp [Addr.add]
  · by_cases hj : j = 0
    · subst hj; simp [Addr.add]
    · unfold Addr.add; simp [hi, hj, Nat.add_assoc]

/-- From A on lie the cells xs, below block B. (Of no cells nothing is asked.) -/
def Lies (w : World) (B : Nat) (A : Option Addr) (xs : List Value) : Prop :=
  xs ≠ [] → ∃ ad, A = some ad ∧ ad.block < B ∧ ∀ j u, xs[j]? = some u → w.cell? (ad.add j) = some u

section
variable {w w' : World} {B B' : Nat} {A : Option Addr} {xs : List Value}
theorem Lies.none : Lies w B A [] := fun h => absurd rfl h
theorem Lies.keep (h : Lies w B A xs) (hk : ∀ p : Addr, p.block < B → w'.cell? p = w.cell? p) : Lies w' B A xs := fun hne => by
  obtain ⟨ad, hA, hb, hc⟩ := h hne
  exact ⟨ad, hA, hb, fun j u hu => (hk _ (by rw [addr_block]; exact hb)).trans (hc j u hu)⟩
theorem Lies.mono (h : Lies w B A xs) (hB : B ≤ B') : Lies w B' A xs := fun hne => by
  obtain ⟨ad, hA, hb, hc⟩ := h hne
  exact ⟨ad, hA, Nat.lt_of_lt_of_le hb hB, hc⟩
theorem Lies.below (h : Lies w B A xs) (hb : Below B w w') : Lies w' B A xs := h.keep fun _ hp => hb.cell hp
theorem Lies.get (h : Lies w B A xs) {j : Nat} {u : Value} (hj : xs[j]? = some u) : ∃ ad, A = some ad ∧ ad.block < B ∧ w.cell? (ad.add j) = some u := by
  obtain ⟨ad, hA, hb, hc⟩ := h (by rintro rfl; simp at hj)
  exact ⟨ad, hA, hb, hc j u hj⟩
theorem Lies.drop_ (h : Lies w B A xs) (k : Nat) : Lies w B (A.map (·.add k)) (xs.drop k) := fun hne => by
  obtain ⟨ad, rfl, hb, hc⟩ := h (by rintro rfl; simp at hne)
  refine ⟨ad.add k, rfl, by rw [addr_block]; exact hb, fun j u hu => ?_⟩
  rw [addr_add]
  exact hc _ u (by rw [← hu, List.getElem?_drop])
theorem Lies.take_ (h : Lies w B A xs) (k : Nat) : Lies w B A (xs.take k) := fun hne => by
  obtain ⟨ad, rfl, hb, hc⟩ := h (by rintro rfl; simp at hne)
  exact ⟨ad, rfl, hb, fun j u hu => hc j u (by
    rw [List.getElem?_take] at hu
    split at hu
    · exact hu
    · cases hu)⟩
/-- What the call owns lies. -/
theorem Lies.own {base e size n c : Nat} (h : w.ownsRow base e size (.slice A n c) n xs) : Lies w w.heap.size A xs := fun hne => by
  have hlt := h.lt
  have hcells := h.cells (g := (Value.slice A n c).ownBlock.getD 0)
  rcases h.2 with ⟨hv, rfl⟩ | ⟨g, cap, cur, hv, _, hh, _⟩
  · exact absurd (List.eq_nil_of_length_eq_zero (by simpa using h.1)) hne
  · injection hv with hA
    subst hA
    exact ⟨_, rfl, (hlt g rfl).2, h.cells (g := g) rfl⟩
end

theorem own_form {w : World} {base e size n : Nat} {v : Value} {xs : List Value} (h : w.ownsRow base e size v n xs) : ∃ A c, v = .slice A n c ∧ n ≤ c ∧ c ≤ maxLen ∧ (A = none → c = 0) := by
  rcases h.2 with ⟨hv, rfl⟩ | ⟨g, cap, cur, hv, _, _, h1, h2, _⟩
  · exact ⟨none, 0, hv, Nat.le_refl _, by simp [maxLen], fun _ => rfl⟩
  · exact ⟨_, _, hv, h1, h2, fun h => by cases h⟩

/-! ### parts as cells -/
def pcells : List Pt → List Value
  | [] => []
  | p :: l => encStr p.1 :: .int .i64 p.2 :: pcells l
theorem pcells_length : ∀ l : List Pt, (pcells l).length = l.length * 2
  | [] => rfl
  | p :: l => by simp [pcells, pcells_length l]; omega
theorem pcells_append : ∀ l m : List Pt, pcells (l ++ m) = pcells l ++ pcells m
  | [], m => rfl
  | p :: l, m => by simp [pcells, pcells_append l m]
theorem pcells_item : ∀ (l : List Pt) (k : Nat) (p : Pt), l[k]? = some p → (pcells l)[k * 2]? = some (encStr p.1)
  | [], k, p, h => by simp at h
  | q :: l, 0, p, h => by simp at h; subst h; simp [pcells]
  | q :: l, k + 1, p, h => by
    have := pcells_item l k p (by simpa using h)
    rw [show (k + 1) * 2 = k * 2 + 1 + 1 by omega]
    simpa [pcells] using this
theorem pcells_qty : ∀ (l : List Pt) (k : Nat) (p : Pt), l[k]? = some p → (pcells l)[k * 2 + 1]? = some (.int .i64 p.2)
  | [], k, p, h => by simp at h
  | q :: l, 0, p, h => by simp at h; subst h; simp [pcells]
  | q :: l, k + 1, p, h => by
    have := pcells_qty l k p (by simpa using h)
    rw [show (k + 1) * 2 + 1 = k * 2 + 1 + 1 + 1 by omega]
    simpa [pcells] using this
theorem pcells_drop (l : List Pt) (k : Nat) (hk : k ≤ l.length) : (pcells l).drop (k * 2) = pcells (l.drop k) := by
  have h := pcells_append (l.take k) (l.drop k)
  rw [List.take_append_drop] at h
  rw [h, List.drop_append_of_le_length (by rw [pcells_length, List.length_take]; omega), List.drop_eq_nil_of_le (by rw [pcells_length, List.length_take]; omega), List.nil_append]
theorem pcells_take (l : List Pt) (k : Nat) (hk : k ≤ l.length) : (pcells l).take (k * 2) = pcells (l.take k) := by
  have h := pcells_append (l.take k) (l.drop k)
  rw [List.take_append_drop] at h
  rw [h, List.take_append_of_le_length (by rw [pcells_length, List.length_take]; omega), List.take_of_length_le (by rw [pcells_length, List.length_take]; omega)]
theorem pcells_one : ∀ (l : List Pt), ∀ u ∈ pcells l, u.oneCell' = true
  | [], u, h => by simp [pcells] at h
  | p :: l, u, h => by
    simp only [pcells, List.mem_cons] at h
    rcases h with rfl | rfl | h
    · rfl
    · rfl
    · exact pcells_one l u h

/-- A slice value that reads as parts: each item short enough, each number one of 64 bits. -/
def Sized (l : List Pt) : Prop := ∀ p ∈ l, p.1.length ≤ maxLen ∧ -9223372036854775808 ≤ p.2 ∧ p.2 ≤ 9223372036854775807
theorem Sized.nil : Sized [] := fun p h => by simp at h
theorem Sized.app {l m : List Pt} (h : Sized l) (k : Sized m) : Sized (l ++ m) := fun p hp => by
  rcases List.mem_append.1 hp with e | e
  · exact h p e
  · exact k p e
theorem Sized.sub {l m : List Pt} (h : Sized l) (hs : ∀ p ∈ m, p ∈ l) : Sized m := fun p hp => h p (hs p hp)

/-! ### the keys of a map of strings -/
section
variable {H : Type} {P : Program} {k : TypeId} {R : Value → Option (DataW H × List MemPlace)} {w : World} {b n : Nat} {D : DataW H}
theorem keys_of (hown : w.ownsMap P k R b n D) (K : Keyed P k) (hk : P.underlying k = some .string) : (strKeys D).Nodup ∧ ∀ x, x ∈ strKeys D ↔ Maps.has D (.string x) = true := by
  obtain ⟨es, hD, hpw, _⟩ := hown.entries K
  obtain ⟨es', hD', hko⟩ := hown.keysOf
  obtain rfl : es = es' := by rw [hD] at hD'; simpa using hD'
  subst hD
  have hks : ∀ p ∈ es, ∃ x, p.1 = Lit.string x := fun p hp => by
    obtain ⟨v, hv⟩ := hko p hp
    obtain ⟨x, _, hx, _⟩ := Maps.keyOf_str hk hv
    exact ⟨x, hx⟩
  refine ⟨?_, fun x => ?_⟩
  · refine List.pairwise_map.2 (hpw.imp_of_mem fun {p q} hp' hq' hne e => hne ?_)
    obtain ⟨a, ha⟩ := hks p hp'
    obtain ⟨b, hb⟩ := hks q hq'
    rw [ha, hb] at e ⊢
    exact congrArg _ e
  · rw [has_eq, List.any_eq_true]
    constructor
    · intro hx
      obtain ⟨p, hp, rfl⟩ := List.mem_map.1 hx
      obtain ⟨a, ha⟩ := hks p hp
      exact ⟨p, hp, by rw [ha]; simp [strOf, Lit.sameKey]⟩
    · rintro ⟨p, hp, he⟩
      obtain ⟨a, ha⟩ := hks p hp
      rw [ha] at he
      exact List.mem_map.2 ⟨p, hp, by rw [ha]; simpa [strOf, Lit.sameKey] using he⟩
theorem size_strKeys (hown : w.ownsMap P k R b n D) : (strKeys D).length = Maps.size D ∧ Maps.size D ≤ n := by
  obtain ⟨es, clock, _, F, hs, rfl⟩ := hown
  refine ⟨by simp [strKeys, Maps.size], ?_⟩
  show ((es.toList.map _).foldr DataW.insert []).length ≤ n
  rw [length_sorted]
  simpa using hs
end
end Go.Proofs.Ytkdcpnbfeagggaa
end
section
/-
  DERIVED: THE SHELF's CONTRACTS AT THIS DUMP, IN PLAIN WORDS (tools/lay-plain.mjs out of 'YtkdcpnbfeagggaaLays.lean', which tools/lay-shelf.mjs wrote): THE SAME DECLARATIONS UNDER THE SAME NAMES: 'import', 'namespace', 'open', 'def', 'theorem' AND NOTHING ELSE: no command of the shelf's: FOR A HAND-IN. Each laying: the table of numbers ('.._ren') and one theorem, a field a fact of the dump's own or the kernel's comparison; each contract: ONE APPLICATION.
-/
namespace Go.Proofs
open Go.Shelf
def Try.keys_ren : Go.Shelf.Ren := ⟨fun | 7 => 74 | 10 => 83 | n => n, fun | 23 => 55 | 26 => 9 | 3 => 2 | 28 => 105 | 0 => 0 | 27 => 104 | 33 => 47 | 4 => 4 | n => n, fun | n => n⟩
theorem Try.keys : Go.Proofs.SlLaysZ.n7 Try.prog Try.keys_ren := {
  mixed := by kernel_rfl
  f7 := ⟨Try.f74.name, by decide, Try.func74.trans (congrArg some (by kernel_rfl))⟩
  f10 := ⟨Try.f83.name, by decide, Try.func83.trans (congrArg some (by kernel_rfl))⟩
  t0 := Try.underlying0
  a0 := Try.isAgg0
  z0 := Try.sizeOf0
  v0 := Try.zeroValue0
  t4 := Try.underlying4
  a4 := Try.isAgg4
  z4 := Try.sizeOf4
  v4 := Try.zeroValue4
  t23 := Try.underlying55
  a23 := Try.isAgg55
  z23 := Try.sizeOf55
  v23 := Try.zeroValue55
  t26 := Try.underlying9
  a26 := Try.isAgg9
  z26 := Try.sizeOf9
  v26 := Try.zeroValue9
  t27 := Try.underlying104
  a27 := Try.isAgg104
  z27 := Try.sizeOf104
  v27 := Try.zeroValue104
  t28 := Try.underlying105
  a28 := Try.isAgg105
  z28 := Try.sizeOf105
  v28 := Try.zeroValue105
  t33 := Try.underlying47
  a33 := Try.isAgg47
  z33 := Try.sizeOf47
  v33 := Try.zeroValue47 }
def Try.sorted_ren : Go.Shelf.Ren := ⟨fun | 6 => 73 | 8 => 82 | 9 => 31 | 11 => 85 | 13 => 48 | 12 => 47 | 23 => 66 | 24 => 67 | 14 => 57 | 15 => 58 | 16 => 59 | 17 => 60 | 18 => 61 | 19 => 62 | 20 => 63 | 21 => 64 | 22 => 65 | 25 => 75 | 26 => 76 | 27 => 77 | 28 => 78 | 29 => 79 | 30 => 80 | 31 => 84 | n => n, fun | 26 => 9 | 28 => 105 | 24 => 30 | 0 => 0 | 3 => 3 | 37 => 78 | 48 => 95 | 50 => 97 | 4 => 4 | 40 => 87 | 39 => 86 | 45 => 92 | 5 => 5 | 9 => 9 | 51 => 107 | 55 => 111 | 57 => 114 | 58 => 115 | 33 => 47 | n => n, fun | n => n⟩
theorem Try.sorted : Go.Proofs.SlLaysZ.n6 Try.prog Try.sorted_ren := {
  mixed := by kernel_rfl
  f6 := ⟨Try.f73.name, by decide, Try.func73.trans (congrArg some (by kernel_rfl))⟩
  f8 := ⟨Try.f82.name, by decide, Try.func82.trans (congrArg some (by kernel_rfl))⟩
  f11 := ⟨Try.f85.name, by decide, Try.func85.trans (congrArg some (by kernel_rfl))⟩
  t0 := Try.underlying0
  a0 := Try.isAgg0
  z0 := Try.sizeOf0
  v0 := Try.zeroValue0
  t24 := Try.underlying30
  a24 := Try.isAgg30
  z24 := Try.sizeOf30
  v24 := Try.zeroValue30
  t26 := Try.underlying9
  a26 := Try.isAgg9
  z26 := Try.sizeOf9
  v26 := Try.zeroValue9
  t28 := Try.underlying105
  a28 := Try.isAgg105
  z28 := Try.sizeOf105
  v28 := Try.zeroValue105
  i26 := by kernel_rfl }
def Try.sort_ren : Go.Shelf.Ren := ⟨fun | 6 => 31 | 8 => 48 | 9 => 47 | 19 => 66 | 20 => 67 | 21 => 57 | 22 => 58 | 23 => 59 | 24 => 60 | 25 => 61 | 26 => 62 | 27 => 63 | 28 => 64 | 29 => 65 | 36 => 75 | 31 => 76 | 32 => 77 | 37 => 78 | 38 => 79 | 39 => 80 | 41 => 84 | n => n, fun | 27 => 30 | 29 => 9 | 3 => 3 | 32 => 78 | 26 => 30 | 0 => 0 | 44 => 95 | 46 => 97 | 4 => 4 | 36 => 87 | 35 => 86 | 41 => 92 | 5 => 5 | 9 => 9 | 53 => 107 | 57 => 111 | 63 => 114 | 64 => 115 | n => n, fun | n => n⟩
theorem Try.sort : Go.Proofs.SlLaysM.n6 Try.prog Try.sort_ren := {
  mixed := by kernel_rfl
  f6 := ⟨Try.f31.name, by decide, Try.func31.trans (congrArg some (by kernel_rfl))⟩
  f8 := Try.func48.trans (congrArg some (by kernel_rfl))
  f9 := ⟨Try.f47.name, by decide, Try.func47.trans (congrArg some (by kernel_rfl))⟩
  f19 := Try.func66.trans (congrArg some (by kernel_rfl))
  f20 := Try.func67.trans (congrArg some (by kernel_rfl))
  f21 := ⟨Try.f57.name, by decide, Try.func57.trans (congrArg some (by kernel_rfl))⟩
  f22 := ⟨Try.f58.name, by decide, Try.func58.trans (congrArg some (by kernel_rfl))⟩
  f23 := ⟨Try.f59.name, by decide, Try.func59.trans (congrArg some (by kernel_rfl))⟩
  f24 := ⟨Try.f60.name, by decide, Try.func60.trans (congrArg some (by kernel_rfl))⟩
  f25 := ⟨Try.f61.name, by decide, Try.func61.trans (congrArg some (by kernel_rfl))⟩
  f26 := ⟨Try.f62.name, by decide, Try.func62.trans (congrArg some (by kernel_rfl))⟩
  f27 := ⟨Try.f63.name, by decide, Try.func63.trans (congrArg some (by kernel_rfl))⟩
  f28 := ⟨Try.f64.name, by decide, Try.func64.trans (congrArg some (by kernel_rfl))⟩
  f29 := ⟨Try.f65.name, by decide, Try.func65.trans (congrArg some (by kernel_rfl))⟩
  f31 := Try.func76.trans (congrArg some (by kernel_rfl))
  f32 := Try.func77.trans (congrArg some (by kernel_rfl))
  f36 := ⟨Try.f75.name, by decide, Try.func75.trans (congrArg some (by kernel_rfl))⟩
  f37 := ⟨Try.f78.name, by decide, Try.func78.trans (congrArg some (by kernel_rfl))⟩
  f38 := ⟨Try.f79.name, by decide, Try.func79.trans (congrArg some (by kernel_rfl))⟩
  f39 := ⟨Try.f80.name, by decide, Try.func80.trans (congrArg some (by kernel_rfl))⟩
  f41 := ⟨Try.f84.name, by decide, Try.func84.trans (congrArg some (by kernel_rfl))⟩
  t0 := Try.underlying0
  a0 := Try.isAgg0
  z0 := Try.sizeOf0
  v0 := Try.zeroValue0
  t3 := Try.underlying3
  a3 := Try.isAgg3
  z3 := Try.sizeOf3
  v3 := Try.zeroValue3
  t4 := Try.underlying4
  a4 := Try.isAgg4
  z4 := Try.sizeOf4
  v4 := Try.zeroValue4
  t5 := Try.underlying5
  a5 := Try.isAgg5
  z5 := Try.sizeOf5
  v5 := Try.zeroValue5
  t9 := Try.underlying9
  a9 := Try.isAgg9
  z9 := Try.sizeOf9
  v9 := Try.zeroValue9
  t26 := Try.underlying30
  a26 := Try.isAgg30
  z26 := Try.sizeOf30
  v26 := Try.zeroValue30
  t27 := Try.underlying30
  a27 := Try.isAgg30
  z27 := Try.sizeOf30
  v27 := Try.zeroValue30
  t29 := Try.underlying9
  a29 := Try.isAgg9
  z29 := Try.sizeOf9
  v29 := Try.zeroValue9
  t32 := Try.underlying78
  a32 := Try.isAgg78
  z32 := Try.sizeOf78
  v32 := Try.zeroValue78
  t35 := Try.underlying86
  a35 := Try.isAgg86
  z35 := Try.sizeOf86
  v35 := Try.zeroValue86
  t36 := Try.underlying87
  a36 := Try.isAgg87
  z36 := Try.sizeOf87
  v36 := Try.zeroValue87
  t41 := Try.underlying92
  a41 := Try.isAgg92
  z41 := Try.sizeOf92
  v41 := Try.zeroValue92
  t44 := Try.underlying95
  a44 := Try.isAgg95
  z44 := Try.sizeOf95
  v44 := Try.zeroValue95
  t46 := Try.underlying97
  a46 := Try.isAgg97
  z46 := Try.sizeOf97
  v46 := Try.zeroValue97
  t53 := Try.underlying107
  a53 := Try.isAgg107
  z53 := Try.sizeOf107
  v53 := Try.zeroValue107
  t57 := Try.underlying111
  a57 := Try.isAgg111
  z57 := Try.sizeOf111
  v57 := Try.zeroValue111
  t63 := Try.underlying114
  a63 := Try.isAgg114
  z63 := Try.sizeOf114
  v63 := Try.zeroValue114
  t64 := Try.underlying115
  a64 := Try.isAgg115
  z64 := Try.sizeOf115
  v64 := Try.zeroValue115 }
end Go.Proofs
end
section
/- The sorted keys of a map of texts to numbers: the library's contracts, laid at this translation. -/
namespace Go.Proofs.Ytkdcpnbfeagggaa
open Go.RowKit Go.Maps Go.Sort Go.Shelf

theorem sorts (m : Nat) : AnyZ.SortsIn Try.prog Try.sorted_ren Fence.wide m :=
  ⟨fun blk off cap ss W hH hblk hsz => callsIn_wide.2 (AnyM.slices_Sort_string Try.sort blk off cap ss W hH hblk hsz),
   fun p cap W => callsIn_wide.2 (AnyM.slices_Sort_string_none Try.sort p cap W)⟩

theorem maps_keys (mb : Option Nat) (W : World) : CallsIn Fence.wide 5 Try.prog 74 #[.map mb] W fun e w' => e = .returned (.func (.func 83) #[] #[.pointer (some ⟨W.heap.size, 0, none⟩)]) ∧ w' = W.alloc (.cells #[.map mb] 55) :=
  AnyZ.keys_in Try.keys Fence.wide 5 trivial rfl mb W

set_option maxHeartbeats 1000000 in
theorem sorted_keys {H : Type} (b nn : Nat) (D0 : DataW H) (R : Value → Option (DataW H × List MemPlace)) (w : World) (hown : w.ownsMap Try.prog 9 R b nn D0) (hmax : Maps.size D0 ≤ maxLen) (hbytes : Maps.size D0 * 16 ≤ 140737488355328) :
    CallsIn Fence.wide 5 Try.prog 73 #[.func (.func 83) #[] #[.pointer (some ⟨w.heap.size, 0, none⟩)]] (w.alloc (.cells #[.map (some b)] 55)) fun e w' => ∃ (v : Value) (ss : List (List UInt8)), e = .returned v ∧ ss.Perm (strKeys D0) ∧
      w'.ownsRow (w.alloc (.cells #[.map (some b)] 55)).heap.size 9 1 v ss.length ((ss.mergeSort (fun x y => decide (x ≤ y))).map encStr) ∧ (v = .slice none 0 0 ↔ ss = []) ∧ Below (w.alloc (.cells #[.map (some b)] 55)).heap.size (w.alloc (.cells #[.map (some b)] 55)) w' := by
  have hbl := hown.lt
  have hseq : SeqGives Fence.wide 2 Try.prog 83 #[.pointer (some ⟨w.heap.size, 0, none⟩)] encStr (fun ss => ss.Perm (strKeys D0)) (Maps.size D0) (w.alloc (.cells #[.map (some b)] 55)) :=
    AnyZ.keys_gives (ρ := Try.keys_ren) { Try.keys with } Fence.wide _ trivial rfl (by omega) w.heap.size b nn D0 _ (by simp) (by simp) (by
      obtain ⟨es, clock, hb, Ft, hs, hD⟩ := hown
      exact ⟨es, clock, (Below.heap_alloc _ _ b hbl).trans hb, Ft, hs, hD⟩)
  exact AnyZ.sorted_in Try.sorted Fence.wide 5 trivial trivial trivial trivial rfl (by omega) (sorts _) (enters_of Try.func31 (by kernel_rfl) rfl) 83 #[.pointer (some ⟨w.heap.size, 0, none⟩)] trivial (enters_of Try.func83 (by kernel_rfl) rfl) _ _ hmax hbytes _ hseq

end Go.Proofs.Ytkdcpnbfeagggaa
end
section
/- amount.rising: the items of a map of texts to numbers as parts, by rising items. -/
namespace Go.Proofs.Ytkdcpnbfeagggaa
open Go.ChangeShapes Go.WideShapes Go.ChangeAt Go.RowKit Go.Maps
set_option linter.unusedVariables false

theorem skeyed : Keyed Try.prog 9 := string_keyed Try.underlying9
theorem zero64 (w : World) : (zeroValue 2).run Try.prog w = .ok (.int .i64 0) w := by kernel_rfl
theorem infoPart : (Try.prog.info? 34).map (fun i => (i.zero, i.size, i.bytes)) = some (some (.agg #[.string ⟨#[]⟩, .int .i64 0]), 2, 24) := by kernel_rfl

theorem keys_calls (mb : Option Nat) (W : World) : Calls Try.prog 74 #[.map mb] W fun e w' => e = .returned (.func (.func 83) #[] #[.pointer (some ⟨W.heap.size, 0, none⟩)]) ∧ w' = W.alloc (.cells #[.map mb] 55) :=
  callsIn_wide.1 (maps_keys mb W)
/-- The keys, sorted. -/
def srt (ss : List (List UInt8)) : List (List UInt8) := ss.mergeSort (fun x y => decide (x ≤ y))
def SortedKeys {H : Type} (D0 : DataW H) (B : Nat) (w : World) (e : Ending) (w' : World) : Prop :=
  ∃ (A : Option Addr) (c : Nat) (ss : List (List UInt8)), e = .returned (.slice A ss.length c) ∧ ss.Perm (strKeys D0) ∧ Lies w' w'.heap.size A ((srt ss).map encStr) ∧ Below B w w'

theorem sorted_calls {H : Type} (b nn : Nat) (D0 : DataW H) (R : Value → Option (DataW H × List MemPlace)) (w : World) (hown : w.ownsMap Try.prog 9 R b nn D0) (hmax : nn ≤ 1099511627776) :
    Calls Try.prog 73 #[.func (.func 83) #[] #[.pointer (some ⟨w.heap.size, 0, none⟩)]] (w.alloc (.cells #[.map (some b)] 55)) (SortedKeys D0 w.heap.size (w.alloc (.cells #[.map (some b)] 55))) := by
  have hs := (size_strKeys hown).2
  refine (callsIn_wide.1 (sorted_keys b nn D0 R w hown (by unfold maxLen; omega) (by omega))).mono ?_
  rintro e w' ⟨v, ss, rfl, hp, hrow, _, hb⟩
  obtain ⟨A, c, rfl, _⟩ := own_form hrow
  exact ⟨A, c, ss, rfl, hp, Lies.own hrow, hb.mono (by simp)⟩

theorem key_of (key : List UInt8) (h : key.length ≤ maxLen) : keyOf Try.prog 9 (encStr key) = some (.string key) :=
  Go.WideMaps.keyOf_string_mk Try.underlying9 (by simpa [ByteArray.size] using h)
theorem two_new (w : World) (a b : Value) (t : TypeId) : ∀ j u, [a, b][j]? = some u → (w.alloc (.cells #[a, b] t)).cell? ((⟨w.heap.size, 0, none⟩ : Addr).add j) = some u := by
  intro j u h
  have e : (⟨w.heap.size, 0, none⟩ : Addr).add j = ⟨w.heap.size, j, none⟩ := by unfold Addr.add; split <;> simp_all
  rw [e, cell_of_row _ _ _ _ _ _ (heap_alloc_new w _)]
  simpa using h
theorem two_one (s : ByteArray) (q : Int) : ∀ u ∈ [Value.string s, Value.int .i64 q], u.oneCell' = true := by
  intro u h
  simp only [List.mem_cons, List.not_mem_nil, or_false] at h
  rcases h with rfl | rfl <;> rfl
theorem base_less {w : World} {base base' e size n : Nat} {v : Value} {xs : List Value} (h : w.ownsRow base e size v n xs) (hb : base' ≤ base) : w.ownsRow base' e size v n xs := by
  refine ⟨h.1, ?_⟩
  rcases h.2 with hn | ⟨g, cap, cur, hv, hg, rest⟩
  · exact .inl hn
  · exact .inr ⟨g, cap, cur, hv, Nat.le_trans hb hg, rest⟩
theorem grown_below {w w' : World} {B : Nat} (h : Below B w w') (hB : w.heap.size ≤ B) : w.grownBy w' none := ⟨h.os, h.tape, h.output, h.size, fun i hi _ => h.block i (Nat.lt_of_lt_of_le hi hB)⟩

set_option maxHeartbeats 1000000 in
theorem rising_any {H : Type} (b nn : Nat) (D0 : DataW H) (w : World) (hown : w.ownsMap Try.prog 9 (plainElem Try.prog 2) b nn D0) (hmax : nn ≤ 1099511627776)
    (f : List UInt8 → Int) (hval : ∀ it, D0.atKey (.string it) (.lit (.int .i64 0)) = .lit (.int .i64 (f it))) :
    Calls Try.prog 56 #[.map (some b)] w fun e w' => ∃ (v : Value) (ss : List (List UInt8)), e = .returned v ∧ ss.Perm (strKeys D0) ∧
      w'.ownsRow w.heap.size 34 2 v ss.length (pcells ((srt ss).map fun it => (it, f it))) ∧ Below w.heap.size w w' := by
  obtain ⟨i0, hi, hz0, hz1, hz2⟩ := info_parts infoPart
  have hkl : ∀ x ∈ strKeys D0, x.length ≤ maxLen := strKeys_le hown Try.underlying9
  have hsz := size_strKeys hown
  have HV := Lib.hid hval
  have HKL := Lib.hid hkl
  have HS := Lib.hid hsz
  have H1 := Lib.hid hi
  have H2 := Lib.hid hz0
  have H3 := Lib.hid hz1
  have H4 := Lib.hid hz2
  clear hval hkl hsz hi hz0 hz1 hz2
  go_enter Try.func56, Try.ntmps56
  go_wp2_with (first
    | (go_at_call 74; ((with_reducible refine (keys_calls _ _).mono ?_); rintro e w' ⟨rfl, rfl⟩))
    | (go_at_call 73; ((with_reducible refine (sorted_calls b nn D0 _ w hown hmax).mono ?_); rintro e w1 ⟨A, c, ss, rfl, hp, hl, hb⟩)))
  have hown1 : w1.ownsMap Try.prog 9 (plainElem Try.prog 2) b nn D0 := by
    have hg : w.grownBy w1 none := grown_below (((Below.refl _ w).alloc (Nat.le_refl _) _).trans hb) (Nat.le_refl _)
    exact hown.kept hg (by simp)
  have hlen : ss.length ≤ 1099511627776 := by have := hp.length_eq; have := HS.out; omega
  obtain ⟨ks, hks⟩ : ∃ ks, ks = srt ss := ⟨_, rfl⟩
  have hkn : ks.length = ss.length := by rw [hks, srt, List.length_mergeSort]
  have hkm : ∀ x ∈ ks, x.length ≤ maxLen := fun x hx => HKL.out x (hp.mem_iff.1 (by rw [hks, srt, List.mem_mergeSort] at hx; exact hx))
  have HP := Lib.hid hp
  have HKS := Lib.hid hks
  have HKN := Lib.hid hkn
  have HKM := Lib.hid hkm
  rw [← hks] at hl
  have hle : ks.length ≤ ss.length ∧ ss.length ≤ ks.length := by omega
  obtain ⟨hle1, hle2⟩ := hle
  have hbw := hb.size
  simp only [World.size_alloc] at hbw
  clear hp hks hkn hkm
  go_loopw [3, 10] (fun v i wr => ∃ k : Nat, k ≤ ss.length ∧ i = .int .i64 k ∧ wr.ownsRow w1.heap.size 34 2 v k (pcells ((ks.take k).map fun it => (it, f it))) ∧ Below w1.heap.size w1 wr)
    (fun _ i _ => ss.length - (intOf i).toNat)
  case atStart => exact ⟨0, Nat.zero_le _, rfl, World.ownsRow_nil _ _ _ _, Below.refl _ _⟩
  case round =>
    obtain ⟨k, hk, rfl, hrow, hbr⟩ := hrel
    by_cases hlt : k < ss.length
    · obtain ⟨key, hkey⟩ : ∃ key, ks[k]? = some key := ⟨_, List.getElem?_eq_getElem (by omega)⟩
      have hkmem : key.length ≤ maxLen := HKM.out key (List.mem_of_getElem? hkey)
      have hcell := (hl.below hbr).get (j := k) (u := encStr key) (by rw [List.getElem?_map, hkey]; rfl)
      obtain ⟨ad, rfl, hadb, hcell⟩ := hcell
      have hownr : wr.ownsMap Try.prog 9 (plainElem Try.prog 2) b nn D0 := hown1.kept (grown_below hbr (Nat.le_refl _)) (by simp)
      go_wp2_with (first
        | (at_lookup; refine wpList_lookup_own_int _ rfl _ _ 55 rfl 9 2 .i64 skeyed Try.underlying55 Try.underlying2 (zero64 _) b nn D0 rfl hownr _ _ rfl (key_of key hkmem) ?_; intro c hat hwc; obtain rfl : f key = c := by (rw [HV.out] at hat; simpa using hat))
        | (at_builtin; refine wpList_append_own_at _ rfl (.tmp 14) (.tmp 20) 29 rfl w1.heap.size 34 i0 _ 2 24 Try.underlying29 H1.out H2.out H3.out H4.out rfl (by decide) _ k _ rfl (hrow.alloc _) ⟨wr.heap.size, 0, none⟩ 1 1 [encStr key, .int .i64 (f key)] rfl rfl (two_new _ _ _ _) (two_one _ _) (by unfold maxLen; omega) (by omega) (by simp only [World.size_alloc]; have := hbr.size; omega) ?_; intro v' w2 hown2 hg2 _ hat2))
      have hcs : wr.ownsRow w1.heap.size 34 2 _ k _ := hrow
      have hst : pcells ((ks.take (k + 1)).map fun it => (it, f it)) = pcells ((ks.take k).map fun it => (it, f it)) ++ [encStr key, .int .i64 (f key)] := by
        rw [List.take_add_one, hkey, List.map_append, pcells_append]; rfl
      have hbn : Below w1.heap.size w1 w2 := (hbr.alloc hbr.size _).grown hg2 (by simp only [World.size_alloc]; have := hbr.size; omega) (fun j hj => (hcs.lt j hj).1)
      go_roundw
      case rel => exact ⟨k + 1, by omega, by go_num, by rw [hst]; exact hown2, hbn⟩
      case measure => simp [intOf]; omega
    · obtain rfl : k = ss.length := by omega
      go_wp2
      go_ret
      refine ⟨_, ss, rfl, HP.out, ?_, ?_⟩
      · have h := base_less hrow (base' := w.heap.size) (by omega)
        rw [List.take_of_length_le (by omega), HKS.out] at h
        exact h
      · exact (((Below.refl _ w).alloc (Nat.le_refl _) _).trans hb).trans (hbr.mono (by omega))
end Go.Proofs.Ytkdcpnbfeagggaa
end
section
/- The contracts of the functions on one and two numbers: amount.Right, Add, Times and the reference's. -/
namespace Go.Proofs.Ytkdcpnbfeagggaa
open Go.ChangeShapes Go.WideShapes Go.ChangeAt Go.RowKit
set_option linter.unusedVariables false

theorem ret_bool {a b : Bool} (h : a = b) : Ending.returned (.bool a) = .returned (.bool b) := by rw [h]
theorem ret_ib {a b : Int} {x y : Bool} (h : a = b) (h' : x = y) : Ending.returned (.tuple #[.int .i64 a, .bool x]) = .returned (.tuple #[.int .i64 b, .bool y]) := by rw [h, h']

theorem right_any (n : Int) (w : World) : Calls Try.prog 25 #[.int .i64 n] w fun e w' => e = .returned (.bool (rightB n)) ∧ w = w' := by
  by_cases h0 : 0 ≤ n
  · by_cases h1 : n ≤ 1125899906842624
    · go_enter Try.func25, Try.ntmps25
      go_wp2
      go_ret
      exact ⟨ret_bool (rightB_true h0 h1).symm, rfl⟩
    · have h1' : decide (n ≤ 1125899906842624) = false := by simpa using h1
      go_enter Try.func25, Try.ntmps25
      go_wp2
      go_ret
      exact ⟨ret_bool (rightB_false (by omega)).symm, rfl⟩
  · have h1' : decide (0 ≤ n) = false := by simpa using h0
    go_enter Try.func25, Try.ntmps25
    go_wp2
    go_ret
    exact ⟨ret_bool (rightB_false (by omega)).symm, rfl⟩

theorem right_yes (n : Int) (w : World) (h : rightB n = true) : Calls Try.prog 25 #[.int .i64 n] w fun e w' => e = .returned (.bool true) ∧ w = w' := by
  have := right_any n w; rwa [h] at this
theorem right_no (n : Int) (w : World) (h : rightB n = false) : Calls Try.prog 25 #[.int .i64 n] w fun e w' => e = .returned (.bool false) ∧ w = w' := by
  have := right_any n w; rwa [h] at this
theorem add_any (a b : Int) (w : World) : Calls Try.prog 44 #[.int .i64 a, .int .i64 b] w fun e w' => e = .returned (.tuple #[.int .i64 (addV a b), .bool (addB a b)]) ∧ w = w' := by
  by_cases h0 : rightB a = true
  · by_cases h1 : rightB b = true
    · obtain ⟨a0, a1⟩ := of_rightB h0
      obtain ⟨b0, b1⟩ := of_rightB h1
      by_cases h2 : rightB (a + b) = true
      · have e : addB a b = true := by simp [addB, h0, h1, h2]
        have H0 := Lib.hid h0
        have H1 := Lib.hid h1
        have H2 := Lib.hid h2
        have E := Lib.hid e
        clear h0 h1 h2 e
        go_enter Try.func44, Try.ntmps44
        go_wp2_with (first
          | (go_at_call 25; ((with_reducible refine (right_yes a _ H0.out).mono ?_); rintro e w' ⟨rfl, rfl⟩))
          | (go_at_call 25; ((with_reducible refine (right_yes b _ H1.out).mono ?_); rintro e w' ⟨rfl, rfl⟩))
          | (go_at_call 25; ((with_reducible refine (right_yes (a + b) _ H2.out).mono ?_); rintro e w' ⟨rfl, rfl⟩)))
        go_ret2
        exact ⟨ret_ib (by simp [addV, E.out]) E.out.symm, rfl⟩
      · have h2 : rightB (a + b) = false := by simpa using h2
        have e : addB a b = false := by simp [addB, h0, h1, h2]
        have H0 := Lib.hid h0
        have H1 := Lib.hid h1
        have H2 := Lib.hid h2
        have E := Lib.hid e
        clear h0 h1 h2 e
        go_enter Try.func44, Try.ntmps44
        go_wp2_with (first
          | (go_at_call 25; ((with_reducible refine (right_yes a _ H0.out).mono ?_); rintro e w' ⟨rfl, rfl⟩))
          | (go_at_call 25; ((with_reducible refine (right_yes b _ H1.out).mono ?_); rintro e w' ⟨rfl, rfl⟩))
          | (go_at_call 25; ((with_reducible refine (right_no (a + b) _ H2.out).mono ?_); rintro e w' ⟨rfl, rfl⟩)))
        go_ret2
        exact ⟨ret_ib (by simp [addV, E.out]) E.out.symm, rfl⟩
    · have h1 : rightB b = false := by simpa using h1
      have e : addB a b = false := by simp [addB, h0, h1]
      have H0 := Lib.hid h0
      have H1 := Lib.hid h1
      have E := Lib.hid e
      clear h0 h1 e
      go_enter Try.func44, Try.ntmps44
      go_wp2_with (first
        | (go_at_call 25; ((with_reducible refine (right_yes a _ H0.out).mono ?_); rintro e w' ⟨rfl, rfl⟩))
        | (go_at_call 25; ((with_reducible refine (right_no b _ H1.out).mono ?_); rintro e w' ⟨rfl, rfl⟩)))
      go_ret2
      exact ⟨ret_ib (by simp [addV, E.out]) E.out.symm, rfl⟩
  · have h0 : rightB a = false := by simpa using h0
    have e : addB a b = false := by simp [addB, h0]
    have H0 := Lib.hid h0
    have E := Lib.hid e
    clear h0 e
    go_enter Try.func44, Try.ntmps44
    go_wp2_with (go_at_call 25; ((with_reducible refine (right_no a _ H0.out).mono ?_); rintro e w' ⟨rfl, rfl⟩))
    go_ret2
    exact ⟨ret_ib (by simp [addV, E.out]) E.out.symm, rfl⟩


theorem times_any (a b : Int) (w : World) : Calls Try.prog 43 #[.int .i64 a, .int .i64 b] w fun e w' => e = .returned (.tuple #[.int .i64 (timesV a b), .bool (timesB a b)]) ∧ w = w' := by
  by_cases h0 : rightB a = true
  · by_cases h1 : rightB b = true
    · obtain ⟨a0, a1⟩ := of_rightB h0
      obtain ⟨b0, b1⟩ := of_rightB h1
      by_cases hz : b = 0
      · subst hz
        have e : timesB a 0 = true := by simp [timesB, h0, h1]
        have H0 := Lib.hid h0
        have H1 := Lib.hid h1
        have E := Lib.hid e
        clear h0 h1 e
        go_enter Try.func43, Try.ntmps43
        go_wp2_with (first
          | (go_at_call 25; ((with_reducible refine (right_yes a _ H0.out).mono ?_); rintro e w' ⟨rfl, rfl⟩))
          | (go_at_call 25; ((with_reducible refine (right_yes 0 _ H1.out).mono ?_); rintro e w' ⟨rfl, rfl⟩)))
        go_ret2
        exact ⟨ret_ib (by simp [timesV, E.out]) E.out.symm, rfl⟩
      · have hb1 : 1 ≤ b := by omega
        have hn1 : (b == 0) = false := by simpa using hz
        have hn2 : (b != 0) = true := by simpa using hz
        have hn3 : decide (0 < b) = true := decide_eq_true (by omega)
        have hp0 : 0 ≤ a * b := Int.mul_nonneg a0 b0
        clear hz
        by_cases hp : a ≤ 1125899906842624 / b
        · have hp1 : a * b ≤ 1125899906842624 := (Int.le_ediv_iff_mul_le (by omega)).1 hp
          have e : timesB a b = true := by simp [timesB, h0, h1, rightB_true hp0 hp1]
          have hq : decide (1125899906842624 / b < a) = false := by simpa using hp
          have H0 := Lib.hid h0
          have H1 := Lib.hid h1
          have E := Lib.hid e
          clear h0 h1 e hp
          go_enter Try.func43, Try.ntmps43
          go_wp2_with (first
            | (go_at_call 25; ((with_reducible refine (right_yes a _ H0.out).mono ?_); rintro e w' ⟨rfl, rfl⟩))
            | (go_at_call 25; ((with_reducible refine (right_yes b _ H1.out).mono ?_); rintro e w' ⟨rfl, rfl⟩)))
          go_ret2
          exact ⟨ret_ib (by simp [timesV, E.out]) E.out.symm, rfl⟩
        · have hp1 : 1125899906842624 < a * b := by
            rcases Int.lt_or_le 1125899906842624 (a * b) with h | h
            · exact h
            · exact absurd ((Int.le_ediv_iff_mul_le (by omega)).2 h) hp
          have e : timesB a b = false := by simp [timesB, h0, h1, rightB_false (.inr hp1)]
          have hq : decide (1125899906842624 / b < a) = true := by simpa using hp
          have H0 := Lib.hid h0
          have H1 := Lib.hid h1
          have E := Lib.hid e
          clear h0 h1 e hp
          go_enter Try.func43, Try.ntmps43
          go_wp2_with (first
            | (go_at_call 25; ((with_reducible refine (right_yes a _ H0.out).mono ?_); rintro e w' ⟨rfl, rfl⟩))
            | (go_at_call 25; ((with_reducible refine (right_yes b _ H1.out).mono ?_); rintro e w' ⟨rfl, rfl⟩)))
          go_ret2
          exact ⟨ret_ib (by simp [timesV, E.out]) E.out.symm, rfl⟩
    · have h1 : rightB b = false := by simpa using h1
      have e : timesB a b = false := by simp [timesB, h0, h1]
      have H0 := Lib.hid h0
      have H1 := Lib.hid h1
      have E := Lib.hid e
      clear h0 h1 e
      go_enter Try.func43, Try.ntmps43
      go_wp2_with (first
        | (go_at_call 25; ((with_reducible refine (right_yes a _ H0.out).mono ?_); rintro e w' ⟨rfl, rfl⟩))
        | (go_at_call 25; ((with_reducible refine (right_no b _ H1.out).mono ?_); rintro e w' ⟨rfl, rfl⟩)))
      go_ret2
      exact ⟨ret_ib (by simp [timesV, E.out]) E.out.symm, rfl⟩
  · have h0 : rightB a = false := by simpa using h0
    have e : timesB a b = false := by simp [timesB, h0]
    have H0 := Lib.hid h0
    have E := Lib.hid e
    clear h0 e
    go_enter Try.func43, Try.ntmps43
    go_wp2_with (go_at_call 25; ((with_reducible refine (right_no a _ H0.out).mono ?_); rintro e w' ⟨rfl, rfl⟩))
    go_ret2
    exact ⟨ret_ib (by simp [timesV, E.out]) E.out.symm, rfl⟩

end Go.Proofs.Ytkdcpnbfeagggaa
end
section
/- amount.Join: the parts of all lists, one for each item, by rising items; or that there are none. -/
namespace Go.Proofs.Ytkdcpnbfeagggaa
open Go.ChangeShapes Go.WideShapes Go.ChangeAt Go.RowKit Go.Maps
set_option linter.unusedVariables false

/-- A slice value that reads as parts. -/
def PSl (w : World) (B : Nat) (v : Value) (l : List Pt) : Prop := ∃ A c, v = .slice A l.length c ∧ l.length ≤ c ∧ c ≤ maxLen ∧ (A = none → c = 0) ∧ Lies w B A (pcells l)
theorem PSl.below {w w' : World} {B : Nat} {v : Value} {l : List Pt} (h : PSl w B v l) (hb : Below B w w') : PSl w' B v l := by
  obtain ⟨A, c, h1, h2, h3, hz, h4⟩ := h
  exact ⟨A, c, h1, h2, h3, hz, h4.below hb⟩
theorem PSl.mono {w : World} {B B' : Nat} {v : Value} {l : List Pt} (h : PSl w B v l) (hB : B ≤ B') : PSl w B' v l := by
  obtain ⟨A, c, h1, h2, h3, hz, h4⟩ := h
  exact ⟨A, c, h1, h2, h3, hz, h4.mono hB⟩
theorem PSl.own {w : World} {base e : Nat} {v : Value} {l : List Pt} (h : w.ownsRow base e 2 v l.length (pcells l)) : PSl w w.heap.size v l := by
  obtain ⟨A, c, rfl, h1, h2, hz⟩ := own_form h
  exact ⟨A, c, rfl, h1, h2, hz, Lies.own h⟩
theorem PSl.nil {w : World} {B : Nat} : PSl w B (.slice none 0 0) [] := ⟨none, 0, rfl, Nat.le_refl _, by simp [maxLen], fun _ => rfl, Lies.none⟩

/-- Lists of parts that lie one behind the other. -/
def PRows (w : World) (B : Nat) (A : Option Addr) (ls : List (List Pt)) : Prop :=
  ∃ vs : List Value, vs.length = ls.length ∧ Lies w B A vs ∧ ∀ (i : Nat) (v : Value) (l : List Pt), vs[i]? = some v → ls[i]? = some l → PSl w B v l
theorem PRows.below {w w' : World} {B : Nat} {A : Option Addr} {ls : List (List Pt)} (h : PRows w B A ls) (hb : Below B w w') : PRows w' B A ls := by
  obtain ⟨vs, h1, h2, h3⟩ := h
  exact ⟨vs, h1, h2.below hb, fun i v l hv hl => (h3 i v l hv hl).below hb⟩
theorem PRows.get {w : World} {B : Nat} {A : Option Addr} {ls : List (List Pt)} (h : PRows w B A ls) {k : Nat} {l : List Pt} (hk : ls[k]? = some l) :
    ∃ ad Ai c, A = some ad ∧ ad.block < B ∧ w.cell? (ad.add k) = some (.slice Ai l.length c) ∧ c ≤ maxLen ∧ Lies w B Ai (pcells l) := by
  obtain ⟨vs, h1, h2, h3⟩ := h
  have hlt : k < ls.length := (List.getElem?_eq_some_iff.1 hk).1
  have hv : vs[k]? = some (vs[k]'(by omega)) := List.getElem?_eq_getElem (by omega)
  obtain ⟨Ai, c, hvv, _, hc, _, hl⟩ := h3 k _ l hv hk
  obtain ⟨ad, hA, hab, hcell⟩ := h2.get hv
  exact ⟨ad, Ai, c, hA, hab, by rw [hcell, hvv], hc, hl⟩

/-- The map of sums says the totals. -/
structure MapIs {H : Type} (D : DataW H) (l : List Pt) : Prop where
  isMap : IsMap D
  at_ : ∀ it, D.atKey (.string it) (.lit (.int .i64 0)) = .lit (.int .i64 (tot it l))
  has_ : ∀ it, Maps.has D (.string it) = true ↔ it ∈ l.map (·.1)

theorem mapIs_nil {H : Type} : MapIs (.map [] : DataW H) [] := ⟨isMap_empty, fun it => rfl, fun it => by simp [Maps.has]⟩
theorem MapIs.step {H : Type} {D : DataW H} {l : List Pt} (h : MapIs D l) (p : Pt) : MapIs (D.put (.string p.1) (.lit (.int .i64 (tot p.1 l + p.2)))) (l ++ [p]) := by
  have hkl : WideAt.IsKeyLit (.string p.1) := by simp [WideAt.IsKeyLit]
  refine ⟨h.isMap.put _ _, fun it => ?_, fun it => ?_⟩
  · by_cases e : it = p.1
    · subst e
      rw [atKey_put_same h.isMap hkl, tot_append]
      simp [tot]
    · rw [atKey_put_other (by simpa using e), h.at_, tot_append]
      simp [tot, Ne.symm e]
  · by_cases e : it = p.1
    · subst e
      rw [has_put_same h.isMap hkl]
      simp
    · rw [has_put_other (by simpa using e), h.has_]
      simp [e]
theorem MapIs.join {H : Type} {D : DataW H} {l : List Pt} (h : MapIs D l) {ss : List (List UInt8)} (hp : ss.Perm (strKeys D)) (hk : (strKeys D).Nodup ∧ ∀ x, x ∈ strKeys D ↔ Maps.has D (.string x) = true) :
    IsJoin l ((srt ss).map fun it => (it, tot it l)) := by
  have hperm : (srt ss).Perm (strKeys D) := (List.mergeSort_perm _ _).trans hp
  have hnd : (srt ss).Nodup := hperm.nodup_iff.2 hk.1
  have hmem : ∀ x, x ∈ srt ss ↔ x ∈ l.map (·.1) := fun x => by rw [hperm.mem_iff, hk.2, h.has_]
  constructor
  · unfold Rising
    rw [List.pairwise_map]
    have hs : (srt ss).Pairwise (fun x y => decide (x ≤ y) = true) := List.pairwise_mergeSort (fun a b c h1 h2 => by simp only [decide_eq_true_eq] at *; exact List.le_trans h1 h2) (fun a b => by simp only [Bool.or_eq_true, decide_eq_true_eq]; exact List.le_total a b) ss
    refine (hs.and hnd).imp fun {a b} hab => ?_
    obtain ⟨h1, h2⟩ := hab
    simp only [decide_eq_true_eq] at h1
    by_cases h3 : a < b
    · exact h3
    · exact absurd (List.le_antisymm h1 (List.not_lt.1 h3)) h2
  · intro it q
    simp only [List.mem_map, Prod.mk.injEq]
    constructor
    · rintro ⟨x, hx, rfl, rfl⟩
      exact ⟨by have := (hmem x).1 hx; simpa using this, rfl⟩
    · rintro ⟨hx, rfl⟩
      exact ⟨it, (hmem it).2 (by simpa using hx), rfl, rfl⟩

/-- What Join answers of the parts l. -/
def JoinPost (l : List Pt) (w : World) (e : Ending) (w' : World) : Prop :=
  Below w.heap.size w w' ∧
  ((JoinOk l ∧ ∃ v out, e = .returned (.tuple #[v, .bool true]) ∧ IsJoin l out ∧ out.length ≤ l.length ∧ w'.ownsRow w.heap.size 34 2 v out.length (pcells out)) ∨
   (¬ JoinOk l ∧ e = .returned (.tuple #[.slice none 0 0, .bool false])))
theorem JoinPost.yes {l : List Pt} {w w' : World} {v : Value} {out : List Pt} (h : JoinOk l) (hj : IsJoin l out) (hl : out.length ≤ l.length) (ho : w'.ownsRow w.heap.size 34 2 v out.length (pcells out)) (hb : Below w.heap.size w w') :
    JoinPost l w (.returned (.tuple #[v, .bool true])) w' := ⟨hb, .inl ⟨h, v, out, rfl, hj, hl, ho⟩⟩
theorem JoinPost.no {l : List Pt} {w w' : World} (h : ¬ JoinOk l) (hb : Below w.heap.size w w') : JoinPost l w (.returned (.tuple #[.slice none 0 0, .bool false])) w' := ⟨hb, .inr ⟨h, rfl⟩⟩

/-- The rising contract, for the map of the totals of l. -/
theorem rising_tot {H : Type} (b nn : Nat) (D0 : DataW H) (l : List Pt) (w : World) (hown : w.ownsMap Try.prog 9 (plainElem Try.prog 2) b nn D0) (hmax : nn ≤ 1099511627776) (hm : MapIs D0 l) :
    Calls Try.prog 56 #[.map (some b)] w fun e w' => ∃ (v : Value) (out : List Pt), e = .returned v ∧ IsJoin l out ∧ out.length ≤ nn ∧
      w'.ownsRow w.heap.size 34 2 v out.length (pcells out) ∧ Below w.heap.size w w' := by
  refine (rising_any b nn D0 w hown hmax (fun it => tot it l) hm.at_).mono ?_
  rintro e w' ⟨v, ss, rfl, hp, hrow, hb⟩
  have hs := size_strKeys hown
  have hl := hp.length_eq
  have e : ((srt ss).map fun it => (it, tot it l)).length = ss.length := by rw [List.length_map, srt, List.length_mergeSort]
  exact ⟨v, _, rfl, hm.join hp (keys_of hown skeyed Try.underlying9), by omega, by rw [e]; exact hrow, hb⟩

theorem wf_addV (a b : Int) : (Lit.int .i64 (addV a b)).wf = true := by
  unfold addV
  split
  · rename_i h
    simp only [addB, Bool.and_eq_true] at h
    have := of_rightB h.2.2
    exact WalkArith.wf_i64 (by omega)
  · rfl

/-- The parts of the first k lists, and j parts of the next one. -/
def upTo (ls : List (List Pt)) (k : Nat) : List Pt := (ls.take k).flatten
theorem upTo_succ {ls : List (List Pt)} {k : Nat} {l : List Pt} (h : ls[k]? = some l) : upTo ls (k + 1) = upTo ls k ++ l := by
  unfold upTo; rw [List.take_add_one, h]; simp
theorem upTo_all (ls : List (List Pt)) : upTo ls ls.length = ls.flatten := by unfold upTo; rw [List.take_of_length_le (Nat.le_refl _)]
theorem upTo_len {ls : List (List Pt)} {k : Nat} {l : List Pt} (h : ls[k]? = some l) : (upTo ls k).length + l.length ≤ ls.flatten.length := by
  have hlt := (List.getElem?_eq_some_iff.1 h).1
  have e : ls = ls.take (k + 1) ++ ls.drop (k + 1) := (List.take_append_drop _ _).symm
  have h2 : ls.flatten = upTo ls (k + 1) ++ (ls.drop (k + 1)).flatten := by
    conv => lhs; rw [e]
    rw [List.flatten_append]; rfl
  rw [h2, upTo_succ h, List.length_append, List.length_append]; omega
theorem upTo_split {ls : List (List Pt)} {k : Nat} {l : List Pt} (h : ls[k]? = some l) {j : Nat} {p : Pt} (hj : l[j]? = some p) : ∃ m, ls.flatten = (upTo ls k ++ l.take j) ++ p :: m := by
  have hlt := (List.getElem?_eq_some_iff.1 h).1
  have hjl := List.getElem?_eq_some_iff.1 hj
  have e : ls = ls.take (k + 1) ++ ls.drop (k + 1) := (List.take_append_drop _ _).symm
  have h2 : ls.flatten = upTo ls (k + 1) ++ (ls.drop (k + 1)).flatten := by
    conv => lhs; rw [e]
    rw [List.flatten_append]; rfl
  refine ⟨l.drop (j + 1) ++ (ls.drop (k + 1)).flatten, ?_⟩
  have h3 : l = l.take j ++ p :: l.drop (j + 1) := by
    conv => lhs; rw [← List.take_append_drop j l, List.drop_eq_getElem_cons hjl.1, hjl.2]
  rw [h2, upTo_succ h]
  conv => lhs; rw [h3]
  simp

set_option maxHeartbeats 2000000 in
theorem join_any {H : Type} (A : Option Addr) (c : Nat) (ls : List (List Pt)) (w : World) (hr : PRows w w.heap.size A ls) (hs : Sized ls.flatten) (hlen : ls.flatten.length ≤ 1099511627776) (hn : ls.length ≤ 1099511627776) :
    Calls Try.prog 46 #[.slice A ls.length c] w (JoinPost ls.flatten w) := by
  have hmm := @run_makeMap Try.prog
  have hlens : ∀ (k : Nat) (l : List Pt), ls[k]? = some l → l.length ≤ 1099511627776 := fun k l h => by have := upTo_len h; omega
  have HS := Lib.hid hs
  have HL := Lib.hid hlens
  clear hs hlens
  go_enter Try.func46, Try.ntmps46
  go_wp2
  clear hmm
  go_loopw [14] (fun i wr => ∃ k : Nat, k ≤ ls.length ∧ i = .int .i64 k ∧ Below w.heap.size w wr ∧ w.heap.size < wr.heap.size ∧ JoinOk (upTo ls k) ∧ ∃ D : DataW H, MapIs D (upTo ls k) ∧ wr.ownsMap Try.prog 9 (plainElem Try.prog 2) w.heap.size (upTo ls k).length D)
    (fun i _ => ls.length - (intOf i).toNat)
  case atStart => exact ⟨0, Nat.zero_le _, rfl, (Below.refl _ _).alloc (Nat.le_refl _) _, by simp, joinOk_nil, _, mapIs_nil, World.ownsMap_made _ _ _ _⟩
  case round =>
    obtain ⟨k, hk, rfl, hbr, hlt0, hok, D, hm, hown⟩ := hrel
    by_cases hlt : k < ls.length
    · obtain ⟨l, hl⟩ : ∃ l, ls[k]? = some l := ⟨_, List.getElem?_eq_getElem hlt⟩
      obtain ⟨ad, Ai, ci, rfl, hab, hcellw, hci, hli⟩ := hr.get hl
      have hcell := (hbr.cell (p := ad.add k) (by rw [addr_block]; exact hab)).trans hcellw
      clear hcellw
      have hll := HL.out k l hl
      have hul := upTo_len hl
      have HLK := Lib.hid hl
      clear hl
      obtain ⟨wo, rfl⟩ : ∃ wo : World, wo = wr := ⟨_, rfl⟩
      go_wp2
      go_loopw [20] (fun i wr => ∃ j : Nat, j ≤ l.length ∧ i = .int .i64 j ∧ Below w.heap.size w wr ∧ w.heap.size < wr.heap.size ∧ JoinOk (upTo ls k ++ l.take j) ∧ ∃ D : DataW H, MapIs D (upTo ls k ++ l.take j) ∧ wr.ownsMap Try.prog 9 (plainElem Try.prog 2) w.heap.size ((upTo ls k).length + j) D)
        (fun i _ => l.length - (intOf i).toNat)
      case atStart => exact ⟨0, Nat.zero_le _, rfl, hbr, hlt0, by simpa using hok, D, by simpa using hm, hown⟩
      case round =>
        obtain ⟨j, hj, rfl, hbi, hlti, hoki, Di, hmi, howni⟩ := hrel
        by_cases hjl : j < l.length
        · obtain ⟨p, hp⟩ : ∃ p, l[j]? = some p := ⟨_, List.getElem?_eq_getElem hjl⟩
          obtain ⟨ap, rfl, hapb, hc0⟩ := (hli.below hbi).get (pcells_item l j p hp)
          obtain ⟨ap', hap, _, hc1⟩ := (hli.below hbi).get (pcells_qty l j p hp)
          obtain rfl : ap = ap' := by simpa using hap
          rw [← addr_add] at hc1
          have hc1 : wr.cell? ⟨(ap.add (j * 2)).block, (ap.add (j * 2)).off + 1, none⟩ = some (.int .i64 p.2) := hc1
          have hpl : p.1.length ≤ maxLen := by
            have h1 : p ∈ ls.flatten := by obtain ⟨m, hm⟩ := upTo_split HLK.out hp; rw [hm]; simp
            exact (HS.out p h1).1
          have HP := Lib.hid hp
          clear hp hap
          go_wp2_with (first
            | (at_lookup; refine wpList_lookup_own_int _ rfl _ _ 55 rfl 9 2 .i64 skeyed Try.underlying55 Try.underlying2 (zero64 _) w.heap.size ((upTo ls k).length + j) Di rfl (howni.alloc _) _ _ rfl (key_of p.1 hpl) ?_; intro c hat hwc; obtain rfl : tot p.1 (upTo ls k ++ l.take j) = c := by (rw [hmi.at_] at hat; simpa using hat))
            | (go_at_call 44; ((with_reducible refine (add_any (tot p.1 (upTo ls k ++ l.take j)) p.2 _).mono ?_); rintro e w' ⟨rfl, rfl⟩))
            | (at_mapUpdate; refine wpList_mapUpdate_own _ rfl _ _ _ 55 rfl 9 2 skeyed Try.underlying55 (plainElem Try.prog 2) w.heap.size ((upTo ls k).length + j) Di rfl (howni.alloc _) (by unfold maxLen; omega) _ _ _ rfl rfl (key_of p.1 hpl) (.lit (.int .i64 (addV (tot p.1 (upTo ls k ++ l.take j)) p.2))) [] (plainElem_int Try.underlying2 (wf_addV _ _)) ?_; intro w2 hown2 hg2))
          · have hno : ¬ JoinOk ls.flatten := by
              obtain ⟨m, hm⟩ := upTo_split HLK.out HP.out
              rw [hm]
              exact not_joinOk_snoc (by simp_all)
            go_ret2
            exact JoinPost.no hno (hbi.alloc hbi.size _)
          · have ha : addB (tot p.1 (upTo ls k ++ l.take j)) p.2 = true := by simp_all
            have e1 : upTo ls k ++ l.take (j + 1) = (upTo ls k ++ l.take j) ++ [p] := by rw [List.take_add_one, HP.out]; simp
            have e2 : addV (tot p.1 (upTo ls k ++ l.take j)) p.2 = tot p.1 (upTo ls k ++ l.take j) + p.2 := by unfold addV; rw [if_pos ha]
            rw [e2] at hown2
            have hj1 := joinOk_of_add hoki ha
            have hm1 := hmi.step p
            rw [← e1] at hj1 hm1
            have hb2 : Below w.heap.size w w2 := (hbi.alloc hbi.size _).grown hg2 (by simp only [World.size_alloc]; omega) (fun j hj => by cases hj; exact Nat.le_refl _)
            have hz2 := hg2.size
            simp only [World.size_alloc] at hz2
            have HE := Lib.hid e1
            have HF := Lib.hid e2
            have HA := Lib.hid ha
            clear e1 e2 ha
            go_roundw
            case rel => exact ⟨j + 1, by omega, by go_num, hb2, by omega, hj1, _, hm1, hown2⟩
            case measure => simp [intOf]; omega
        · obtain rfl : j = l.length := by omega
          rw [List.take_of_length_le (Nat.le_refl _), ← upTo_succ HLK.out] at hoki hmi
          have hlen1 : (upTo ls (k + 1)).length = (upTo ls k).length + l.length := by rw [upTo_succ HLK.out, List.length_append]
          rw [← hlen1] at howni
          have HN := Lib.hid hlen1
          clear hlen1
          go_wp2
          go_roundw
          case rel => exact ⟨k + 1, by omega, by go_num, hbi, hlti, hoki, Di, hmi, howni⟩
          case measure => simp [intOf]; omega
    · obtain rfl : k = ls.length := by omega
      rw [upTo_all] at hok hm hown
      go_wp2_with (go_at_call 56; ((with_reducible refine (rising_tot w.heap.size ls.flatten.length D ls.flatten wr hown hlen hm).mono ?_); rintro e w' ⟨v, out, rfl, hj, hol, hrow, hb⟩))
      go_ret2
      exact JoinPost.yes hok hj hol (base_less hrow (by omega)) (hbr.trans (hb.mono (by omega)))
end Go.Proofs.Ytkdcpnbfeagggaa
end
