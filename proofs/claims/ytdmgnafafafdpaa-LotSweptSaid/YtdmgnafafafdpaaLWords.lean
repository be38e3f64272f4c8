/- Words for memory: lots as cells, lists of lots that lie somewhere. No walk. -/
import Derived.Test.YtdmgnafafafdpaaCRight
import Derived.Below
import Derived.Laws.OwnMore
import Derived.Deep.Draws
namespace Go.Proofs.Ytdmgnafafafdpaa
open Go.RowKit
set_option linter.unusedVariables false

theorem addr_block (a : Addr) (n : Nat) : (a.add n).block = a.block := by unfold Addr.add; split <;> rfl
theorem addr_add (a : Addr) (i j : Nat) : (a.add i).add j = a.add (i + j) := by
  by_cases hi : i = 0
  · subst hi; simp [Addr.add]
  · by_cases hj : j = 0
    · subst hj; simp [Addr.add]
    · unfold Addr.add; simp [hi, hj, Nat.add_assoc]
theorem addr0 (g k : Nat) : (⟨g, 0, none⟩ : Addr).add k = ⟨g, k, none⟩ := by unfold Addr.add; split <;> simp_all

/-- From A on lie the cells xs, below block B. (Of no cells nothing is asked.) -/
def Lies (w : World) (B : Nat) (A : Option Addr) (xs : List Value) : Prop :=
  xs ≠ [] → ∃ ad, A = some ad ∧ ad.block < B ∧ ∀ j u, xs[j]? = some u → w.cell? (ad.add j) = some u

section
variable {w w' : World} {B B' : Nat} {A : Option Addr} {xs : List Value}
theorem Lies.none : Lies w B A [] := fun h => absurd rfl h
theorem Lies.keep (h : Lies w B A xs) (hk : ∀ p : Addr, p.block < B → w'.cell? p = w.cell? p) : Lies w' B A xs := fun hne => by
  obtain ⟨ad, hA, hb, hc⟩ := h hne
  exact ⟨ad, hA, hb, fun j u hu => (hk _ (by rw [addr_block]; exact hb)).trans (hc j u hu)⟩
theorem Lies.mono (h : Lies w B A xs) (hB : B ≤ B') : Lies w B' A xs := fun hne => by
  obtain ⟨ad, hA, hb, hc⟩ := h hne
  exact ⟨ad, hA, Nat.lt_of_lt_of_le hb hB, hc⟩
theorem Lies.below (h : Lies w B A xs) (hb : Below B w w') : Lies w' B A xs := h.keep fun _ hp => hb.cell hp
theorem Lies.get (h : Lies w B A xs) {j : Nat} {u : Value} (hj : xs[j]? = some u) : ∃ ad, A = some ad ∧ ad.block < B ∧ w.cell? (ad.add j) = some u := by
  obtain ⟨ad, hA, hb, hc⟩ := h (by rintro rfl; simp at hj)
  exact ⟨ad, hA, hb, hc j u hj⟩
theorem Lies.take_ (h : Lies w B A xs) (k : Nat) : Lies w B A (xs.take k) := fun hne => by
  obtain ⟨ad, rfl, hb, hc⟩ := h (by rintro rfl; simp at hne)
  exact ⟨ad, rfl, hb, fun j u hu => hc j u (by
    rw [List.getElem?_take] at hu
    split at hu
    · exact hu
    · cases hu)⟩
/-- What the call owns lies. -/
theorem Lies.own {base e size n c : Nat} (h : w.ownsRow base e size (.slice A n c) n xs) : Lies w w.heap.size A xs := fun hne => by
  have hlt := h.lt
  have hcells := h.cells (g := (Value.slice A n c).ownBlock.getD 0)
  rcases h.2 with ⟨hv, rfl⟩ | ⟨g, cap, cur, hv, _, hh, _⟩
  · exact absurd (List.eq_nil_of_length_eq_zero (by simpa using h.1)) hne
  · injection hv with hA
    subst hA
    exact ⟨_, rfl, (hlt g rfl).2, h.cells (g := g) rfl⟩
end

theorem own_form {w : World} {base e size n : Nat} {v : Value} {xs : List Value} (h : w.ownsRow base e size v n xs) : ∃ A c, v = .slice A n c ∧ n ≤ c ∧ c ≤ maxLen ∧ (A = none → c = 0) := by
  rcases h.2 with ⟨hv, rfl⟩ | ⟨g, cap, cur, hv, _, _, h1, h2, _⟩
  · exact ⟨none, 0, hv, Nat.le_refl _, by simp [maxLen], fun _ => rfl⟩
  · exact ⟨_, _, hv, h1, h2, fun h => by cases h⟩

/-! ### lots -/
structure Lt where
  id : Int
  item : List UInt8
  fr : Int
  un : Int
  qty : Int
  arr : Bool
theorem Lt.ext_ {a b : Lt} (h1 : a.id = b.id) (h2 : a.item = b.item) (h3 : a.fr = b.fr) (h4 : a.un = b.un) (h5 : a.qty = b.qty) (h6 : a.arr = b.arr) : a = b := by
  cases a; cases b; simp_all
instance : DecidableEq Lt := fun a b =>
  if h : a.id = b.id ∧ a.item = b.item ∧ a.fr = b.fr ∧ a.un = b.un ∧ a.qty = b.qty ∧ a.arr = b.arr then isTrue (Lt.ext_ h.1 h.2.1 h.2.2.1 h.2.2.2.1 h.2.2.2.2.1 h.2.2.2.2.2)
  else isFalse (fun e => h (by subst e; exact ⟨rfl, rfl, rfl, rfl, rfl, rfl⟩))
instance : Inhabited Lt := ⟨⟨0, [], 0, 0, 0, false⟩⟩

abbrev strV (s : List UInt8) : Value := .string ⟨s.toArray⟩
def encL (x : Lt) : List Value := [.int .i64 x.id, strV x.item, .int .i64 x.fr, .int .i64 x.un, .int .i64 x.qty, .bool x.arr]
theorem encL_length (x : Lt) : (encL x).length = 6 := rfl
theorem encL_one (x : Lt) : ∀ v ∈ encL x, v.oneCell' = true := fun v hv => by
  simp only [encL, List.mem_cons, List.not_mem_nil, or_false] at hv
  rcases hv with rfl | rfl | rfl | rfl | rfl | rfl <;> rfl
/-- A lot as it is handed by value. -/
abbrev aggL (x : Lt) : Value := .agg #[.int .i64 x.id, strV x.item, .int .i64 x.fr, .int .i64 x.un, .int .i64 x.qty, .bool x.arr]

def lcells : List Lt → List Value
  | [] => []
  | x :: l => encL x ++ lcells l
theorem lcells_length : ∀ l : List Lt, (lcells l).length = l.length * 6
  | [] => rfl
  | x :: l => by simp [lcells, encL_length, lcells_length l]; omega
theorem lcells_append : ∀ l m : List Lt, lcells (l ++ m) = lcells l ++ lcells m
  | [], m => rfl
  | x :: l, m => by simp [lcells, lcells_append l m]
theorem lcells_get : ∀ (l : List Lt) (k : Nat) (x : Lt), l[k]? = some x → ∀ c, c < 6 → (lcells l)[k * 6 + c]? = (encL x)[c]?
  | [], k, x, h, c, hc => by simp at h
  | y :: l, 0, x, h, c, hc => by
    simp at h; subst h
    simp only [lcells, Nat.zero_mul, Nat.zero_add]
    rw [List.getElem?_append_left (by simpa [encL_length] using hc)]
  | y :: l, k + 1, x, h, c, hc => by
    have := lcells_get l k x (by simpa using h) c hc
    rw [show (k + 1) * 6 + c = (encL y).length + (k * 6 + c) by rw [encL_length]; omega]
    simp only [lcells]
    rw [List.getElem?_append_right (by omega), Nat.add_sub_cancel_left]
    exact this
theorem lcells_one : ∀ (l : List Lt), ∀ u ∈ lcells l, u.oneCell' = true
  | [], u, h => by simp [lcells] at h
  | x :: l, u, h => by
    simp only [lcells, List.mem_append] at h
    rcases h with h | h
    · exact encL_one x u h
    · exact lcells_one l u h
theorem lcells_take (l : List Lt) (k : Nat) (hk : k ≤ l.length) : (lcells l).take (k * 6) = lcells (l.take k) := by
  have h := lcells_append (l.take k) (l.drop k)
  rw [List.take_append_drop] at h
  rw [h, List.take_append_of_le_length (by rw [lcells_length, List.length_take]; omega), List.take_of_length_le (by rw [lcells_length, List.length_take]; omega)]

/-- A slice value that reads as lots. -/
def LSl (w : World) (B : Nat) (v : Value) (l : List Lt) : Prop := ∃ A c, v = .slice A l.length c ∧ l.length ≤ c ∧ c ≤ maxLen ∧ (A = none → c = 0) ∧ Lies w B A (lcells l)
theorem LSl.below {w w' : World} {B : Nat} {v : Value} {l : List Lt} (h : LSl w B v l) (hb : Below B w w') : LSl w' B v l := by
  obtain ⟨A, c, h1, h2, h3, hz, h4⟩ := h
  exact ⟨A, c, h1, h2, h3, hz, h4.below hb⟩
theorem LSl.mono {w : World} {B B' : Nat} {v : Value} {l : List Lt} (h : LSl w B v l) (hB : B ≤ B') : LSl w B' v l := by
  obtain ⟨A, c, h1, h2, h3, hz, h4⟩ := h
  exact ⟨A, c, h1, h2, h3, hz, h4.mono hB⟩
theorem LSl.own {w : World} {base e : Nat} {v : Value} {l : List Lt} (h : w.ownsRow base e 6 v l.length (lcells l)) : LSl w w.heap.size v l := by
  obtain ⟨A, c, rfl, h1, h2, hz⟩ := own_form h
  exact ⟨A, c, rfl, h1, h2, hz, Lies.own h⟩
theorem LSl.nil {w : World} {B : Nat} : LSl w B (.slice none 0 0) [] := ⟨none, 0, rfl, Nat.le_refl _, by simp [maxLen], fun _ => rfl, Lies.none⟩
theorem LSl.at_ {w W : World} {v : Value} {l : List Lt} (h : LSl w w.heap.size v l) (hb : Below w.heap.size w W) : LSl W W.heap.size v l := (h.below hb).mono hb.size

/-- The six cells of a lot, at p and behind it. -/
def Six (w : World) (p : Addr) (x : Lt) : Prop :=
  w.cell? p = some (.int .i64 x.id) ∧ w.cell? ⟨p.block, p.off + 1, none⟩ = some (strV x.item) ∧ w.cell? ⟨p.block, p.off + 2, none⟩ = some (.int .i64 x.fr) ∧
  w.cell? ⟨p.block, p.off + 3, none⟩ = some (.int .i64 x.un) ∧ w.cell? ⟨p.block, p.off + 4, none⟩ = some (.int .i64 x.qty) ∧ w.cell? ⟨p.block, p.off + 5, none⟩ = some (.bool x.arr)
theorem addr_up (p : Addr) (c : Nat) (hc : c ≠ 0) : p.add c = ⟨p.block, p.off + c, none⟩ := by unfold Addr.add; rw [if_neg hc]
theorem Lies.six {w : World} {B : Nat} {A : Option Addr} {l : List Lt} (h : Lies w B A (lcells l)) {k : Nat} {x : Lt} (hk : l[k]? = some x) :
    ∃ ad, A = some ad ∧ ad.block < B ∧ Six w (ad.add (k * 6)) x := by
  have hlt := (List.getElem?_eq_some_iff.1 hk).1
  obtain ⟨ad, hA, hb, hc⟩ := h (by intro e; have := lcells_length l; rw [e] at this; simp at this; omega)
  have g : ∀ c u, c < 6 → (encL x)[c]? = some u → w.cell? ((ad.add (k * 6)).add c) = some u := fun c u hc6 hu => by
    rw [addr_add]
    exact hc _ u (by rw [lcells_get l k x hk c hc6]; exact hu)
  refine ⟨ad, hA, hb, ?_, ?_, ?_, ?_, ?_, ?_⟩
  · have := g 0 _ (by omega) rfl; simpa [Addr.add] using this
  · have := g 1 _ (by omega) rfl; rwa [addr_up _ _ (by omega)] at this
  · have := g 2 _ (by omega) rfl; rwa [addr_up _ _ (by omega)] at this
  · have := g 3 _ (by omega) rfl; rwa [addr_up _ _ (by omega)] at this
  · have := g 4 _ (by omega) rfl; rwa [addr_up _ _ (by omega)] at this
  · have := g 5 _ (by omega) rfl; rwa [addr_up _ _ (by omega)] at this
theorem Six.below {w w' : World} {B : Nat} {p : Addr} {x : Lt} (h : Six w p x) (hp : p.block < B) (hb : Below B w w') : Six w' p x := by
  obtain ⟨a, b, c, d, e, f⟩ := h
  exact ⟨(hb.cell hp).trans a, (hb.cell (p := ⟨p.block, p.off + 1, none⟩) hp).trans b, (hb.cell (p := ⟨p.block, p.off + 2, none⟩) hp).trans c, (hb.cell (p := ⟨p.block, p.off + 3, none⟩) hp).trans d, (hb.cell (p := ⟨p.block, p.off + 4, none⟩) hp).trans e, (hb.cell (p := ⟨p.block, p.off + 5, none⟩) hp).trans f⟩

/-- A lot whose fields a program can hold. -/
def Lt.Fits (x : Lt) : Prop := -9223372036854775808 ≤ x.id ∧ x.id ≤ 9223372036854775807 ∧ x.item.length ≤ maxLen ∧ -9223372036854775808 ≤ x.fr ∧ x.fr ≤ 9223372036854775807 ∧ -9223372036854775808 ≤ x.un ∧ x.un ≤ 9223372036854775807 ∧ -9223372036854775808 ≤ x.qty ∧ x.qty ≤ 9223372036854775807
def Sized (l : List Lt) : Prop := ∀ x ∈ l, x.Fits

theorem below_draws {B : Nat} {a w : World} (h : Below B a w) (n : Nat) : Below B a (w.drewN n) := ⟨h.os, h.tape, h.output, h.size, h.block⟩
theorem fresh_cell (w : World) (cs : Array Value) (t : TypeId) (j : Nat) : (w.alloc (.cells cs t)).cell? ((⟨w.heap.size, 0, none⟩ : Addr).add j) = cs[j]? := by
  have e : (⟨w.heap.size, 0, none⟩ : Addr).add j = ⟨w.heap.size, j, none⟩ := addr0 _ _
  rw [e, cell_of_row _ _ _ _ _ _ (heap_alloc_new w _)]
/-- What is made lies. -/
theorem Lies.fresh (w : World) (cs : Array Value) (t : TypeId) (xs : List Value) (h : cs.toList = xs) : Lies (w.alloc (.cells cs t)) (w.heap.size + 1) (some ⟨w.heap.size, 0, Option.none⟩) xs := fun _ =>
  ⟨_, rfl, Nat.lt_succ_self _, fun j u hu => by rw [fresh_cell, ← hu, ← h, Array.getElem?_toList]⟩
theorem Lies.alloc_ {w : World} {B : Nat} {A : Option Addr} {xs : List Value} (h : Lies w B A xs) (hB : B ≤ w.heap.size) (o : Obj) : Lies (w.alloc o) B A xs := h.below ((Below.refl _ _).alloc hB o)
theorem LSl.alloc_ {w : World} {B : Nat} {v : Value} {l : List Lt} (h : LSl w B v l) (hB : B ≤ w.heap.size) (o : Obj) : LSl (w.alloc o) B v l := h.below ((Below.refl _ _).alloc hB o)
end Go.Proofs.Ytdmgnafafafdpaa
