/- Texts of this proof, one behind the other. -/
import Derived.Sort.OwnSortedInts
import Derived.Handy
import Derived.Laws.EntriesVeiled
import Derived.Outline
import Derived.Laws.StructEq
import Derived.Deep.QuietTactic
import Derived.BigQuiet
import Derived.Deep.RegionHeld3
import Derived.Test.YtepkmgmooadbjaaGreatB01
import Derived.Test.YtepkmgmooadbjaaGreatB02
section
/- What is sorted, and stays where it stood among its likes, is one list alone. No walk. -/
namespace Go.Proofs.YtepkmgmooadbjaaGreat
open Go.Sort Go.Proofs
set_option linter.unusedVariables false

theorem cmpI_rng (a b : Int) : cmpI a b = -1 ∨ cmpI a b = 0 ∨ cmpI a b = 1 := by
  rcases cmpI_cases a b with ⟨_, e⟩ | ⟨_, e⟩ | ⟨_, e⟩ <;> simp [e]
/-- x stands ahead of y. -/
theorem cmpL_neg (x y : Lt) : cmpL x y < 0 ↔ x.rank < y.rank ∨ (x.rank = y.rank ∧ x.id < y.id) := by
  unfold cmpL
  rcases cmpI_cases x.rank y.rank with ⟨h, e⟩ | ⟨h, e⟩ | ⟨h, e⟩ <;> rcases cmpI_cases x.id y.id with ⟨h', e'⟩ | ⟨h', e'⟩ | ⟨h', e'⟩ <;> rw [e, e'] <;> simp <;> omega
theorem cmpL_zero (x y : Lt) : cmpL x y = 0 ↔ x.rank = y.rank ∧ x.id = y.id := by
  unfold cmpL
  rcases cmpI_cases x.rank y.rank with ⟨h, e⟩ | ⟨h, e⟩ | ⟨h, e⟩ <;> rcases cmpI_cases x.id y.id with ⟨h', e'⟩ | ⟨h', e'⟩ | ⟨h', e'⟩ <;> rw [e, e'] <;> simp <;> omega
theorem cmpL_pos (x y : Lt) : 0 < cmpL x y ↔ y.rank < x.rank ∨ (y.rank = x.rank ∧ y.id < x.id) := by
  unfold cmpL
  rcases cmpI_cases x.rank y.rank with ⟨h, e⟩ | ⟨h, e⟩ | ⟨h, e⟩ <;> rcases cmpI_cases x.id y.id with ⟨h', e'⟩ | ⟨h', e'⟩ | ⟨h', e'⟩ <;> rw [e, e'] <;> simp <;> omega
theorem cmpL_rng (x y : Lt) : cmpL x y = -1 ∨ cmpL x y = 0 ∨ cmpL x y = 1 := by
  unfold cmpL
  rcases cmpI_cases x.rank y.rank with ⟨h, e⟩ | ⟨h, e⟩ | ⟨h, e⟩ <;> rcases cmpI_cases x.id y.id with ⟨h', e'⟩ | ⟨h', e'⟩ | ⟨h', e'⟩ <;> rw [e, e'] <;> simp

abbrev Ix := Lt × Nat
def cfP (p q : Ix) : Int := cmpL p.1 q.1
def ltP (p q : Ix) : Bool := decide (cmpL p.1 q.1 < 0 ∨ (cmpL p.1 q.1 = 0 ∧ p.2 < q.2))
theorem ltP_true {p q : Ix} : ltP p q = true ↔ p.1.rank < q.1.rank ∨ (p.1.rank = q.1.rank ∧ (p.1.id < q.1.id ∨ (p.1.id = q.1.id ∧ p.2 < q.2))) := by
  unfold ltP
  rw [decide_eq_true_iff, cmpL_neg, cmpL_zero]
  omega
theorem ltP_false {p q : Ix} : ltP p q = false ↔ ¬ (p.1.rank < q.1.rank ∨ (p.1.rank = q.1.rank ∧ (p.1.id < q.1.id ∨ (p.1.id = q.1.id ∧ p.2 < q.2)))) := by
  rw [← ltP_true]; simp
theorem swoP : SWO ltP where
  irrefl x := by rw [ltP_false]; omega
  trans x y z h1 h2 := by rw [ltP_true] at *; omega
  ntrans x y z h1 h2 := by rw [ltP_false] at *; omega

/-- out is l, sorted, likes as they stood. -/
def Stab (l out : List Lt) : Prop := ∃ P : List Ix, P.map Prod.fst = out ∧ P.Perm l.zipIdx ∧ P.Pairwise (fun p q => ltP q p = false)
theorem Stab.perm {l out : List Lt} (h : Stab l out) : out.Perm l := by
  obtain ⟨P, rfl, h2, _⟩ := h
  have := h2.map Prod.fst
  rwa [List.zipIdx_map_fst] at this
theorem Stab.length {l out : List Lt} (h : Stab l out) : out.length = l.length := h.perm.length_eq
theorem zip_inj {l : List Lt} {p q : Ix} (hp : p ∈ l.zipIdx) (hq : q ∈ l.zipIdx) (h : p.2 = q.2) : p = q := by
  have h1 := List.mem_zipIdx_iff_getElem?.1 hp
  have h2 := List.mem_zipIdx_iff_getElem?.1 hq
  rw [h, h2] at h1
  exact Prod.ext (Option.some.inj h1).symm h
theorem Stab.unique {l o1 o2 : List Lt} (h1 : Stab l o1) (h2 : Stab l o2) : o1 = o2 := by
  obtain ⟨P, rfl, p1, s1⟩ := h1
  obtain ⟨Q, rfl, p2, s2⟩ := h2
  have e : P = Q := List.Perm.eq_of_pairwise (le := fun p q => ltP q p = false) (fun a b ha hb hab hba => by
    refine zip_inj (p1.mem_iff.1 ha) (p2.mem_iff.1 hb) ?_
    rw [ltP_false] at hab hba
    omega) s1 s2 (p1.trans p2.symm)
  rw [e]
theorem stab_nil : Stab [] [] := ⟨[], rfl, List.Perm.refl _, List.Pairwise.nil⟩
/-- What is sorted is sorted. -/
theorem Stab.pairs {l out : List Lt} (h : Stab l out) : out.Pairwise (fun a b => cmpL a b ≤ 0) := by
  obtain ⟨P, rfl, _, s⟩ := h
  rw [List.pairwise_map]
  refine s.imp fun {p q} hpq => ?_
  rw [ltP_false] at hpq
  have := cmpL_pos p.1 q.1
  omega
theorem stab_self {out : List Lt} (h : out.Pairwise (fun a b => cmpL a b ≤ 0)) : Stab out out := by
  refine ⟨out.zipIdx, List.zipIdx_map_fst _ _, List.Perm.refl _, ?_⟩
  rw [List.pairwise_iff_getElem] at h ⊢
  intro i j hi hj hij
  rw [List.getElem_zipIdx, List.getElem_zipIdx, ltP_false]
  have h1 := h i j (by simpa using hi) (by simpa using hj) hij
  have h2 := cmpL_pos (out[i]'(by simpa using hi)) (out[j]'(by simpa using hj))
  simp only
  omega

/-- The rows that the sort works on. -/
def rowOf (l : List Lt) : Array Ix := l.zipIdx.toArray
theorem rowOf_size (l : List Lt) : (rowOf l).size = l.length := by simp [rowOf]
theorem rowOf_agree (l : List Lt) : ∀ i j, i < j → j < (rowOf l).size → ltOf cfP (rowOf l)[j]! (rowOf l)[i]! = ltP (rowOf l)[j]! (rowOf l)[i]! := fun i j hij hj => by
  rw [rowOf_size] at hj
  have g : ∀ k, k < l.length → ((rowOf l)[k]!).2 = k := fun k hk => by
    rw [getElem!_pos (rowOf l) k (by rw [rowOf_size]; exact hk)]
    simp [rowOf]
  unfold ltP ltOf cfP
  rw [g j hj, g i (by omega)]
  congr 1
  apply propext
  constructor
  · exact .inl
  · rintro (h | h)
    · exact h
    · omega
theorem stab_of {l : List Lt} {d : Array Ix} (hp : PermIn 0 (rowOf l).size (rowOf l) d) (hs : SortedIn ltP 0 (rowOf l).size d) : Stab l (d.toList.map Prod.fst) := by
  have hz := hp.1
  refine ⟨d.toList, rfl, ?_, ?_⟩
  · have h := hp.2.2
    rw [← hz, Array.extract_size, hz, Array.extract_size] at h
    exact h
  · rw [List.pairwise_iff_getElem]
    intro i j hi hj hij
    have h := hs i j (Nat.zero_le _) hij (by rw [← hz]; simpa using hj)
    rw [getElem!_pos d i (by simpa using hi), getElem!_pos d j (by simpa using hj)] at h
    simpa using h
end Go.Proofs.YtepkmgmooadbjaaGreat
end
section
/- Boxes that hold a line. -/
namespace Go.Proofs.YtepkmgmooadbjaaGreat
open Go.RowKit
set_option linter.unusedVariables false

theorem infoLot : (Tryz.prog.info? 37).map (fun i => (i.zero, i.size, i.bytes)) = some (some (.agg #[.int .i64 0, .string ⟨#[]⟩, .int .i64 0, .int .i64 0, .int .i64 0, .int .u8 0, .int .i64 0, .string ⟨#[]⟩]), 8, 80) := by kernel_rfl

/-- A block that holds one lot. -/
def Box6 (W : World) (B : Nat) (x : Lt) : Prop := W.heap[B]? = some (.cells #[.int .i64 x.id, .string ⟨x.item.toArray⟩, .int .i64 x.qty, .int .i64 x.asked, .int .i64 x.rank, .int .u8 x.state, .int .i64 x.day, .string ⟨x.code.toArray⟩] 37 (0, 0))
theorem Box6.new (W : World) (x : Lt) : Box6 (W.alloc (.cells #[.int .i64 x.id, .string ⟨x.item.toArray⟩, .int .i64 x.qty, .int .i64 x.asked, .int .i64 x.rank, .int .u8 x.state, .int .i64 x.day, .string ⟨x.code.toArray⟩] 37)) W.heap.size x := heap_alloc_new W _
theorem Box6.lt {W : World} {B : Nat} {x : Lt} (h : Box6 W B x) : B < W.heap.size := (Array.getElem?_eq_some_iff.1 h).1
theorem Box6.cells {W : World} {B : Nat} {x : Lt} (h : Box6 W B x) : W.cell? ⟨B, 0, none⟩ = some (.int .i64 x.id) ∧ W.cell? ⟨B, 1, none⟩ = some (.string ⟨x.item.toArray⟩) ∧ W.cell? ⟨B, 2, none⟩ = some (.int .i64 x.qty) ∧ W.cell? ⟨B, 3, none⟩ = some (.int .i64 x.asked) ∧ W.cell? ⟨B, 4, none⟩ = some (.int .i64 x.rank) ∧ W.cell? ⟨B, 5, none⟩ = some (.int .u8 x.state) ∧ W.cell? ⟨B, 6, none⟩ = some (.int .i64 x.day) ∧ W.cell? ⟨B, 7, none⟩ = some (.string ⟨x.code.toArray⟩) := by
  unfold Box6 at h
  refine ⟨?_, ?_, ?_, ?_, ?_, ?_, ?_, ?_⟩ <;> rw [cell_of_row _ _ _ _ _ _ h] <;> rfl
theorem six_new (W : World) (x : Lt) (t : TypeId) : ∀ (j : Nat) (u : Value), (encL x)[j]? = some u → (W.alloc (.cells #[.int .i64 x.id, .string ⟨x.item.toArray⟩, .int .i64 x.qty, .int .i64 x.asked, .int .i64 x.rank, .int .u8 x.state, .int .i64 x.day, .string ⟨x.code.toArray⟩] t)).cell? ((⟨W.heap.size, 0, none⟩ : Addr).add j) = some u := by
  intro j u h
  rw [fresh_cell, ← h, ← Array.getElem?_toList]
  rfl

end Go.Proofs.YtepkmgmooadbjaaGreat
end
section
/- slices.SortStableFunc over lines. -/
namespace Go.Proofs.YtepkmgmooadbjaaGreat
open Go.ChangeShapes Go.WideShapes Go.ChangeAt Go.RowKit Go.Shelf Go.Lib Go.Sort Go.Proofs
set_option linter.unusedVariables false

def encP (p : Ix) : List Value := encL p.1
theorem encP_length (p : Ix) : (encP p).length = 8 := rfl
theorem encP_one (p : Ix) : ∀ v ∈ encP p, v.oneCell' = true := encL_one p.1

theorem flat_cells (d : Array Ix) : (flatK encP 8 d).toList = lcells (d.toList.map Prod.fst) := by
  apply List.ext_getElem?
  intro t
  by_cases ht : t < d.size * 8
  · have hz : t < (flatK encP 8 d).size := by simpa using ht
    rw [Array.getElem?_toList, Array.getElem?_eq_getElem hz]
    have e1 : (flatK encP 8 d)[t] = (flatK encP 8 d)[t]! := (getElem!_pos _ t hz).symm
    rw [e1, get_flatK _ _ _ _ ht]
    have hk : t / 8 < d.size := by omega
    have hx : (d.toList.map Prod.fst)[t / 8]? = some d[t / 8]!.1 := by
      rw [List.getElem?_map, Array.getElem?_toList, Array.getElem?_eq_getElem hk, getElem!_pos d _ hk]; rfl
    have := lcells_get _ _ _ hx (t % 8) (by omega)
    rw [show t / 8 * 8 + t % 8 = t by omega] at this
    rw [this]
    have hm : t % 8 < (encL d[t / 8]!.1).length := by rw [encL_length]; omega
    rw [List.getElem?_eq_getElem hm]
    unfold encP
    rw [getElem!_pos (encL d[t / 8]!.1) _ hm]
  · rw [List.getElem?_eq_none (by simp; omega), List.getElem?_eq_none (by rw [lcells_length]; simp; omega)]
theorem flat_row (l : List Lt) : (flatK encP 8 (rowOf l)).toList = lcells l := by
  rw [flat_cells]
  unfold rowOf
  rw [List.zipIdx_map_fst]

theorem holds_row {w : World} {base g n cap : Nat} {l : List Lt} (h : w.ownsRow base 37 8 (.slice (some ⟨g, 0, none⟩) n cap) n (lcells l)) (hn : n = l.length) : HoldsK encP 8 w g 0 (rowOf l) := by
  intro j hj
  have hj' : j < (lcells l).length := by rw [lcells_length]; simpa [rowOf_size] using hj
  have e1 : (flatK encP 8 (rowOf l))[j]! = (lcells l)[j] := by
    rw [getElem!_pos _ j hj]
    have : (flatK encP 8 (rowOf l)).toList[j]? = (lcells l)[j]? := by rw [flat_row]
    rw [Array.getElem?_toList, Array.getElem?_eq_getElem hj, List.getElem?_eq_getElem hj'] at this
    exact Option.some.inj this
  rw [Nat.zero_add]
  refine ⟨?_, h.frozenAt j⟩
  rw [h.cellAt j (by rw [lcells_length] at hj'; omega), List.getElem?_eq_getElem hj', e1]
  rfl

theorem heap_row {w : World} {g n : Nat} {os : Array Obj} {cur : Array Value} {e : TypeId} {fr : Nat × Nat} (d : Array Ix) (hb : w.heap[g]? = some (.cells cur e fr)) :
    (sortWorldK encP 8 w g 0 n d os).heap[g]? = some (.cells (putCells id 0 (flatK encP 8 d) cur) e fr) := by
  have hg : g < w.heap.size := (Array.getElem?_eq_some_iff.1 hb).1
  unfold sortWorldK putRowK
  rw [heap_grow_old _ _ (by simpa using hg)]
  simp [putRow, mapBlock, Sort.ahead, Array.getElem?_modify, hb, onCells]
theorem grown_row {w : World} {g n : Nat} {os : Array Obj} (d : Array Ix) : w.grownBy (sortWorldK encP 8 w g 0 n d os) (some g) := by
  unfold sortWorldK putRowK
  refine ⟨rfl, rfl, rfl, by simp, fun k hk hne => ?_⟩
  rw [heap_grow_old _ _ (by simpa using hk)]
  have : g ≠ k := fun e => hne (by rw [e])
  simp [putRow, mapBlock, Sort.ahead, Array.getElem?_modify, this]
theorem take_putV (cur ts : Array Value) (h : ts.size ≤ cur.size) : (putCells id 0 ts cur).toList.take ts.size = ts.toList := by
  apply List.ext_getElem?
  intro j
  by_cases hj : j < ts.size
  · rw [List.getElem?_take_of_lt hj, Array.getElem?_toList, Array.getElem?_toList]
    simp [putCells, hj, show j < cur.size by omega]
  · rw [List.getElem?_take_eq_none (by omega), List.getElem?_eq_none (by simp; omega)]
/-- Behind the sort the same slice owns what is sorted. -/
theorem owns_sorted {w W : World} {base g cap n : Nat} {l : List Lt} {d : Array Ix} (h : w.ownsRow base 37 8 (.slice (some ⟨g, 0, none⟩) n cap) n (lcells l)) (hn : n = l.length) (hd : d.size = n) (S : SWK encP 8 w g 0 d W) :
    W.ownsRow base 37 8 (.slice (some ⟨g, 0, none⟩) n cap) n (lcells (d.toList.map Prod.fst)) ∧ w.grownBy W (some g) := by
  obtain ⟨m, os, rfl⟩ := S
  refine ⟨?_, grown_row d⟩
  rcases h.2 with ⟨hv, _⟩ | ⟨g', cap', cur, hv, hb, hh, h1, h2, h3, h4⟩
  · cases hv
  · cases hv
    have hz : (flatK encP 8 d).size = n * 8 := by rw [size_flatK, hd]
    refine ⟨by rw [lcells_length]; simp [hd], .inr ⟨g, cap, _, rfl, hb, heap_row d hh, h1, h2, by simp [putCells, h3], ?_⟩⟩
    rw [← hz, ← flat_cells]
    exact take_putV _ _ (by rw [hz, h3]; exact Nat.mul_le_mul_right _ h1)

theorem aEL : ∀ w, (isAgg 37).run Tryz.prog w = .ok true w := Tryz.isAgg37
theorem zEL : ∀ w, (Go.sizeOf 37).run Tryz.prog w = .ok 8 w := Tryz.sizeOf37
theorem cmpP_lays (blk off size : Nat) (w : World) : CmpLays Tryz.prog 24 #[] encP 8 cfP blk off size w := fun m os dk hd x y => compare_grown x.1 y.1 _

/-- What a sort in place leaves: the row's slice owns what is sorted. -/
def SortedTo (w0 : Nat) (v : Value) (l : List Lt) (w : World) (e : Ending) (w' : World) : Prop :=
  e = .returned (.tuple #[]) ∧ ∃ out, Stab l out ∧ w'.ownsRow w0 37 8 v l.length (lcells out) ∧ Below w0 w w'

theorem stable_row (base g n cap : Nat) (l : List Lt) (w : World) (hn : n = l.length) (hlen : l.length < 1152921504606846976) (h : w.ownsRow base 37 8 (.slice (some ⟨g, 0, none⟩) n cap) n (lcells l)) :
    Calls Tryz.prog 35 #[.slice (some ⟨g, 0, none⟩) n cap, .int .i64 n, .func (.func 24) #[] #[]] w (SortedTo base (.slice (some ⟨g, 0, none⟩) n cap) l w) := by
  have hz := rowOf_size l
  have hg := (h.lt g rfl)
  have hc := stable_any 8 aEL zEL encP cfP ltP swoP 24 #[] g 0 cap (rowOf l) w (enters_of Tryz.func24 (by kernel_rfl) rfl) (cmpP_lays _ _ _ _)
    ⟨encP_length, encP_one, holds_row h hn, hg.2⟩ (by omega) (rowOf_agree l)
  rw [hz, ← hn] at hc
  refine hc.mono ?_
  rintro e w' ⟨rfl, d, S, hd, hp, hs⟩
  rw [hn, ← hz] at hp hs
  have ho := owns_sorted h hn (by rw [hd, hz, hn]) S
  refine ⟨rfl, _, stab_of hp hs, by rw [hn] at ho ⊢; exact ho.1, ?_⟩
  exact (Below.refl base w).grown ho.2 (by omega) (fun j hj => by cases hj; exact hg.1)
end Go.Proofs.YtepkmgmooadbjaaGreat
end
section
/- slices.SortStableFunc over lines. -/
namespace Go.Proofs.YtepkmgmooadbjaaGreat
open Go.ChangeShapes Go.WideShapes Go.ChangeAt Go.RowKit Go.Shelf Go.Lib Go.Sort Go.Proofs
set_option linter.unusedVariables false

theorem base_less {w : World} {base base' e size n : Nat} {v : Value} {xs : List Value} (h : w.ownsRow base e size v n xs) (hb : base' ≤ base) : w.ownsRow base' e size v n xs := by
  obtain ⟨h1, h2⟩ := h
  refine ⟨h1, ?_⟩
  rcases h2 with h2 | ⟨g, cap, cur, h3, h4, h5⟩
  · exact .inl h2
  · exact .inr ⟨g, cap, cur, h3, Nat.le_trans hb h4, h5⟩
theorem insert_nil (w : World) : Calls Tryz.prog 67 #[.slice none 0 0, .int .i64 0, .int .i64 0, .func (.func 24) #[] #[]] w fun e w' => e = .returned (.tuple #[]) ∧ w = w' := by
  go_enter Tryz.func67, Tryz.ntmps67
  go_wp2
  go_loop [8] (fun i => i = .int .i64 1) (fun _ => 0)
  case atStart => rfl
  case round =>
    obtain rfl := hrel
    go_wp2
    go_end0
    exact ⟨rfl, rfl⟩
theorem stable_nil (w : World) : Calls Tryz.prog 35 #[.slice none 0 0, .int .i64 0, .func (.func 24) #[] #[]] w fun e w' => e = .returned (.tuple #[]) ∧ w = w' := by
  go_enter Tryz.func35, Tryz.ntmps35
  go_wp2
  go_loop [7, 8] (fun a b => a = .int .i64 0 ∧ b = .int .i64 20) (fun _ _ => 0)
  case atStart => exact ⟨rfl, rfl⟩
  case round =>
    obtain ⟨rfl, rfl⟩ := hrel
    go_wp2_with (go_at_call 67; ((with_reducible refine (insert_nil _).mono ?_); rintro e w1 ⟨rfl, rfl⟩))
    go_loop [6] (fun i => i = .int .i64 20) (fun _ => 0)
    case atStart => rfl
    case round =>
      obtain rfl := hrel
      go_wp2
      go_end0
      exact ⟨rfl, rfl⟩

theorem below_own {w W : World} {base : Nat} {v : Value} {l : List Lt} (h : w.ownsRow base 37 8 v l.length (lcells l)) : (v = .slice none 0 0 ∧ l = []) ∨ ∃ g cap, v = .slice (some ⟨g, 0, none⟩) l.length cap := by
  rcases h.2 with ⟨rfl, h0⟩ | ⟨g, cap, cur, rfl, _⟩
  · exact .inl ⟨rfl, List.eq_nil_of_length_eq_zero h0⟩
  · exact .inr ⟨g, cap, rfl⟩

theorem sortStable_any (base : Nat) (v : Value) (l : List Lt) (w : World) (hlen : l.length < 1152921504606846976) (hB : base ≤ w.heap.size) (h : w.ownsRow base 37 8 v l.length (lcells l)) :
    Calls Tryz.prog 23 #[v, .func (.func 24) #[] #[]] w (SortedTo base v l w) := by
  rcases below_own (W := w) h with ⟨rfl, rfl⟩ | ⟨g, cap, rfl⟩
  · have H := Lib.hid h
    clear h
    go_enter Tryz.func23, Tryz.ntmps23
    go_wp2_with (go_at_call 35; ((with_reducible refine (stable_nil _).mono ?_); rintro e w1 ⟨rfl, rfl⟩))
    go_end0
    exact ⟨rfl, [], stab_nil, H.out, Below.refl _ _⟩
  · have hc := stable_row base g l.length cap l w rfl hlen h
    have HC := Lib.hid hc
    clear hc h
    go_enter Tryz.func23, Tryz.ntmps23
    go_wp2_with (go_at_call 35; ((with_reducible refine HC.out.mono ?_); rintro e w1 ⟨rfl, hx⟩; have HX := Lib.hid hx; clear hx))
    go_end0
    exact ⟨rfl, HX.out⟩

/-- What is told of a list, sorted: lots of its own memory. -/
def SortsTo (l : List Lt) (w : World) (e : Ending) (w' : World) : Prop := ∃ v out, e = .returned v ∧ Stab l out ∧ w'.ownsRow w.heap.size 37 8 v out.length (lcells out) ∧ Below w.heap.size w w'

end Go.Proofs.YtepkmgmooadbjaaGreat
end
section
/- rank.keep, handed any predicate. -/
namespace Go.Proofs.YtepkmgmooadbjaaGreat
open Go.ChangeShapes Go.WideShapes Go.ChangeAt Go.RowKit Go.Shelf
set_option linter.unusedVariables false

theorem grown_below {w w' : World} {B : Nat} (h : Below B w w') (hB : w.heap.size ≤ B) : w.grownBy w' none := ⟨h.os, h.tape, h.output, h.size, fun i hi _ => h.block i (Nat.lt_of_lt_of_le hi hB)⟩
theorem row_below {w w' : World} {base e size n : Nat} {v : Value} {xs : List Value} (h : w.ownsRow base e size v n xs) (hb : Below w.heap.size w w') : w'.ownsRow base e size v n xs :=
  h.kept (grown_below hb (Nat.le_refl _)) (by cases h : v.ownBlock <;> simp)

/-- What a function that tells of a lot answers, wherever what lay below n₀ lies. -/
def Gives (g : Nat) (lb : Array Value) (p : Lt → Bool) (n₀ : Nat) (w : World) : Prop :=
  ∀ (x : Lt) (W : World), Below n₀ w W → Calls Tryz.prog g (#[.agg #[.int .i64 x.id, .string ⟨x.item.toArray⟩, .int .i64 x.qty, .int .i64 x.asked, .int .i64 x.rank, .int .u8 x.state, .int .i64 x.day, .string ⟨x.code.toArray⟩]] ++ lb) W fun e w' => e = .returned (.bool (p x)) ∧ Below W.heap.size W w'
theorem Gives.at_ {g : Nat} {lb : Array Value} {p : Lt → Bool} {n₀ : Nat} {w : World} (h : Gives g lb p n₀ w) : ∀ (x : Lt) (W : World), Below n₀ w W → Calls Tryz.prog g (#[.agg #[.int .i64 x.id, .string ⟨x.item.toArray⟩, .int .i64 x.qty, .int .i64 x.asked, .int .i64 x.rank, .int .u8 x.state, .int .i64 x.day, .string ⟨x.code.toArray⟩]] ++ lb) W fun e w' => e = .returned (.bool (p x)) ∧ Below W.heap.size W w' := h

/-- What is kept of a list: lots of its own memory. -/
def KeepsTo (out : List Lt) (w : World) (e : Ending) (w' : World) : Prop := ∃ v, e = .returned v ∧ w'.ownsRow w.heap.size 37 8 v out.length (lcells out) ∧ Below w.heap.size w w'

theorem filter_take_succ (p : Lt → Bool) {l : List Lt} {k : Nat} {x : Lt} (h : l[k]? = some x) : (l.take (k + 1)).filter p = (l.take k).filter p ++ (if p x = true then [x] else []) := by
  rw [List.take_add_one, h, List.filter_append]
  congr 1
  by_cases hp : p x = true <;> simp [hp]

set_option maxRecDepth 100000 in
set_option maxHeartbeats 2000000 in
theorem keep_any (g : Nat) (lb : Array Value) (eg : ∀ args w, (callFunc g args).run Tryz.prog w = .ok (.enter g args) w) (p : Lt → Bool) (v : Value) (l : List Lt) (B : Nat) (w : World) (hB : B ≤ w.heap.size) (hlen : l.length * 80 ≤ 140737488355328) (hv : LSl w B v l) (hp : Gives g lb p w.heap.size w) :
    Calls Tryz.prog 21 #[v, .func (.func g) #[] lb] w (KeepsTo (l.filter p) w) := by
  obtain ⟨i0, hi, hz0, hz1, hz2⟩ := info_parts infoLot
  obtain ⟨A, c, rfl, hc1, hc2, hcz, hl⟩ := id hv
  have H1 := Lib.hid hi
  have H2 := Lib.hid hz0
  have H3 := Lib.hid hz1
  have H4 := Lib.hid hz2
  have HP := Lib.hid hp
  have HL := Lib.hid hl
  have HZ := Lib.hid hlen
  have hln : l.length ≤ 1759218604441 := by omega
  clear hi hz0 hz1 hz2 hp hl hv hlen
  go_enter Tryz.func21, Tryz.ntmps21
  go_wp2
  go_loopw [5, 10] (fun s i wr => ∃ k : Nat, k ≤ l.length ∧ i = .int .i64 k ∧ Hid (wr.ownsRow w.heap.size 37 8 s ((l.take k).filter p).length (lcells ((l.take k).filter p))) ∧ Hid (Below w.heap.size w wr))
    (fun _ i _ => l.length - (intOf i).toNat)
  case atStart => exact ⟨0, Nat.zero_le _, rfl, Lib.hid (World.ownsRow_nil _ _ _ _), Lib.hid (Below.refl _ _)⟩
  case round =>
    obtain ⟨k, hk, rfl, HR, HB⟩ := hrel
    by_cases hlt : k < l.length
    · obtain ⟨x, hx⟩ : ∃ x, l[k]? = some x := ⟨_, List.getElem?_eq_getElem hlt⟩
      obtain ⟨ad, rfl, hab, hc0, hc1', hc2', hc3, hc4, hc5, hc6, hc7⟩ := (HL.out.below (HB.out.mono hB)).six hx
      have hcall := HP.out.at_ x _ (HB.out.alloc HB.out.size (.cells #[.int .i64 x.id, .string ⟨x.item.toArray⟩, .int .i64 x.qty, .int .i64 x.asked, .int .i64 x.rank, .int .u8 x.state, .int .i64 x.day, .string ⟨x.code.toArray⟩] 37))
      have HX := Lib.hid hx
      have hfl : ((l.take k).filter p).length ≤ k := Nat.le_trans (List.length_filter_le _ _) (List.length_take_le _ _)
      clear hx
      cases hpx : p x
      · rw [hpx] at hcall
        have HC := Lib.hid hcall
        have hst : Hid ((l.take (k + 1)).filter p = (l.take k).filter p) := Lib.hid (by rw [filter_take_succ p HX.out, hpx]; simp)
        clear hcall hpx
        go_wp2_with (go_at_fn g; ((with_reducible refine HC.out.mono ?_); rintro e w2 ⟨rfl, hb2'⟩; have hb2 := Lib.hid hb2'; clear hb2'))
        go_roundw
        case rel => exact ⟨k + 1, by omega, by go_num, Lib.hid (by rw [hst.out]; exact row_below (HR.out.alloc _) hb2.out), Lib.hid (HB.out.trans ((below_alloc2 _ hb2.out).mono HB.out.size))⟩
        case measure => simp [intOf]; omega
      · rw [hpx] at hcall
        have HC := Lib.hid hcall
        have hst : Hid ((l.take (k + 1)).filter p = (l.take k).filter p ++ [x]) := Lib.hid (by rw [filter_take_succ p HX.out, hpx]; simp)
        clear hcall hpx
        have hnb : Box6 (wr.alloc (.cells #[.int .i64 x.id, .string ⟨x.item.toArray⟩, .int .i64 x.qty, .int .i64 x.asked, .int .i64 x.rank, .int .u8 x.state, .int .i64 x.day, .string ⟨x.code.toArray⟩] 37)) wr.heap.size x := Box6.new wr x
        have HN := Lib.hid hnb
        clear hnb
        go_wp2_with (first
          | (go_at_fn g; ((with_reducible refine HC.out.mono ?_); rintro e w2 ⟨rfl, hb2'⟩; have hb2 := Lib.hid hb2'; clear hb2'; have hbx : Box6 w2 wr.heap.size x := (hb2.out.block wr.heap.size (by simp)).trans HN.out; obtain ⟨d0, d1, d2, d3, d4, d5, d6, d7⟩ := hbx.cells; clear hbx))
          | (at_builtin; refine wpList_append_own _ rfl _ _ 22 rfl w.heap.size 37 i0 _ 8 80 Tryz.underlying22 H1.out H2.out H3.out H4.out rfl (by decide) _ _ _ rfl ((row_below (HR.out.alloc _) hb2.out).alloc _) ⟨w2.heap.size, 0, none⟩ 1 1 (encL x) rfl rfl (six_new w2 x _) (encL_one x) (by unfold maxLen; omega) (by omega) (by have h1 := HB.out.size; have h2 := hb2.out.size; simp only [World.size_alloc] at h2 ⊢; omega) ?_; intro v' w3 hown3 hg3 _; have ho3 := Lib.hid hown3; have hG3 := Lib.hid hg3; clear hown3 hg3))
        have hb3 : Hid (Below w.heap.size w w3) := Lib.hid (by
          have h1 := HB.out.size
          have h2 := hb2.out.size
          simp only [World.size_alloc] at h2
          refine ((HB.out.trans ((below_alloc2 _ hb2.out).mono HB.out.size)).alloc (by omega) _).grown hG3.out (by simp only [World.size_alloc]; omega) (fun j hj => ?_)
          exact (HR.out.lt j hj).1)
        go_roundw
        case rel => exact ⟨k + 1, by omega, by go_num, Lib.hid (by rw [hst.out, lcells_append, List.length_append]; simpa [lcells] using ho3.out), hb3⟩
        case measure => simp [intOf]; omega
    · obtain rfl : k = l.length := by omega
      go_wp2
      go_ret
      have h := HR.out
      rw [List.take_length] at h
      exact ⟨_, rfl, h, HB.out⟩
end Go.Proofs.YtepkmgmooadbjaaGreat
end
section
/- slices.IndexFunc at lines; rank.Open, front, Ahead: what their closures tell, what they answer. Written by gen_rops.py. -/
namespace Go.Proofs.YtepkmgmooadbjaaGreat
open Go.ChangeShapes Go.WideShapes Go.ChangeAt Go.RowKit Go.Shelf
set_option linter.unusedVariables false

def idxOf {α : Type} (p : α → Bool) : List α → Int
  | [] => -1
  | x :: l => if p x = true then 0 else if idxOf p l < 0 then -1 else idxOf p l + 1
theorem idxOf_any {α : Type} (p : α → Bool) : ∀ l : List α, decide (0 ≤ idxOf p l) = l.any p
  | [] => by simp [idxOf]
  | x :: l => by
    have ih := idxOf_any p l
    unfold idxOf
    rw [List.any_cons, ← ih]
    by_cases h : p x = true
    · simp [h]
    · rw [if_neg h]
      have hf : p x = false := by simpa using h
      rw [hf, Bool.false_or]
      split
      · rename_i h2
        rw [decide_eq_false (by omega), decide_eq_false (by omega)]
      · rename_i h2
        rw [decide_eq_true (by omega), decide_eq_true (by omega)]
theorem idxOf_hit {α : Type} (p : α → Bool) : ∀ (l : List α) (k : Nat) (x : α), l[k]? = some x → p x = true → (l.take k).any p = false → idxOf p l = k
  | [], k, x, h, _, _ => by simp at h
  | y :: l, 0, x, h, hp, _ => by simp at h; subst h; simp [idxOf, hp]
  | y :: l, k + 1, x, h, hp, hn => by
    simp only [List.take_succ_cons, List.any_cons, Bool.or_eq_false_iff] at hn
    have ih := idxOf_hit p l k x (by simpa using h) hp hn.2
    unfold idxOf
    rw [if_neg (by simp [hn.1]), ih, if_neg (by omega)]
    omega
theorem idxOf_none {α : Type} (p : α → Bool) (l : List α) (h : l.any p = false) : idxOf p l = -1 := by
  have h1 := idxOf_any p l
  rw [h] at h1
  have h2 : ¬ 0 ≤ idxOf p l := of_decide_eq_false h1
  cases l with
  | nil => rfl
  | cons x l =>
    unfold idxOf at h2 ⊢
    by_cases hp : p x = true
    · rw [if_pos hp] at h2; omega
    · rw [if_neg hp] at h2 ⊢
      split
      · rfl
      · rename_i h3; rw [if_neg h3] at h2; omega
theorem any_take_succ {α : Type} (p : α → Bool) {l : List α} {k : Nat} {x : α} (h : l[k]? = some x) (h0 : (l.take k).any p = false) (hx : p x = false) : (l.take (k + 1)).any p = false := by
  rw [List.take_add_one, h, List.any_append, h0]; simp [hx]
set_option maxRecDepth 100000 in
set_option maxHeartbeats 1000000 in
theorem indexL_any (g : Nat) (lb : Array Value) (eg : ∀ args w, (callFunc g args).run Tryz.prog w = .ok (.enter g args) w) (p : Lt → Bool) (v : Value) (l : List Lt) (B : Nat) (w : World) (hB : B ≤ w.heap.size) (hlen : l.length ≤ 1099511627776) (hv : LSl w B v l) (hp : Gives g lb p w.heap.size w) :
    Calls Tryz.prog 38 #[v, .func (.func g) #[] lb] w fun e w' => e = .returned (.int .i64 (idxOf p l)) ∧ Below w.heap.size w w' := by
  obtain ⟨A, c, rfl, hc1, hc2, hcz, hl⟩ := id hv
  have HP := Lib.hid hp
  have HL := Lib.hid hl
  clear hp hl hv
  go_enter Tryz.func38, Tryz.ntmps38
  go_wp2
  go_loopw [8] (fun i wr => ∃ k : Nat, k ≤ l.length ∧ i = .int .i64 k ∧ Hid ((l.take k).any p = false) ∧ Hid (Below w.heap.size w wr)) (fun i _ => l.length - (intOf i).toNat)
  case atStart => exact ⟨0, Nat.zero_le _, rfl, Lib.hid (by simp), Lib.hid (Below.refl _ _)⟩
  case round =>
    obtain ⟨k, hk, rfl, HN, HB⟩ := hrel
    by_cases hlt : k < l.length
    · obtain ⟨x, hx⟩ : ∃ x, l[k]? = some x := ⟨_, List.getElem?_eq_getElem hlt⟩
      obtain ⟨ad, rfl, hab, hx0, hx1, hx2, hx3, hx4, hx5, hx6, hx7⟩ := (HL.out.below (HB.out.mono hB)).six hx
      have hcall := HP.out.at_ x _ HB.out
      have HX := Lib.hid hx
      clear hx
      cases hpx : p x
      · rw [hpx] at hcall
        have HC := Lib.hid hcall
        have hst : Hid ((l.take (k + 1)).any p = false) := Lib.hid (any_take_succ p HX.out HN.out hpx)
        clear hcall hpx
        go_wp2_with (go_at_fn g; ((with_reducible refine HC.out.mono ?_); rintro e w2 ⟨rfl, hb2'⟩; have hb2 := Lib.hid hb2'; clear hb2'))
        have hbn := Lib.hid (below_two HB.out hb2.out)
        clear hb2 HC
        go_roundw
        case rel => exact ⟨k + 1, by omega, by go_num, hst, hbn⟩
        case measure => simp [intOf]; omega
      · rw [hpx] at hcall
        have HC := Lib.hid hcall
        have HI := Lib.hid (idxOf_hit p l k x HX.out hpx HN.out)
        clear hcall hpx
        go_wp2_with (go_at_fn g; ((with_reducible refine HC.out.mono ?_); rintro e w2 ⟨rfl, hb2'⟩; have hb2 := Lib.hid hb2'; clear hb2'))
        go_ret
        exact ⟨by rw [HI.out]; rfl, below_two HB.out hb2.out⟩
    · obtain rfl : k = l.length := by omega
      go_wp2
      go_ret
      exact ⟨by rw [idxOf_none p l (by have := HN.out; rwa [List.take_of_length_le (Nat.le_refl _)] at this)]; rfl, HB.out⟩

def openB (x : Lt) : Bool := decide (x.state = 1)
def idB (id : Int) (x : Lt) : Bool := decide (x.id = id)
/-- The lines in front of the first one of that number. -/
def aheadL (id : Int) (out : List Lt) : List Lt := out.take (idxOf (idB id) out).toNat
theorem openc_any (x : Lt) (w : World) : Calls Tryz.prog 22 #[aggL x] w fun e w' => e = .returned (.bool (openB x)) ∧ Below w.heap.size w w' := by
  go_enter Tryz.func22, Tryz.ntmps22
  go_wp2
  go_ret
  refine ⟨ret_bool ?_, below_alloc1 _ _⟩
  unfold openB
  by_cases h : x.state = 1
  · simp [h]
  · simp [h]
theorem idc_any (id : Int) (b : Nat) (x : Lt) (w : World) (hb : w.cell? ⟨b, 0, none⟩ = some (.int .i64 id)) : Calls Tryz.prog 26 #[aggL x, .pointer (some ⟨b, 0, none⟩)] w fun e w' => e = .returned (.bool (idB id x)) ∧ Below w.heap.size w w' := by
  have hbl : b < w.heap.size := World.block_lt_of_cell? w ⟨b, 0, none⟩ hb
  go_enter Tryz.func26, Tryz.ntmps26
  go_wp2
  go_ret
  refine ⟨ret_bool ?_, below_alloc1 _ _⟩
  unfold idB
  by_cases h : x.id = id
  · simp [h]
  · simp [h]
theorem cell_at {n₀ : Nat} {w W : World} (h : Below n₀ w W) {b : Nat} {v : Value} (hb : b < n₀) (hc : w.cell? ⟨b, 0, none⟩ = some v) : W.cell? ⟨b, 0, none⟩ = some v := (h.cell (p := ⟨b, 0, none⟩) hb).trans hc
theorem open_gives (w : World) : Gives 22 #[] openB w.heap.size w := fun x W hW => openc_any x W
theorem id_gives (id : Int) (b : Nat) (n₀ : Nat) (w : World) (hn : b < n₀) (hb : w.cell? ⟨b, 0, none⟩ = some (.int .i64 id)) : Gives 26 #[.pointer (some ⟨b, 0, none⟩)] (idB id) n₀ w := fun x W hW =>
  idc_any id b x W (cell_at hW hn hb)

set_option maxHeartbeats 1000000 in
theorem open_any (v : Value) (l : List Lt) (w : World) (hlen : l.length * 80 ≤ 140737488355328) (hv : LSl w w.heap.size v l) :
    Calls Tryz.prog 8 #[v] w (SortsTo (l.filter openB) w) := by
  have hk := keep_any 22 #[] (enters_of Tryz.func22 (by kernel_rfl) rfl) openB v l w.heap.size w (Nat.le_refl _) hlen hv (open_gives w)
  have HK := Lib.hid hk
  have HN := Lib.hid (Nat.le_trans (Nat.mul_le_mul_right 80 (List.length_filter_le openB l)) hlen)
  clear hk hv hlen
  generalize l.filter openB = zs at HK HN ⊢
  go_enter Tryz.func8, Tryz.ntmps8
  go_wp2_with (first
    | (go_at_call 21; ((with_reducible refine HK.out.mono ?_); rintro e w1 ⟨v1, rfl, ho, hb⟩; have HO := Lib.hid (And.intro ho hb); clear ho hb))
    | (go_at_call 23; ((with_reducible refine (sortStable_any w.heap.size v1 zs w1 (by have := HN.out; omega) HO.out.2.size HO.out.1).mono ?_); rintro e w2 ⟨rfl, hx⟩; have HX := Lib.hid hx; clear hx)))
  go_ret
  obtain ⟨out, hs, ho, hb⟩ := HX.out
  exact ⟨v1, out, rfl, hs, by rw [hs.length]; exact ho, HO.out.2.trans hb⟩

/-- A row that may be cut: its first cells are these, and there is room for no more of it. -/
def CutR (w : World) (m : Nat) (v : Value) (xs : List Lt) : Prop :=
  (v = .slice none 0 0 ∧ xs = []) ∨ ∃ g cap cur, v = .slice (some ⟨g, 0, none⟩) xs.length cap ∧ m ≤ g ∧ xs.length ≤ cap ∧ cap ≤ maxLen ∧ w.heap[g]? = some (.cells cur 37 (0, 0)) ∧ cap * 8 ≤ cur.size ∧ cur.toList.take (xs.length * 8) = lcells xs
theorem CutR.lt {w : World} {m : Nat} {v : Value} {xs : List Lt} (h : CutR w m v xs) {g : Nat} (hg : v.ownBlock = some g) : m ≤ g ∧ g < w.heap.size := by
  rcases h with ⟨rfl, _⟩ | ⟨g', cap, cur, rfl, h1, _, _, h2, _⟩
  · cases hg
  · cases hg
    exact ⟨h1, (Array.getElem?_eq_some_iff.1 h2).1⟩
theorem CutR.below {w w' : World} {m : Nat} {v : Value} {xs : List Lt} (h : CutR w m v xs) (hb : Below w.heap.size w w') : CutR w' m v xs := by
  rcases h with h | ⟨g, cap, cur, h0, h1, h2, h2', h3, h4⟩
  · exact .inl h
  · exact .inr ⟨g, cap, cur, h0, h1, h2, h2', (hb.block g (Array.getElem?_eq_some_iff.1 h3).1).trans h3, h4⟩
theorem CutR.lsl {w : World} {m : Nat} {v : Value} {xs : List Lt} (h : CutR w m v xs) : LSl w w.heap.size v xs := by
  rcases h with ⟨rfl, rfl⟩ | ⟨g, cap, cur, rfl, h1, h2, h2', h3, h4, h5⟩
  · exact LSl.nil
  · refine ⟨_, cap, rfl, h2, h2', fun h => (by cases h), fun hne => ⟨_, rfl, (Array.getElem?_eq_some_iff.1 h3).1, fun j u hu => ?_⟩⟩
    rw [addr0, cell_of_row _ _ _ _ _ _ h3]
    rw [← h5, List.getElem?_take] at hu
    split at hu
    · rwa [Array.getElem?_toList] at hu
    · cases hu
theorem CutR.own {w : World} {m : Nat} {v : Value} {xs : List Lt} (h : w.ownsRow m 37 8 v xs.length (lcells xs)) : CutR w m v xs := by
  rcases h.2 with ⟨hv, h0⟩ | ⟨g, cap, cur, hv, hb, hh, h1, h2, h3, h4⟩
  · exact .inl ⟨hv, List.eq_nil_of_length_eq_zero h0⟩
  · exact .inr ⟨g, cap, cur, hv, hb, h1, h2, hh, Nat.le_of_eq h3.symm, h4⟩

theorem idxOf_lt {α : Type} (p : α → Bool) : ∀ l : List α, idxOf p l < l.length ∧ -1 ≤ idxOf p l
  | [] => by simp [idxOf]
  | x :: l => by
    have ih := idxOf_lt p l
    unfold idxOf
    rw [List.length_cons]
    split
    · omega
    · split <;> omega
/-- What front answers, of a row of its own. -/
def FrontTo (p : Lt → Bool) (out : List Lt) (m : Nat) (w : World) (e : Ending) (w' : World) : Prop := ∃ v, e = .returned v ∧ CutR w' m v (out.take (idxOf p out).toNat) ∧ Below w.heap.size w w'
set_option maxHeartbeats 1000000 in
theorem front_any (g : Nat) (lb : Array Value) (eg : ∀ args w, (callFunc g args).run Tryz.prog w = .ok (.enter g args) w) (p : Lt → Bool) (v : Value) (l : List Lt) (m : Nat) (w : World) (hlen : l.length ≤ 1099511627776) (hv : w.ownsRow m 37 8 v l.length (lcells l)) (hp : Gives g lb p w.heap.size w) :
    Calls Tryz.prog 25 #[v, .func (.func g) #[] lb] w (FrontTo p l m w) := by
  have hi := indexL_any g lb eg p v l w.heap.size w (Nat.le_refl _) hlen (LSl.own hv) hp
  have hr := idxOf_lt p l
  have HI := Lib.hid hi
  have HV := Lib.hid hv
  unfold FrontTo
  generalize idxOf p l = r at HI hr ⊢
  obtain ⟨hr1, hr2⟩ := hr
  clear hi hp
  rcases below_own (W := w) hv with ⟨rfl, rfl⟩ | ⟨gb, cap, rfl⟩
  · have hd : decide (r < 1) = true := decide_eq_true (by simp at hr1; omega)
    clear hv hr1
    go_enter Tryz.func25, Tryz.ntmps25
    go_wp2_with (go_at_call 38; ((with_reducible refine HI.out.mono ?_); rintro e w1 ⟨rfl, hb1⟩; have HB := Lib.hid hb1; clear hb1))
    go_ret
    exact ⟨_, rfl, .inl ⟨rfl, by simp⟩, HB.out⟩
  · obtain ⟨h1, h2⟩ := hv
    rcases h2 with ⟨h2, _⟩ | ⟨gb', cap', cur, hve, hmb, hh, hcap, hmax, hsz, htk⟩
    · cases h2
    · cases hve
      by_cases hlt : r < 1
      · have hd : decide (r < 1) = true := decide_eq_true hlt
        have HH := Lib.hid (And.intro hh (And.intro hsz htk))
        clear h1 hh hsz htk
        go_enter Tryz.func25, Tryz.ntmps25
        go_wp2_with (go_at_call 38; ((with_reducible refine HI.out.mono ?_); rintro e w1 ⟨rfl, hb1⟩; have HB := Lib.hid hb1; clear hb1))
        go_ret
        exact ⟨_, rfl, .inl ⟨rfl, by rw [show r.toNat = 0 by omega]; rfl⟩, HB.out⟩
      · have hd : decide (r < 1) = false := decide_eq_false hlt
        obtain ⟨n, rfl⟩ : ∃ n : Nat, r = n := ⟨r.toNat, by omega⟩
        have hn1 : n < l.length := by omega
        have hn2 : 1 ≤ n := by omega
        have hle1 : n ≤ cap := by omega
        have hle2 : n ≤ l.length := by omega
        have HH := Lib.hid (And.intro hh (And.intro hsz htk))
        have HM := Lib.hid hmb
        clear h1 hh hsz htk hlt hr1 hr2 hmb
        go_enter Tryz.func25, Tryz.ntmps25
        go_wp2_with (go_at_call 38; ((with_reducible refine HI.out.mono ?_); rintro e w1 ⟨rfl, hb1⟩; have HB := Lib.hid hb1; clear hb1))
        go_ret
        refine ⟨_, rfl, .inr ⟨gb, n, cur, ?_, HM.out, ?_, by omega, ?_, ?_, ?_⟩, HB.out⟩
        · rw [Int.toNat_natCast, List.length_take, Nat.min_eq_left hle2]; rfl
        · rw [Int.toNat_natCast, List.length_take]; omega
        · exact (HB.out.block gb (Array.getElem?_eq_some_iff.1 HH.out.1).1).trans HH.out.1
        · rw [HH.out.2.1]; exact Nat.mul_le_mul_right _ hle1
        · rw [Int.toNat_natCast, List.length_take, Nat.min_eq_left hle2, ← lcells_take l n hle2, ← HH.out.2.2, List.take_take, Nat.min_eq_left (Nat.mul_le_mul_right _ hle2)]

theorem eg_id : ∀ args w, (callFunc 26 args).run Tryz.prog w = .ok (.enter 26 args) w := enters_of Tryz.func26 (by kernel_rfl) rfl
/-- What Ahead tells: the beginning of the open lines, in order. -/
def AheadTo (l : List Lt) (id : Int) (w : World) (e : Ending) (w' : World) : Prop := ∃ v out, e = .returned v ∧ Stab (l.filter openB) out ∧ CutR w' w.heap.size v (aheadL id out) ∧ Below w.heap.size w w'
set_option maxHeartbeats 1000000 in
theorem ahead_any (id : Int) (v : Value) (l : List Lt) (w : World) (hlen : l.length * 80 ≤ 140737488355328) (hl2 : l.length ≤ 1099511627776) (hv : LSl w w.heap.size v l) :
    Calls Tryz.prog 9 #[v, .int .i64 id] w (AheadTo l id w) := by
  have hbx : (w.alloc (.cells #[.int .i64 id] 3)).cell? ⟨w.heap.size, 0, none⟩ = some (.int .i64 id) := by
    have := fresh_cell w #[.int .i64 id] 3 0
    rwa [addr0] at this
  have ho := open_any v l (w.alloc (.cells #[.int .i64 id] 3)) hlen ((hv.alloc_ (Nat.le_refl _) _).mono (by simp))
  have HO := Lib.hid ho
  have HX := Lib.hid hbx
  have HN := Lib.hid (Nat.le_trans (List.length_filter_le openB l) hl2)
  clear ho hbx hlen hl2 hv
  unfold AheadTo
  generalize l.filter openB = zs at HO HN ⊢
  go_enter Tryz.func9, Tryz.ntmps9
  go_wp2_with (first
    | (go_at_call 8; ((with_reducible refine HO.out.mono ?_); rintro e w1 ⟨v1, out, rfl, hs, ho, hb⟩; have HS := Lib.hid hs; have HR := Lib.hid ho; have HB := Lib.hid hb; clear hs ho hb))
    | (go_at_call 25; ((with_reducible refine (front_any 26 #[.pointer (some ⟨w.heap.size, 0, none⟩)] eg_id (idB id) v1 out _ w1 (by rw [HS.out.length]; exact HN.out) HR.out (id_gives id w.heap.size _ w1 (by have := HB.out.size; simp only [World.size_alloc] at this; omega) (cell_at HB.out (by simp) HX.out))).mono ?_); rintro e w2 ⟨v2, rfl, hc, hb2⟩; have HC := Lib.hid (And.intro hc hb2); clear hc hb2)))
  go_ret
  refine ⟨v2, out, rfl, HS.out, ?_, below_alloc2 _ (below_two HB.out HC.out.2)⟩
  rcases HC.out.1 with h | ⟨g, cap, cur, h0, h1, h2⟩
  · exact .inl h
  · exact .inr ⟨g, cap, cur, h0, by simp only [World.size_alloc] at h1; omega, h2⟩
end Go.Proofs.YtepkmgmooadbjaaGreat
end
section
/- storemankit.SameLines: are two lists of lots the same? storemanlaw09.count. -/
namespace Go.Proofs.YtepkmgmooadbjaaGreat
open Go.ChangeShapes Go.WideShapes Go.ChangeAt Go.RowKit
set_option linter.unusedVariables false

theorem str_eq (a b : List UInt8) : ((⟨a.toArray⟩ : ByteArray).toList == (⟨b.toArray⟩ : ByteArray).toList) = decide (a = b) := by
  rw [ByteArray.toList_eq, ByteArray.toList_eq]
  by_cases h : a = b <;> simp [h]
theorem lot_iff (x y : Lt) : x = y ↔ x.id = y.id ∧ x.item = y.item ∧ x.qty = y.qty ∧ x.asked = y.asked ∧ x.rank = y.rank ∧ x.state = y.state ∧ x.day = y.day ∧ x.code = y.code :=
  ⟨fun h => by subst h; exact ⟨rfl, rfl, rfl, rfl, rfl, rfl, rfl, rfl⟩, fun h => Lt.ext_ h.1 h.2.1 h.2.2.1 h.2.2.2.1 h.2.2.2.2.1 h.2.2.2.2.2.1 h.2.2.2.2.2.2.1 h.2.2.2.2.2.2.2⟩
theorem dec_lot (x y : Lt) : decide (x = y) = decide (x.id = y.id ∧ x.item = y.item ∧ x.qty = y.qty ∧ x.asked = y.asked ∧ x.rank = y.rank ∧ x.state = y.state ∧ x.day = y.day ∧ x.code = y.code) := by congr 1; exact propext (lot_iff x y)
theorem eq_lot (x y : Lt) (w : World) : (Op.equalIn 10000 37 (aggL x) (aggL y)).run Tryz.prog w = .ok (decide (x = y)) w := by
  have u2 := Tryz.underlying2
  have a2 := Tryz.isAgg2
  have z2 := Tryz.sizeOf2
  have u3 := Tryz.underlying3
  have a3 := Tryz.isAgg3
  have z3 := Tryz.sizeOf3
  have u4 := Tryz.underlying35
  have a4 := Tryz.isAgg35
  have z4 := Tryz.sizeOf35
  have u9 := Tryz.underlying9
  have a9 := Tryz.isAgg9
  have z9 := Tryz.sizeOf9
  have hS : Tryz.prog.underlying 37 = some (.struct (Tryz.prog.fieldsOf 37)) := by kernel_rfl
  have hp : Tryz.prog.stoodInHeld 37 = false := by kernel_rfl
  rw [show (10000 : Nat) = 9999 + 1 from rfl, run_equalIn_agg w 9999 37 _ _ hS hp]
  simp only [Program.fieldsOf, Tryz.underlying37]
  go_simp
  have e := dec_lot x y
  rw [e]
  clear hS hp u2 a2 z2 u3 a3 z3 u4 a4 z4 u9 a9 z9 e
  by_cases h1 : x.id = y.id
  · by_cases h2 : x.item = y.item
    · by_cases h3 : x.qty = y.qty
      · by_cases h4 : x.asked = y.asked
        · by_cases h5 : x.rank = y.rank
          · by_cases h6 : x.state = y.state
            · by_cases h7 : x.day = y.day <;> by_cases h8 : x.code = y.code <;> simp [h1, h2, h3, h4, h5, h6, h7, h8]
            · simp [h1, h2, h3, h4, h5, h6]
          · simp [h1, h2, h3, h4, h5]
        · simp [h1, h2, h3, h4]
      · simp [h1, h2, h3]
    · simp [h1, h2]
  · simp [h1]
theorem eql_lot (x y : Lt) (w : World) : (binOp .eql 37 (aggL x) (aggL y)).run Tryz.prog w = .ok (.bool (decide (x = y))) w := by
  rw [run_eql_struct, eq_lot]; rfl
theorem neq_lot (x y : Lt) (w : World) : (binOp .neq 37 (aggL x) (aggL y)).run Tryz.prog w = .ok (.bool (!decide (x = y))) w := by
  rw [run_neq_struct, eq_lot]; rfl

def sameB (l m : List Lt) : Bool := decide (l = m)
theorem LSl.six {w : World} {B : Nat} {A : Option Addr} {n c : Nat} {l : List Lt} (h : LSl w B (.slice A n c) l) {k : Nat} {x : Lt} (hk : l[k]? = some x) : ∃ ad, A = some ad ∧ ad.block < B ∧ Six w (ad.add (k * 8)) x := by
  obtain ⟨A', c', hv, _, _, _, hl⟩ := h
  injection hv with hA
  subst hA
  exact hl.six hk
/-- A comparison of two lots' values, told once. -/
def CmpRun (b : Bool) (x y : Lt) : Prop := ∀ w, (binOp .neq 37 (.agg #[.int .i64 x.id, .string ⟨x.item.toArray⟩, .int .i64 x.qty, .int .i64 x.asked, .int .i64 x.rank, .int .u8 x.state, .int .i64 x.day, .string ⟨x.code.toArray⟩]) (.agg #[.int .i64 y.id, .string ⟨y.item.toArray⟩, .int .i64 y.qty, .int .i64 y.asked, .int .i64 y.rank, .int .u8 y.state, .int .i64 y.day, .string ⟨y.code.toArray⟩])).run Tryz.prog w = .ok (.bool b) w

set_option maxHeartbeats 1000000 in
theorem same_any (l m : List Lt) (v1 v2 : Value) (w : World) (h1 : LSl w w.heap.size v1 l) (h2 : LSl w w.heap.size v2 m) (hl : l.length ≤ 1099511627776) (hm : m.length ≤ 1099511627776) :
    Calls Tryz.prog 12 #[v1, v2] w fun e w' => e = .returned (.bool (sameB l m)) ∧ Below w.heap.size w w' := by
  obtain ⟨A, c, rfl, hc1, hc2, _, hl1⟩ := id h1
  obtain ⟨A', c', rfl, hc1', hc2', _, hl1'⟩ := id h2
  have HV1 := Lib.hid h1
  have HV2 := Lib.hid h2
  clear h1 h2 hl1 hl1'
  by_cases hlen : l.length = m.length
  · have hle1 : l.length ≤ m.length := by omega
    have hle2 : m.length ≤ l.length := by omega
    have hb1 : ((l.length : Int) == (m.length : Int)) = true := by simp [hlen]
    have hb2 : ((l.length : Int) != (m.length : Int)) = false := by simp [hlen]
    have HLEN := Lib.hid hlen
    clear hlen
    go_enter Tryz.func12, Tryz.ntmps12
    go_wp2
    clear hb1 hb2
    go_loopw [5] (fun i wr => ∃ k : Nat, k ≤ l.length ∧ i = .int .i64 k ∧ Hid (Below w.heap.size w wr) ∧ Hid (l.take k = m.take k)) (fun i _ => l.length - (intOf i).toNat)
    case atStart => exact ⟨0, Nat.zero_le _, rfl, Lib.hid (Below.refl _ _), Lib.hid rfl⟩
    case round =>
      obtain ⟨k, hk, rfl, HB, HTK⟩ := hrel
      by_cases hlt : k < l.length
      · obtain ⟨x, hx⟩ : ∃ x, l[k]? = some x := ⟨_, List.getElem?_eq_getElem hlt⟩
        obtain ⟨y, hy⟩ : ∃ y, m[k]? = some y := ⟨_, List.getElem?_eq_getElem (by omega)⟩
        obtain ⟨ap, hap, _, hp0, hp1, hp2, hp3, hp4, hp5, hp6, hp7⟩ := (HV1.out.below HB.out).six hx
        obtain ⟨aq, haq, _, hq0, hq1, hq2, hq3, hq4, hq5, hq6, hq7⟩ := (HV2.out.below HB.out).six hy
        subst hap haq
        have HX := Lib.hid hx
        have HY := Lib.hid hy
        clear hx hy
        have hltm : k < m.length := by omega
        by_cases hxy : x = y
        · have hne : CmpRun false x y := fun w => by have := neq_lot x y w; simp only [hxy, decide_true, Bool.not_true] at this ⊢; exact this
          unfold CmpRun at hne
          have HXY := Lib.hid hxy
          clear hxy
          go_wp2
          go_quiet (fail)
          go_wp2
          go_roundw
          case rel => exact ⟨k + 1, by omega, by go_num, Lib.hid (below_draws HB.out _), Lib.hid (by rw [List.take_add_one, List.take_add_one, HTK.out, HX.out, HY.out, HXY.out])⟩
          case measure => simp [intOf]; omega
        · have hne : CmpRun true x y := fun w => by have := neq_lot x y w; rw [decide_eq_false hxy] at this; exact this
          unfold CmpRun at hne
          have HXY := Lib.hid hxy
          clear hxy
          go_wp2
          go_quiet (fail)
          go_wp2
          go_ret
          refine ⟨ret_bool ?_, below_draws HB.out _⟩
          symm
          simp only [sameB, decide_eq_false_iff_not]
          intro e
          subst e
          exact HXY.out (Option.some.inj (HX.out.symm.trans HY.out))
      · obtain rfl : k = l.length := by omega
        go_wp2
        go_ret
        refine ⟨ret_bool ?_, HB.out⟩
        have h := HTK.out
        rw [List.take_of_length_le (Nat.le_refl _), List.take_of_length_le (by omega)] at h
        simp [sameB, h]
  · have hb1 : ((l.length : Int) == (m.length : Int)) = false := by simp; omega
    have hb2 : ((l.length : Int) != (m.length : Int)) = true := by simp; omega
    have HLEN := Lib.hid hlen
    clear hlen
    go_enter Tryz.func12, Tryz.ntmps12
    go_wp2
    go_ret
    refine ⟨ret_bool ?_, Below.refl _ _⟩
    symm
    simp only [sameB, decide_eq_false_iff_not]
    rintro rfl
    exact HLEN.out rfl
theorem same_yes (l : List Lt) (v1 v2 : Value) (w : World) (h1 : LSl w w.heap.size v1 l) (h2 : LSl w w.heap.size v2 l) (hl : l.length ≤ 1099511627776) :
    Calls Tryz.prog 12 #[v1, v2] w fun e w' => e = .returned (.bool true) ∧ Below w.heap.size w w' := by
  refine (same_any l l v1 v2 w h1 h2 hl hl).mono ?_
  rintro e w' ⟨rfl, hb⟩
  exact ⟨ret_bool (by simp [sameB]), hb⟩
end Go.Proofs.YtepkmgmooadbjaaGreat
end
section
/- storemanlaw09.count, great, three; the chapter's example, awake. -/
namespace Go.Proofs.YtepkmgmooadbjaaGreat
open Go.ChangeShapes Go.WideShapes Go.ChangeAt Go.RowKit
set_option linter.unusedVariables false

/-- Whether there are more lots than are gone through: if not, they are few. -/
def Few (l : List Lt) (w : World) (e : Ending) (w' : World) : Prop := ∃ b : Bool, e = .returned (.bool b) ∧ Below w.heap.size w w' ∧ (b = false → l.length ≤ 400)
set_option maxHeartbeats 1000000 in
theorem great_any (v : Value) (l : List Lt) (w : World) (hv : LSl w w.heap.size v l) (hs : Sized l) (hlen : l.length ≤ 140737488355328) :
    Calls Tryz.prog 5 #[v] w (Few l w) := by
  obtain ⟨A, c, rfl, hc1, hc2, hcz, hl⟩ := id hv
  have HS := Lib.hid hs
  have HV := Lib.hid hv
  clear hs hv hl
  go_enter Tryz.func5, Tryz.ntmps5
  go_wp2
  go_loopw [3, 4] (fun t i wr => ∃ (k : Nat) (n : Int), k ≤ l.length ∧ i = .int .i64 k ∧ t = .int .i64 n ∧ (l.length : Int) ≤ n ∧ n ≤ 4611686018427387904 ∧ Hid (Below w.heap.size w wr)) (fun _ i _ => l.length - (intOf i).toNat)
  case atStart => exact ⟨0, l.length, Nat.zero_le _, rfl, rfl, by omega, by omega, Lib.hid (Below.refl _ _)⟩
  case round =>
    obtain ⟨k, n, hk, rfl, rfl, hn0, hn1, HB⟩ := hrel
    by_cases hlt : k < l.length
    · have hd1 : decide (k < l.length) = true := decide_eq_true hlt
      by_cases hmo : n ≤ 400
      · obtain ⟨x, hx⟩ : ∃ x, l[k]? = some x := ⟨_, List.getElem?_eq_getElem hlt⟩
        obtain ⟨ad, rfl, hab, hc0, hc1', hc2', hc3, hc4, hc5, hc6, hc7⟩ := (HV.out.below HB.out).six hx
        have hxf := HS.out x (List.mem_of_getElem? hx)
        have hxl := hxf.2.2.1
        have hxc := hxf.2.2.2.2.2.2.2.2.2.2.2.2.2
        unfold maxLen at hxl hxc
        clear hxf
        have HX := Lib.hid hx
        clear hx
        have hd2 : decide (n ≤ 400) = true := decide_eq_true hmo
        go_wp2
        go_region
        go_wp2
        go_roundw
        case rel => exact ⟨k + 1, n + (x.item.length : Int) / 50 + (x.code.length : Int) / 50, by omega, by go_num, rfl, by omega, by omega, Lib.hid (below_draws HB.out 1)⟩
        case measure => simp [intOf]; omega
      · have hd2 : decide (n ≤ 400) = false := decide_eq_false hmo
        have hd3 : decide (400 < n) = true := decide_eq_true (by omega)
        go_wp2
        go_ret
        exact ⟨true, rfl, HB.out, fun h => by cases h⟩
    · obtain rfl : k = l.length := by omega
      by_cases hmo : n ≤ 400
      · have hd3 : decide (400 < n) = false := decide_eq_false (by omega)
        go_wp2
        go_ret
        exact ⟨false, rfl, HB.out, fun _ => by omega⟩
      · have hd3 : decide (400 < n) = true := decide_eq_true (by omega)
        go_wp2
        go_ret
        exact ⟨true, rfl, HB.out, fun h => by cases h⟩

def exL : List Lt := [⟨1, [65], 1, 0, 5, 1, -1, []⟩, ⟨2, [65], 1, 0, 3, 3, -1, []⟩, ⟨3, [65], 1, 0, 3, 1, -1, []⟩, ⟨4, [65], 1, 0, 5, 1, -1, []⟩]
def exO : List Lt := [⟨1, [65], 1, 0, 5, 1, -1, []⟩, ⟨3, [65], 1, 0, 3, 1, -1, []⟩, ⟨4, [65], 1, 0, 5, 1, -1, []⟩]
def exS : List Lt := [⟨3, [65], 1, 0, 3, 1, -1, []⟩, ⟨1, [65], 1, 0, 5, 1, -1, []⟩, ⟨4, [65], 1, 0, 5, 1, -1, []⟩]
abbrev exObj : Obj := .cells #[.int .i64 1, .string ⟨#[65]⟩, .int .i64 1, .int .i64 0, .int .i64 5, .int .u8 1, .int .i64 (-1), .string ⟨#[]⟩, .int .i64 2, .string ⟨#[65]⟩, .int .i64 1, .int .i64 0, .int .i64 3, .int .u8 3, .int .i64 (-1), .string ⟨#[]⟩, .int .i64 3, .string ⟨#[65]⟩, .int .i64 1, .int .i64 0, .int .i64 3, .int .u8 1, .int .i64 (-1), .string ⟨#[]⟩, .int .i64 4, .string ⟨#[65]⟩, .int .i64 1, .int .i64 0, .int .i64 5, .int .u8 1, .int .i64 (-1), .string ⟨#[]⟩] 37
set_option maxHeartbeats 1000000 in
theorem results_cell1 {fn : Func} {p : Tmp} {ty : TypeId} (h : fn.results = #[.cell p ty]) (tmps : Array Value) (P : Program) (w : World) :
    (results fn tmps).run P w = ((asAddr (tmps.getD p undef)).run P w).andThen fun a w₁ => (loadVar ty a).run P w₁ := by
  simp only [results, h]
  simp [Sem.run_bind, Result.andThen]
theorem line_any (i r st : Int) (w : World) : Calls Tryz.prog 16 #[.int .i64 i, .int .i64 r, .int .u8 st] w fun e w' => e = .returned (.agg #[.int .i64 i, .string ⟨#[65]⟩, .int .i64 1, .int .i64 0, .int .i64 r, .int .u8 st, .int .i64 (-1), .string ⟨#[]⟩]) ∧ Below w.heap.size w w' := by
  go_enter Tryz.func16, Tryz.ntmps16
  go_wp2
  refine bodyPost_ret (v := .agg #[.int .i64 i, .string ⟨#[65]⟩, .int .i64 1, .int .i64 0, .int .i64 r, .int .u8 st, .int .i64 (-1), .string ⟨#[]⟩]) (by rw [results_cell1 rfl]; go_simp) rfl ?_
  exact ⟨rfl, below_alloc1 _ _⟩
theorem ex_at (w : World) : LSl (w.alloc exObj) (w.alloc exObj).heap.size (.slice (some ⟨w.heap.size, 0, none⟩) 4 4) exL :=
  LSl.mono ⟨_, 4, rfl, Nat.le_refl _, by simp [maxLen], fun h => (by cases h), Lies.fresh w _ 37 _ rfl⟩ (by simp)
/-- What four tells: the chapter's lines. -/
def FourTo (w : World) (e : Ending) (w' : World) : Prop := ∃ g, e = .returned (.slice (some ⟨g, 0, none⟩) 4 4) ∧ LSl w' w'.heap.size (.slice (some ⟨g, 0, none⟩) 4 4) exL ∧ Below w.heap.size w w'
set_option maxHeartbeats 1000000 in
theorem four_any (w : World) : Calls Tryz.prog 18 #[] w (FourTo w) := by
  go_enter Tryz.func18, Tryz.ntmps18
  go_wp2_with (go_at_call 16; (first
    | ((with_reducible refine (line_any 1 5 1 _).mono ?_); rintro e w1 ⟨rfl, hb1⟩; have HB1 := Lib.hid hb1; clear hb1)
    | ((with_reducible refine (line_any 2 3 3 _).mono ?_); rintro e w2 ⟨rfl, hb2⟩; have HB2 := Lib.hid (below_two HB1.out hb2); clear hb2)
    | ((with_reducible refine (line_any 3 3 1 _).mono ?_); rintro e w3 ⟨rfl, hb3⟩; have HB3 := Lib.hid (below_two HB2.out hb3); clear hb3)
    | ((with_reducible refine (line_any 4 5 1 _).mono ?_); rintro e w4 ⟨rfl, hb4⟩; have HB4 := Lib.hid (below_two HB3.out hb4); clear hb4)))
  go_ret
  exact ⟨_, rfl, ex_at w4, below_two HB4.out (below_alloc1 _ _)⟩
theorem ex_filter : exL.filter openB = exO := by decide +kernel
theorem ex_stab : Stab exO exS := by
  refine ⟨[(⟨3, [65], 1, 0, 3, 1, -1, []⟩, 1), (⟨1, [65], 1, 0, 5, 1, -1, []⟩, 0), (⟨4, [65], 1, 0, 5, 1, -1, []⟩, 2)], rfl, ?_, ?_⟩
  · decide
  · decide
theorem ex_ahead4 : aheadL 4 exS = [⟨3, [65], 1, 0, 3, 1, -1, []⟩, ⟨1, [65], 1, 0, 5, 1, -1, []⟩] := by decide +kernel
theorem ex_ahead2 : aheadL 2 exS = [] := by decide +kernel
theorem open_ex (g : Nat) (w : World) (h : LSl w w.heap.size (.slice (some ⟨g, 0, none⟩) 4 4) exL) : Calls Tryz.prog 8 #[.slice (some ⟨g, 0, none⟩) 4 4] w fun e w' => ∃ g cap, e = .returned (.slice (some ⟨g, 0, none⟩) 3 cap) ∧ LSl w' w'.heap.size (.slice (some ⟨g, 0, none⟩) 3 cap) exS ∧ Below w.heap.size w w' := by
  refine (open_any _ exL _ (by decide) h).mono ?_
  rintro e w' ⟨v, out, rfl, hs, ho, hb⟩
  rw [ex_filter] at hs
  obtain rfl := hs.unique ex_stab
  rcases below_own (W := w') ho with ⟨_, h0⟩ | ⟨g, cap, rfl⟩
  · cases h0
  · exact ⟨g, cap, rfl, LSl.own ho, hb⟩
theorem ahead_ex4 (g : Nat) (w : World) (h : LSl w w.heap.size (.slice (some ⟨g, 0, none⟩) 4 4) exL) : Calls Tryz.prog 9 #[.slice (some ⟨g, 0, none⟩) 4 4, .int .i64 4] w fun e w' => ∃ A c, e = .returned (.slice A 2 c) ∧ Below w.heap.size w w' := by
  refine (ahead_any 4 _ exL _ (by decide) (by decide) h).mono ?_
  rintro e w' ⟨v, out, rfl, hs, hc, hb⟩
  rw [ex_filter] at hs
  obtain rfl := hs.unique ex_stab
  rw [ex_ahead4] at hc
  obtain ⟨A, c, rfl, _⟩ := hc.lsl
  exact ⟨A, c, rfl, hb⟩
theorem ahead_ex2 (g : Nat) (w : World) (h : LSl w w.heap.size (.slice (some ⟨g, 0, none⟩) 4 4) exL) : Calls Tryz.prog 9 #[.slice (some ⟨g, 0, none⟩) 4 4, .int .i64 2] w fun e w' => ∃ A c, e = .returned (.slice A 0 c) ∧ Below w.heap.size w w' := by
  refine (ahead_any 2 _ exL _ (by decide) (by decide) h).mono ?_
  rintro e w' ⟨v, out, rfl, hs, hc, hb⟩
  rw [ex_filter] at hs
  obtain rfl := hs.unique ex_stab
  rw [ex_ahead2] at hc
  obtain ⟨A, c, rfl, _⟩ := hc.lsl
  exact ⟨A, c, rfl, hb⟩
theorem lright_yes (x : Lt) (w : World) (h : lrightB x = true) : Calls Tryz.prog 19 #[aggL x] w fun e w' => e = .returned (.bool true) ∧ Below w.heap.size w w' := by
  have := lright_any x w; rwa [h] at this
theorem lright_no (x : Lt) (w : World) (h : lrightB x = false) : Calls Tryz.prog 19 #[aggL x] w fun e w' => e = .returned (.bool false) ∧ Below w.heap.size w w' := by
  have := lright_any x w; rwa [h] at this
theorem right_ex (w : World) : Calls Tryz.prog 19 #[.agg #[.int .i64 1, .string ⟨#[65]⟩, .int .i64 1, .int .i64 0, .int .i64 5, .int .u8 1, .int .i64 (-1), .string ⟨#[]⟩]] w fun e w' => e = .returned (.bool true) ∧ Below w.heap.size w w' :=
  lright_yes ⟨1, [65], 1, 0, 5, 1, -1, []⟩ w (by decide +kernel)
theorem right_ex0 (w : World) : Calls Tryz.prog 19 #[.agg #[.int .i64 0, .string ⟨#[]⟩, .int .i64 0, .int .i64 0, .int .i64 0, .int .u8 0, .int .i64 0, .string ⟨#[]⟩]] w fun e w' => e = .returned (.bool false) ∧ Below w.heap.size w w' :=
  lright_no ⟨0, [], 0, 0, 0, 0, 0, []⟩ w (by decide +kernel)
end Go.Proofs.YtepkmgmooadbjaaGreat
end
section
/- The chapter's example, awake. -/
namespace Go.Proofs.YtepkmgmooadbjaaGreat
open Go.ChangeShapes Go.WideShapes Go.ChangeAt Go.RowKit
set_option linter.unusedVariables false

theorem lsl_cell {w : World} {B g n cap : Nat} {l : List Lt} (h : LSl w B (.slice (some ⟨g, 0, none⟩) n cap) l) (j : Nat) (u : Value) (hu : (lcells l)[j]? = some u) : w.cell? ⟨g, j, none⟩ = some u := by
  obtain ⟨A, c, hv, _, _, _, hl⟩ := h
  injection hv with hA
  subst hA
  obtain ⟨ad, had, _, hc⟩ := hl.get hu
  cases had
  rwa [addr0] at hc
theorem ex_cells {w : World} {B g cap : Nat} (h : LSl w B (.slice (some ⟨g, 0, none⟩) 3 cap) exS) :
    w.cell? ⟨g, 0, none⟩ = some (.int .i64 3) ∧ w.cell? ⟨g, 8, none⟩ = some (.int .i64 1) ∧ w.cell? ⟨g, 16, none⟩ = some (.int .i64 4) :=
  ⟨lsl_cell h 0 _ rfl, lsl_cell h 8 _ rfl, lsl_cell h 16 _ rfl⟩
theorem four_cells {w : World} {B g : Nat} (h : LSl w B (.slice (some ⟨g, 0, none⟩) 4 4) exL) :
    w.cell? ⟨g, 0, none⟩ = some (.int .i64 1) ∧ w.cell? ⟨g, 1, none⟩ = some (.string ⟨#[65]⟩) ∧ w.cell? ⟨g, 2, none⟩ = some (.int .i64 1) ∧ w.cell? ⟨g, 3, none⟩ = some (.int .i64 0) ∧ w.cell? ⟨g, 4, none⟩ = some (.int .i64 5) ∧ w.cell? ⟨g, 5, none⟩ = some (.int .u8 1) ∧ w.cell? ⟨g, 6, none⟩ = some (.int .i64 (-1)) ∧ w.cell? ⟨g, 7, none⟩ = some (.string ⟨#[]⟩) :=
  ⟨lsl_cell h 0 _ rfl, lsl_cell h 1 _ rfl, lsl_cell h 2 _ rfl, lsl_cell h 3 _ rfl, lsl_cell h 4 _ rfl, lsl_cell h 5 _ rfl, lsl_cell h 6 _ rfl, lsl_cell h 7 _ rfl⟩
theorem ex_cap {w : World} {B g cap : Nat} (h : LSl w B (.slice (some ⟨g, 0, none⟩) 3 cap) exS) : 3 ≤ cap := by
  obtain ⟨A, c, hv, hc, _⟩ := h
  injection hv with _ _ e
  subst e
  exact hc
set_option maxRecDepth 100000 in
set_option maxHeartbeats 4000000 in
theorem awake_any (w : World) : Calls Tryz.prog 6 #[] w fun e w' => e = .returned (.bool true) ∧ Below w.heap.size w w' := by
  go_enter Tryz.func6, Tryz.ntmps6
  go_wp2_with fail
  refine (four_any _).mono ?_
  rintro e w1 ⟨g1, rfl, hl1, hb1⟩
  have HL1 := Lib.hid hl1
  have HB1 := Lib.hid hb1
  clear hl1 hb1
  go_wp2_with fail
  refine (open_ex _ _ HL1.out).mono ?_
  rintro e w2 ⟨g2, cap, rfl, hs, hb2⟩
  have HS2 := Lib.hid hs
  have HB2 := Lib.hid (below_two HB1.out hb2)
  have hcap := ex_cap hs
  clear hs hb2
  go_wp2_with fail
  refine (four_any _).mono ?_
  rintro e w3 ⟨g3, rfl, hl3, hb3⟩
  have HL3 := Lib.hid hl3
  have HB3 := Lib.hid (below_two HB2.out hb3)
  have HS3 := Lib.hid (HS2.out.at_ hb3)
  clear hl3 hb3
  go_wp2_with fail
  refine (ahead_ex4 _ _ HL3.out).mono ?_
  rintro e w4 ⟨A4, c4, rfl, hb4⟩
  have HB4 := Lib.hid (below_two HB3.out hb4)
  have HS4 := Lib.hid (HS3.out.at_ hb4)
  obtain ⟨x0, x1, x2⟩ := ex_cells HS4.out
  clear hb4
  go_wp2_with fail
  refine (four_any _).mono ?_
  rintro e w5 ⟨g5, rfl, hl5, hb5⟩
  have HL5 := Lib.hid hl5
  have HB5 := Lib.hid (below_two HB4.out hb5)
  clear hl5 hb5 x0 x1 x2
  go_wp2_with fail
  refine (ahead_ex2 _ _ HL5.out).mono ?_
  rintro e w6 ⟨A6, c6, rfl, hb6⟩
  have HB6 := Lib.hid (below_two HB5.out hb6)
  clear hb6
  go_wp2_with fail
  refine (four_any _).mono ?_
  rintro e w7 ⟨g7, rfl, hl7, hb7⟩
  have HB7 := Lib.hid (below_two HB6.out hb7)
  obtain ⟨y0, y1, y2, y3, y4, y5, y6, y7⟩ := four_cells hl7
  clear hl7 hb7
  go_wp2_with fail
  refine (right_ex _).mono ?_
  rintro e w8 ⟨rfl, hb8⟩
  have HB8 := Lib.hid (below_two HB7.out hb8)
  clear hb8 y0 y1 y2 y3 y4 y5 y6 y7
  go_wp2_with fail
  refine (right_ex0 _).mono ?_
  rintro e w9 ⟨rfl, hb9⟩
  have HB9 := Lib.hid (below_two HB8.out hb9)
  clear hb9
  go_wp2_with fail
  go_ret
  exact ⟨rfl, HB9.out⟩
end Go.Proofs.YtepkmgmooadbjaaGreat
end
section
/- The law RankRights: whatever two lots; the walk. Written by gen_lawr.py. -/
namespace Go.Proofs.YtepkmgmooadbjaaGreat
open Go.ChangeShapes Go.WideShapes Go.ChangeAt Go.RowKit
set_option linter.unusedVariables false

theorem Box6.below {W W' : World} {B n₀ : Nat} {x : Lt} (h : Box6 W B x) (hB : B < n₀) (hb : Below n₀ W W') : Box6 W' B x := (hb.block B hB).trans h
/-- Two boxes that hold two lots, behind a world. -/
def Held2 (w : World) (a b : Lt) (W : World) : Prop := Box6 W w.heap.size a ∧ Box6 W (w.heap.size + 1) b ∧ Below w.heap.size w W
theorem Held2.next {w W W' : World} {a b : Lt} (h : Held2 w a b W) (hb : Below W.heap.size W W') : Held2 w a b W' :=
  ⟨h.1.below h.1.lt hb, h.2.1.below h.2.1.lt hb, below_two h.2.2 hb⟩
theorem Held2.one {w W : World} {a b : Lt} (h : Held2 w a b W) : W.cell? ⟨w.heap.size, 0, none⟩ = some (.int .i64 a.id) ∧ W.cell? ⟨w.heap.size, 1, none⟩ = some (.string ⟨a.item.toArray⟩) ∧ W.cell? ⟨w.heap.size, 2, none⟩ = some (.int .i64 a.qty) ∧ W.cell? ⟨w.heap.size, 3, none⟩ = some (.int .i64 a.asked) ∧ W.cell? ⟨w.heap.size, 4, none⟩ = some (.int .i64 a.rank) ∧ W.cell? ⟨w.heap.size, 5, none⟩ = some (.int .u8 a.state) ∧ W.cell? ⟨w.heap.size, 6, none⟩ = some (.int .i64 a.day) ∧ W.cell? ⟨w.heap.size, 7, none⟩ = some (.string ⟨a.code.toArray⟩) := h.1.cells
theorem Held2.two {w W : World} {a b : Lt} (h : Held2 w a b W) : W.cell? ⟨w.heap.size + 1, 0, none⟩ = some (.int .i64 b.id) ∧ W.cell? ⟨w.heap.size + 1, 1, none⟩ = some (.string ⟨b.item.toArray⟩) ∧ W.cell? ⟨w.heap.size + 1, 2, none⟩ = some (.int .i64 b.qty) ∧ W.cell? ⟨w.heap.size + 1, 3, none⟩ = some (.int .i64 b.asked) ∧ W.cell? ⟨w.heap.size + 1, 4, none⟩ = some (.int .i64 b.rank) ∧ W.cell? ⟨w.heap.size + 1, 5, none⟩ = some (.int .u8 b.state) ∧ W.cell? ⟨w.heap.size + 1, 6, none⟩ = some (.int .i64 b.day) ∧ W.cell? ⟨w.heap.size + 1, 7, none⟩ = some (.string ⟨b.code.toArray⟩) := h.2.1.cells
abbrev agX (x : Lt) : Value := .agg #[.int .i64 x.id, .string ⟨x.item.toArray⟩, .int .i64 x.qty, .int .i64 x.asked, .int .i64 x.rank, .int .u8 x.state, .int .i64 x.day, .string ⟨x.code.toArray⟩]

set_option maxRecDepth 100000 in
set_option maxHeartbeats 4000000 in
theorem rights_any (a b : Lt) (w : World) : Calls Tryz.prog 17 #[aggL a, aggL b] w fun e w' => e = .returned (.bool true) ∧ Below w.heap.size w w' := by
  obtain ⟨r, hr⟩ : ∃ r, lrightB a = r := ⟨_, rfl⟩
  obtain ⟨c, hc⟩ : ∃ c, cmpL a b = c := ⟨_, rfl⟩
  have H1 : Hid (∀ W, Calls Tryz.prog 19 #[agX a] W fun e w' => e = .returned (.bool r) ∧ Below W.heap.size W w') := Lib.hid (fun W => by rw [← hr]; exact lright_any a W)
  have H2 : Hid (∀ W, Calls Tryz.prog 30 #[agX a] W fun e w' => e = .returned (.bool r) ∧ Below W.heap.size W w') := Lib.hid (fun W => by rw [← hr]; exact lrref_any a W)
  have H3 : Hid (∀ W, Calls Tryz.prog 24 #[agX a, agX b] W fun e w' => e = .returned (.int .i64 c) ∧ Below W.heap.size W w') := Lib.hid (fun W => by rw [← hc]; exact compare_any a b W)
  have H4 : Hid (∀ W, Calls Tryz.prog 27 #[agX a, agX b] W fun e w' => e = .returned (.int .i64 c) ∧ Below W.heap.size W w') := Lib.hid (fun W => by rw [← hc]; exact comparer_any a b W)
  clear hr hc
  go_enter Tryz.func17, Tryz.ntmps17
  go_wp2_with fail
  have hS : Held2 w a b ((w.alloc (.cells #[.int .i64 a.id, .string ⟨a.item.toArray⟩, .int .i64 a.qty, .int .i64 a.asked, .int .i64 a.rank, .int .u8 a.state, .int .i64 a.day, .string ⟨a.code.toArray⟩] 37)).alloc (.cells #[.int .i64 b.id, .string ⟨b.item.toArray⟩, .int .i64 b.qty, .int .i64 b.asked, .int .i64 b.rank, .int .u8 b.state, .int .i64 b.day, .string ⟨b.code.toArray⟩] 37)).drew := by
    have h1 := Box6.new w a
    have h2 := Box6.new (w.alloc (.cells #[.int .i64 a.id, .string ⟨a.item.toArray⟩, .int .i64 a.qty, .int .i64 a.asked, .int .i64 a.rank, .int .u8 a.state, .int .i64 a.day, .string ⟨a.code.toArray⟩] 37)) b
    have h3 := (below_alloc3 w (.cells #[.int .i64 a.id, .string ⟨a.item.toArray⟩, .int .i64 a.qty, .int .i64 a.asked, .int .i64 a.rank, .int .u8 a.state, .int .i64 a.day, .string ⟨a.code.toArray⟩] 37) (.cells #[.int .i64 b.id, .string ⟨b.item.toArray⟩, .int .i64 b.qty, .int .i64 b.asked, .int .i64 b.rank, .int .u8 b.state, .int .i64 b.day, .string ⟨b.code.toArray⟩] 37)).drew
    rw [World.size_alloc] at h2
    exact ⟨h1.below h1.lt (below_alloc1 _ _).drew, h2, h3⟩
  refine wp_region_held_drew (S := Held2 w a b) (by kernel_rfl) hS (fun hS => ?_)
  refine wpAnyH_take (i := 0) (v := (agX a)) rfl (by kernel_rfl) (by kernel_rfl) (by kernel_rfl) (fun _ _ _ h => h) (Or.inl ⟨by kernel_rfl, fun w' hS' => by obtain ⟨d0, d1, d2, d3, d4, d5, d6, d7⟩ := hS'.one; go_simp⟩) hS ?_
  refine wpAnyH_take (i := 2) (v := (agX a)) rfl (by kernel_rfl) (by kernel_rfl) (by kernel_rfl) (fun _ _ _ h => h) (Or.inl ⟨by kernel_rfl, fun w' hS' => by obtain ⟨d0, d1, d2, d3, d4, d5, d6, d7⟩ := hS'.one; go_simp⟩) hS ?_
  refine wpAnyH_ready (rs := [1]) (by kernel_rfl) (by simp) ?_
  refine AllReadyH.cons rfl (fun K hK => ?_) AllReadyH.nil
  go_simp
  refine (H1.out _).mono ?_
  rintro e w1 ⟨rfl, hbx⟩
  refine hK.out _ _ (hS.next hbx) (fun hS => ?_)
  clear hK K hbx
  refine wpAnyH_ready (rs := [3]) (by kernel_rfl) (by simp) ?_
  refine AllReadyH.cons rfl (fun K hK => ?_) AllReadyH.nil
  go_simp
  refine (H2.out _).mono ?_
  rintro e w2 ⟨rfl, hbx⟩
  refine hK.out _ _ (hS.next hbx) (fun hS => ?_)
  clear hK K hbx
  refine wpAnyH_take (i := 4) (v := ((.bool true))) rfl (by kernel_rfl) (by kernel_rfl) (by kernel_rfl) (fun _ _ _ h => h) (Or.inl ⟨by kernel_rfl, fun w' hS' => by go_simp⟩) hS ?_
  refine wpAnyH_take (i := 5) (v := ((.bool true))) rfl (by kernel_rfl) (by kernel_rfl) (by kernel_rfl) (fun _ _ _ h => h) (Or.inl ⟨by kernel_rfl, fun w' hS' => by go_simp⟩) hS ?_
  refine wpAnyH_take (i := 6) (v := (agX a)) rfl (by kernel_rfl) (by kernel_rfl) (by kernel_rfl) (fun _ _ _ h => h) (Or.inl ⟨by kernel_rfl, fun w' hS' => by obtain ⟨d0, d1, d2, d3, d4, d5, d6, d7⟩ := hS'.one; go_simp⟩) hS ?_
  refine wpAnyH_take (i := 7) (v := (agX b)) rfl (by kernel_rfl) (by kernel_rfl) (by kernel_rfl) (fun _ _ _ h => h) (Or.inl ⟨by kernel_rfl, fun w' hS' => by obtain ⟨d0, d1, d2, d3, d4, d5, d6, d7⟩ := hS'.two; go_simp⟩) hS ?_
  refine wpAnyH_take (i := 9) (v := (agX a)) rfl (by kernel_rfl) (by kernel_rfl) (by kernel_rfl) (fun _ _ _ h => h) (Or.inl ⟨by kernel_rfl, fun w' hS' => by obtain ⟨d0, d1, d2, d3, d4, d5, d6, d7⟩ := hS'.one; go_simp⟩) hS ?_
  refine wpAnyH_take (i := 10) (v := (agX b)) rfl (by kernel_rfl) (by kernel_rfl) (by kernel_rfl) (fun _ _ _ h => h) (Or.inl ⟨by kernel_rfl, fun w' hS' => by obtain ⟨d0, d1, d2, d3, d4, d5, d6, d7⟩ := hS'.two; go_simp⟩) hS ?_
  refine wpAnyH_ready (rs := [8]) (by kernel_rfl) (by simp) ?_
  refine AllReadyH.cons rfl (fun K hK => ?_) AllReadyH.nil
  go_simp
  refine (H3.out _).mono ?_
  rintro e w3 ⟨rfl, hbx⟩
  refine hK.out _ _ (hS.next hbx) (fun hS => ?_)
  clear hK K hbx
  refine wpAnyH_ready (rs := [11]) (by kernel_rfl) (by simp) ?_
  refine AllReadyH.cons rfl (fun K hK => ?_) AllReadyH.nil
  go_simp
  refine (H4.out _).mono ?_
  rintro e w4 ⟨rfl, hbx⟩
  refine hK.out _ _ (hS.next hbx) (fun hS => ?_)
  clear hK K hbx
  refine wpAnyH_take (i := 12) (v := ((.bool true))) rfl (by kernel_rfl) (by kernel_rfl) (by kernel_rfl) (fun _ _ _ h => h) (Or.inl ⟨by kernel_rfl, fun w' hS' => by go_simp⟩) hS ?_
  refine wpAnyH_take (i := 13) (v := ((.bool true))) rfl (by kernel_rfl) (by kernel_rfl) (by kernel_rfl) (fun _ _ _ h => h) (Or.inl ⟨by kernel_rfl, fun w' hS' => by go_simp⟩) hS ?_
  refine wpAnyH_take (i := 14) (v := ((.bool true))) rfl (by kernel_rfl) (by kernel_rfl) (by kernel_rfl) (fun _ _ _ h => h) (Or.inl ⟨by kernel_rfl, fun w' hS' => by go_simp⟩) hS ?_
  refine wpAnyH_ready (rs := [15]) (by kernel_rfl) (by simp) ?_
  refine AllReadyH.cons rfl (fun K hK => ?_) AllReadyH.nil
  go_simp
  refine (awake_any _).mono ?_
  rintro e w5 ⟨rfl, hbx⟩
  refine hK.out _ _ (hS.next hbx) (fun hS => ?_)
  clear hK K hbx
  refine wpAnyH_take (i := 16) (v := ((.bool true))) rfl (by kernel_rfl) (by kernel_rfl) (by kernel_rfl) (fun _ _ _ h => h) (Or.inl ⟨by kernel_rfl, fun w' hS' => by go_simp⟩) hS ?_
  refine wpAnyH_take (i := 17) (v := ((.bool true))) rfl (by kernel_rfl) (by kernel_rfl) (by kernel_rfl) (fun _ _ _ h => h) (Or.inl ⟨by kernel_rfl, fun w' hS' => by go_simp⟩) hS ?_
  refine wpAnyH_done (by kernel_rfl) ?_ _
  go_simp
  go_wp2_with fail
  go_ret
  exact ⟨rfl, hS.2.2⟩
end Go.Proofs.YtepkmgmooadbjaaGreat
end
