/- slices.SortStableFunc, SortedStableFunc over lots; lot.Sort. -/
import Derived.Test.YtdmgnafafafdpaaLSMath
import Derived.Test.YtdmgnafafafdpaaLColl
import Derived.Sort.OwnSortedInts
namespace Go.Proofs.Ytdmgnafafafdpaa
open Go.ChangeShapes Go.WideShapes Go.ChangeAt Go.RowKit Go.Shelf Go.Lib Go.Sort Go.Proofs
set_option linter.unusedVariables false

def encP (p : Ix) : List Value := encL p.1
theorem encP_length (p : Ix) : (encP p).length = 6 := rfl
theorem encP_one (p : Ix) : ∀ v ∈ encP p, v.oneCell' = true := encL_one p.1

theorem flat_cells (d : Array Ix) : (flatK encP 6 d).toList = lcells (d.toList.map Prod.fst) := by
  apply List.ext_getElem?
  intro t
  by_cases ht : t < d.size * 6
  · have hz : t < (flatK encP 6 d).size := by simpa using ht
    rw [Array.getElem?_toList, Array.getElem?_eq_getElem hz]
    have e1 : (flatK encP 6 d)[t] = (flatK encP 6 d)[t]! := (getElem!_pos _ t hz).symm
    rw [e1, get_flatK _ _ _ _ ht]
    have hk : t / 6 < d.size := by omega
    have hx : (d.toList.map Prod.fst)[t / 6]? = some d[t / 6]!.1 := by
      rw [List.getElem?_map, Array.getElem?_toList, Array.getElem?_eq_getElem hk, getElem!_pos d _ hk]; rfl
    have := lcells_get _ _ _ hx (t % 6) (by omega)
    rw [show t / 6 * 6 + t % 6 = t by omega] at this
    rw [this]
    have hm : t % 6 < (encL d[t / 6]!.1).length := by rw [encL_length]; omega
    rw [List.getElem?_eq_getElem hm]
    unfold encP
    rw [getElem!_pos (encL d[t / 6]!.1) _ hm]
  · rw [List.getElem?_eq_none (by simp; omega), List.getElem?_eq_none (by rw [lcells_length]; simp; omega)]
theorem flat_row (l : List Lt) : (flatK encP 6 (rowOf l)).toList = lcells l := by
  rw [flat_cells]
  unfold rowOf
  rw [List.zipIdx_map_fst]

theorem holds_row {w : World} {base g n cap : Nat} {l : List Lt} (h : w.ownsRow base 25 6 (.slice (some ⟨g, 0, none⟩) n cap) n (lcells l)) (hn : n = l.length) : HoldsK encP 6 w g 0 (rowOf l) := by
  intro j hj
  have hj' : j < (lcells l).length := by rw [lcells_length]; simpa [rowOf_size] using hj
  have e1 : (flatK encP 6 (rowOf l))[j]! = (lcells l)[j] := by
    rw [getElem!_pos _ j hj]
    have : (flatK encP 6 (rowOf l)).toList[j]? = (lcells l)[j]? := by rw [flat_row]
    rw [Array.getElem?_toList, Array.getElem?_eq_getElem hj, List.getElem?_eq_getElem hj'] at this
    exact Option.some.inj this
  rw [Nat.zero_add]
  refine ⟨?_, h.frozenAt j⟩
  rw [h.cellAt j (by rw [lcells_length] at hj'; omega), List.getElem?_eq_getElem hj', e1]
  rfl

theorem heap_row {w : World} {g n : Nat} {os : Array Obj} {cur : Array Value} {e : TypeId} {fr : Nat × Nat} (d : Array Ix) (hb : w.heap[g]? = some (.cells cur e fr)) :
    (sortWorldK encP 6 w g 0 n d os).heap[g]? = some (.cells (putCells id 0 (flatK encP 6 d) cur) e fr) := by
  have hg : g < w.heap.size := (Array.getElem?_eq_some_iff.1 hb).1
  unfold sortWorldK putRowK
  rw [heap_grow_old _ _ (by simpa using hg)]
  simp [putRow, mapBlock, Sort.ahead, Array.getElem?_modify, hb, onCells]
theorem grown_row {w : World} {g n : Nat} {os : Array Obj} (d : Array Ix) : w.grownBy (sortWorldK encP 6 w g 0 n d os) (some g) := by
  unfold sortWorldK putRowK
  refine ⟨rfl, rfl, rfl, by simp, fun k hk hne => ?_⟩
  rw [heap_grow_old _ _ (by simpa using hk)]
  have : g ≠ k := fun e => hne (by rw [e])
  simp [putRow, mapBlock, Sort.ahead, Array.getElem?_modify, this]
theorem take_putV (cur ts : Array Value) (h : ts.size ≤ cur.size) : (putCells id 0 ts cur).toList.take ts.size = ts.toList := by
  apply List.ext_getElem?
  intro j
  by_cases hj : j < ts.size
  · rw [List.getElem?_take_of_lt hj, Array.getElem?_toList, Array.getElem?_toList]
    simp [putCells, hj, show j < cur.size by omega]
  · rw [List.getElem?_take_eq_none (by omega), List.getElem?_eq_none (by simp; omega)]
/-- Behind the sort the same slice owns what is sorted. -/
theorem owns_sorted {w W : World} {base g cap n : Nat} {l : List Lt} {d : Array Ix} (h : w.ownsRow base 25 6 (.slice (some ⟨g, 0, none⟩) n cap) n (lcells l)) (hn : n = l.length) (hd : d.size = n) (S : SWK encP 6 w g 0 d W) :
    W.ownsRow base 25 6 (.slice (some ⟨g, 0, none⟩) n cap) n (lcells (d.toList.map Prod.fst)) ∧ w.grownBy W (some g) := by
  obtain ⟨m, os, rfl⟩ := S
  refine ⟨?_, grown_row d⟩
  rcases h.2 with ⟨hv, _⟩ | ⟨g', cap', cur, hv, hb, hh, h1, h2, h3, h4⟩
  · cases hv
  · cases hv
    have hz : (flatK encP 6 d).size = n * 6 := by rw [size_flatK, hd]
    refine ⟨by rw [lcells_length]; simp [hd], .inr ⟨g, cap, _, rfl, hb, heap_row d hh, h1, h2, by simp [putCells, h3], ?_⟩⟩
    rw [← hz, ← flat_cells]
    exact take_putV _ _ (by rw [hz, h3]; exact Nat.mul_le_mul_right _ h1)

theorem aEL : ∀ w, (isAgg 25).run Try.prog w = .ok true w := Try.isAgg25
theorem zEL : ∀ w, (Go.sizeOf 25).run Try.prog w = .ok 6 w := Try.sizeOf25
theorem cmpP_lays (blk off size : Nat) (w : World) : CmpLays Try.prog 8 #[] encP 6 cfP blk off size w := fun m os dk hd x y => compare_grown x.1 y.1 _

/-- What a sort in place leaves: the row's slice owns what is sorted. -/
def SortedTo (w0 : Nat) (v : Value) (l : List Lt) (w : World) (e : Ending) (w' : World) : Prop :=
  e = .returned (.tuple #[]) ∧ ∃ out, Stab l out ∧ w'.ownsRow w0 25 6 v l.length (lcells out) ∧ Below w0 w w'

theorem stable_row (base g n cap : Nat) (l : List Lt) (w : World) (hn : n = l.length) (hlen : l.length < 1152921504606846976) (h : w.ownsRow base 25 6 (.slice (some ⟨g, 0, none⟩) n cap) n (lcells l)) :
    Calls Try.prog 41 #[.slice (some ⟨g, 0, none⟩) n cap, .int .i64 n, .func (.func 8) #[] #[]] w (SortedTo base (.slice (some ⟨g, 0, none⟩) n cap) l w) := by
  have hz := rowOf_size l
  have hg := (h.lt g rfl)
  have hc := stable_any 6 aEL zEL encP cfP ltP swoP 8 #[] g 0 cap (rowOf l) w (enters_of Try.func8 (by kernel_rfl) rfl) (cmpP_lays _ _ _ _)
    ⟨encP_length, encP_one, holds_row h hn, hg.2⟩ (by omega) (rowOf_agree l)
  rw [hz, ← hn] at hc
  refine hc.mono ?_
  rintro e w' ⟨rfl, d, S, hd, hp, hs⟩
  rw [hn, ← hz] at hp hs
  have ho := owns_sorted h hn (by rw [hd, hz, hn]) S
  refine ⟨rfl, _, stab_of hp hs, by rw [hn] at ho ⊢; exact ho.1, ?_⟩
  exact (Below.refl base w).grown ho.2 (by omega) (fun j hj => by cases hj; exact hg.1)
end Go.Proofs.Ytdmgnafafafdpaa
