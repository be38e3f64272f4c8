/- Texts of this proof, one behind the other. -/
import Derived.Sort.OwnSortedInts
import Derived.RangeFuncCalls
import Derived.Deep.RegionLaw
import Derived.Laws.EntriesVeiled
import Derived.Outline
import Derived.Test.YtddnfikjfmfhfaaW02
import Derived.Test.YtddnfikjfmfhfaaW00
section
/- slices.SortStableFunc, SortedStableFunc over lots; lot.Sort. -/
namespace Go.Proofs.Ytddnfikjfmfhfaa
open Go.ChangeShapes Go.WideShapes Go.ChangeAt Go.RowKit Go.Shelf Go.Lib Go.Sort Go.Proofs
set_option linter.unusedVariables false

def encP (p : Ix) : List Value := encL p.1
theorem encP_length (p : Ix) : (encP p).length = 6 := rfl
theorem encP_one (p : Ix) : ∀ v ∈ encP p, v.oneCell' = true := encL_one p.1

theorem flat_cells (d : Array Ix) : (flatK encP 6 d).toList = lcells (d.toList.map Prod.fst) := by
  apply List.ext_getElem?
  intro t
  by_cases ht : t < d.size * 6
  · have hz : t < (flatK encP 6 d).size := by simpa using ht
    rw [Array.getElem?_toList, Array.getElem?_eq_getElem hz]
    have e1 : (flatK encP 6 d)[t] = (flatK encP 6 d)[t]! := (getElem!_pos _ t hz).symm
    rw [e1, get_flatK _ _ _ _ ht]
    have hk : t / 6 < d.size := by omega
    have hx : (d.toList.map Prod.fst)[t / 6]? = some d[t / 6]!.1 := by
      rw [List.getElem?_map, Array.getElem?_toList, Array.getElem?_eq_getElem hk, getElem!_pos d _ hk]; rfl
    have := lcells_get _ _ _ hx (t % 6) (by omega)
    rw [show t / 6 * 6 + t % 6 = t by omega] at this
    rw [this]
    have hm : t % 6 < (encL d[t / 6]!.1).length := by rw [encL_length]; omega
    rw [List.getElem?_eq_getElem hm]
    unfold encP
    rw [getElem!_pos (encL d[t / 6]!.1) _ hm]
  · rw [List.getElem?_eq_none (by simp; omega), List.getElem?_eq_none (by rw [lcells_length]; simp; omega)]
theorem flat_row (l : List Lt) : (flatK encP 6 (rowOf l)).toList = lcells l := by
  rw [flat_cells]
  unfold rowOf
  rw [List.zipIdx_map_fst]

theorem holds_row {w : World} {base g n cap : Nat} {l : List Lt} (h : w.ownsRow base 42 6 (.slice (some ⟨g, 0, none⟩) n cap) n (lcells l)) (hn : n = l.length) : HoldsK encP 6 w g 0 (rowOf l) := by
  intro j hj
  have hj' : j < (lcells l).length := by rw [lcells_length]; simpa [rowOf_size] using hj
  have e1 : (flatK encP 6 (rowOf l))[j]! = (lcells l)[j] := by
    rw [getElem!_pos _ j hj]
    have : (flatK encP 6 (rowOf l)).toList[j]? = (lcells l)[j]? := by rw [flat_row]
    rw [Array.getElem?_toList, Array.getElem?_eq_getElem hj, List.getElem?_eq_getElem hj'] at this
    exact Option.some.inj this
  rw [Nat.zero_add]
  refine ⟨?_, h.frozenAt j⟩
  rw [h.cellAt j (by rw [lcells_length] at hj'; omega), List.getElem?_eq_getElem hj', e1]
  rfl

theorem heap_row {w : World} {g n : Nat} {os : Array Obj} {cur : Array Value} {e : TypeId} {fr : Nat × Nat} (d : Array Ix) (hb : w.heap[g]? = some (.cells cur e fr)) :
    (sortWorldK encP 6 w g 0 n d os).heap[g]? = some (.cells (putCells id 0 (flatK encP 6 d) cur) e fr) := by
  have hg : g < w.heap.size := (Array.getElem?_eq_some_iff.1 hb).1
  unfold sortWorldK putRowK
  rw [heap_grow_old _ _ (by simpa using hg)]
  simp [putRow, mapBlock, Sort.ahead, Array.getElem?_modify, hb, onCells]
theorem grown_row {w : World} {g n : Nat} {os : Array Obj} (d : Array Ix) : w.grownBy (sortWorldK encP 6 w g 0 n d os) (some g) := by
  unfold sortWorldK putRowK
  refine ⟨rfl, rfl, rfl, by simp, fun k hk hne => ?_⟩
  rw [heap_grow_old _ _ (by simpa using hk)]
  have : g ≠ k := fun e => hne (by rw [e])
  simp [putRow, mapBlock, Sort.ahead, Array.getElem?_modify, this]
theorem take_putV (cur ts : Array Value) (h : ts.size ≤ cur.size) : (putCells id 0 ts cur).toList.take ts.size = ts.toList := by
  apply List.ext_getElem?
  intro j
  by_cases hj : j < ts.size
  · rw [List.getElem?_take_of_lt hj, Array.getElem?_toList, Array.getElem?_toList]
    simp [putCells, hj, show j < cur.size by omega]
  · rw [List.getElem?_take_eq_none (by omega), List.getElem?_eq_none (by simp; omega)]
/-- Behind the sort the same slice owns what is sorted. -/
theorem owns_sorted {w W : World} {base g cap n : Nat} {l : List Lt} {d : Array Ix} (h : w.ownsRow base 42 6 (.slice (some ⟨g, 0, none⟩) n cap) n (lcells l)) (hn : n = l.length) (hd : d.size = n) (S : SWK encP 6 w g 0 d W) :
    W.ownsRow base 42 6 (.slice (some ⟨g, 0, none⟩) n cap) n (lcells (d.toList.map Prod.fst)) ∧ w.grownBy W (some g) := by
  obtain ⟨m, os, rfl⟩ := S
  refine ⟨?_, grown_row d⟩
  rcases h.2 with ⟨hv, _⟩ | ⟨g', cap', cur, hv, hb, hh, h1, h2, h3, h4⟩
  · cases hv
  · cases hv
    have hz : (flatK encP 6 d).size = n * 6 := by rw [size_flatK, hd]
    refine ⟨by rw [lcells_length]; simp [hd], .inr ⟨g, cap, _, rfl, hb, heap_row d hh, h1, h2, by simp [putCells, h3], ?_⟩⟩
    rw [← hz, ← flat_cells]
    exact take_putV _ _ (by rw [hz, h3]; exact Nat.mul_le_mul_right _ h1)

theorem aEL : ∀ w, (isAgg 42).run Try.prog w = .ok true w := Try.isAgg42
theorem zEL : ∀ w, (Go.sizeOf 42).run Try.prog w = .ok 6 w := Try.sizeOf42
theorem cmpP_lays (blk off size : Nat) (w : World) : CmpLays Try.prog 75 #[] encP 6 cfP blk off size w := fun m os dk hd x y => compare_grown x.1 y.1 _

/-- What a sort in place leaves: the row's slice owns what is sorted. -/
def SortedTo (w0 : Nat) (v : Value) (l : List Lt) (w : World) (e : Ending) (w' : World) : Prop :=
  e = .returned (.tuple #[]) ∧ ∃ out, Stab l out ∧ w'.ownsRow w0 42 6 v l.length (lcells out) ∧ Below w0 w w'

theorem stable_row (base g n cap : Nat) (l : List Lt) (w : World) (hn : n = l.length) (hlen : l.length < 1152921504606846976) (h : w.ownsRow base 42 6 (.slice (some ⟨g, 0, none⟩) n cap) n (lcells l)) :
    Calls Try.prog 89 #[.slice (some ⟨g, 0, none⟩) n cap, .int .i64 n, .func (.func 75) #[] #[]] w (SortedTo base (.slice (some ⟨g, 0, none⟩) n cap) l w) := by
  have hz := rowOf_size l
  have hg := (h.lt g rfl)
  have hc := stable_any 6 aEL zEL encP cfP ltP swoP 75 #[] g 0 cap (rowOf l) w (enters_of Try.func75 (by kernel_rfl) rfl) (cmpP_lays _ _ _ _)
    ⟨encP_length, encP_one, holds_row h hn, hg.2⟩ (by omega) (rowOf_agree l)
  rw [hz, ← hn] at hc
  refine hc.mono ?_
  rintro e w' ⟨rfl, d, S, hd, hp, hs⟩
  rw [hn, ← hz] at hp hs
  have ho := owns_sorted h hn (by rw [hd, hz, hn]) S
  refine ⟨rfl, _, stab_of hp hs, by rw [hn] at ho ⊢; exact ho.1, ?_⟩
  exact (Below.refl base w).grown ho.2 (by omega) (fun j hj => by cases hj; exact hg.1)
end Go.Proofs.Ytddnfikjfmfhfaa
end
section
/- slices.SortStableFunc, SortedStableFunc over lots; lot.Sort. -/
namespace Go.Proofs.Ytddnfikjfmfhfaa
open Go.ChangeShapes Go.WideShapes Go.ChangeAt Go.RowKit Go.Shelf Go.Lib Go.Sort Go.Proofs
set_option linter.unusedVariables false

theorem base_less {w : World} {base base' e size n : Nat} {v : Value} {xs : List Value} (h : w.ownsRow base e size v n xs) (hb : base' ≤ base) : w.ownsRow base' e size v n xs := by
  obtain ⟨h1, h2⟩ := h
  refine ⟨h1, ?_⟩
  rcases h2 with h2 | ⟨g, cap, cur, h3, h4, h5⟩
  · exact .inl h2
  · exact .inr ⟨g, cap, cur, h3, Nat.le_trans hb h4, h5⟩
theorem insert_nil (w : World) : Calls Try.prog 91 #[.slice none 0 0, .int .i64 0, .int .i64 0, .func (.func 75) #[] #[]] w fun e w' => e = .returned (.tuple #[]) ∧ w = w' := by
  go_enter Try.func91, Try.ntmps91
  go_wp2
  go_loop [8] (fun i => i = .int .i64 1) (fun _ => 0)
  case atStart => rfl
  case round =>
    obtain rfl := hrel
    go_wp2
    go_end0
    exact ⟨rfl, rfl⟩
theorem stable_nil (w : World) : Calls Try.prog 89 #[.slice none 0 0, .int .i64 0, .func (.func 75) #[] #[]] w fun e w' => e = .returned (.tuple #[]) ∧ w = w' := by
  go_enter Try.func89, Try.ntmps89
  go_wp2
  go_loop [7, 8] (fun a b => a = .int .i64 0 ∧ b = .int .i64 20) (fun _ _ => 0)
  case atStart => exact ⟨rfl, rfl⟩
  case round =>
    obtain ⟨rfl, rfl⟩ := hrel
    go_wp2_with (go_at_call 91; ((with_reducible refine (insert_nil _).mono ?_); rintro e w1 ⟨rfl, rfl⟩))
    go_loop [6] (fun i => i = .int .i64 20) (fun _ => 0)
    case atStart => rfl
    case round =>
      obtain rfl := hrel
      go_wp2
      go_end0
      exact ⟨rfl, rfl⟩

theorem below_own {w W : World} {base : Nat} {v : Value} {l : List Lt} (h : w.ownsRow base 42 6 v l.length (lcells l)) : (v = .slice none 0 0 ∧ l = []) ∨ ∃ g cap, v = .slice (some ⟨g, 0, none⟩) l.length cap := by
  rcases h.2 with ⟨rfl, h0⟩ | ⟨g, cap, cur, rfl, _⟩
  · exact .inl ⟨rfl, List.eq_nil_of_length_eq_zero h0⟩
  · exact .inr ⟨g, cap, rfl⟩

theorem sortStable_any (base : Nat) (v : Value) (l : List Lt) (w : World) (hlen : l.length < 1152921504606846976) (hB : base ≤ w.heap.size) (h : w.ownsRow base 42 6 v l.length (lcells l)) :
    Calls Try.prog 83 #[v, .func (.func 75) #[] #[]] w (SortedTo base v l w) := by
  rcases below_own (W := w) h with ⟨rfl, rfl⟩ | ⟨g, cap, rfl⟩
  · have H := Lib.hid h
    clear h
    go_enter Try.func83, Try.ntmps83
    go_wp2_with (go_at_call 89; ((with_reducible refine (stable_nil _).mono ?_); rintro e w1 ⟨rfl, rfl⟩))
    go_end0
    exact ⟨rfl, [], stab_nil, H.out, Below.refl _ _⟩
  · have hc := stable_row base g l.length cap l w rfl hlen h
    have HC := Lib.hid hc
    clear hc h
    go_enter Try.func83, Try.ntmps83
    go_wp2_with (go_at_call 89; ((with_reducible refine HC.out.mono ?_); rintro e w1 ⟨rfl, hx⟩; have HX := Lib.hid hx; clear hx))
    go_end0
    exact ⟨rfl, HX.out⟩

theorem values_any (A : Option Addr) (len cap : Nat) (w : World) : Calls Try.prog 74 #[.slice A len cap] w fun e w' => e = .returned (.func (.func 84) #[] #[.pointer (some ⟨w.heap.size, 0, none⟩)]) ∧ w.alloc (.cells #[.slice A len cap] 22) = w' :=
  (callsIn_wide (n := 6)).1 ((values_in Fence.wide 6 trivial rfl A len cap w).mono fun e w' ⟨h1, h2⟩ => ⟨h1, h2.symm⟩)

/-- What is told of a list, sorted: lots of its own memory. -/
def SortsTo (l : List Lt) (w : World) (e : Ending) (w' : World) : Prop := ∃ v out, e = .returned v ∧ Stab l out ∧ w'.ownsRow w.heap.size 42 6 v out.length (lcells out) ∧ Below w.heap.size w w'

theorem collect_any (Bs cap : Nat) (A : Option Addr) (zs : List Lt) (hlen : zs.length * 56 ≤ 140737488355328) (n₀ : Nat) (w : World) (hn₀ : n₀ ≤ w.heap.size) (hBs : Bs < w.heap.size) (hc : w.cell? ⟨Bs, 0, none⟩ = some (.slice A zs.length cap)) (hl : Lies w n₀ A (lcells zs)) :
    Calls Try.prog 82 #[.func (.func 84) #[] #[.pointer (some ⟨Bs, 0, none⟩)]] w (Collected w zs) :=
  (callsIn_wide (n := 9)).1 (collect_in Fence.wide 9 trivial trivial rfl (by omega) 84 _ trivial (enters_of Try.func84 (by kernel_rfl) rfl) n₀ zs hlen _ w hn₀
    (values_stops Fence.wide 7 trivial rfl (by omega) Bs n₀ cap A zs (by omega) w hBs hn₀ hc hl))

set_option maxHeartbeats 1000000 in
theorem sortedStable_any (Bs cap : Nat) (A : Option Addr) (zs : List Lt) (hlen : zs.length * 56 ≤ 140737488355328) (n₀ : Nat) (w : World) (hn₀ : n₀ ≤ w.heap.size) (hBs : Bs < w.heap.size) (hc : w.cell? ⟨Bs, 0, none⟩ = some (.slice A zs.length cap)) (hl : Lies w n₀ A (lcells zs)) :
    Calls Try.prog 73 #[.func (.func 84) #[] #[.pointer (some ⟨Bs, 0, none⟩)], .func (.func 75) #[] #[]] w (SortsTo zs w) := by
  have HC := Lib.hid (collect_any Bs cap A zs hlen n₀ w hn₀ hBs hc hl)
  have HL := Lib.hid hlen
  clear hc hl hlen
  go_enter Try.func73, Try.ntmps73
  go_wp2_with (first
    | (go_at_call 82; ((with_reducible refine HC.out.mono ?_); rintro e w1 ⟨v, rfl, hrow, hnil, hb⟩; have HR := Lib.hid hrow; have HB := Lib.hid hb; clear hrow hnil hb))
    | (go_at_call 83; ((with_reducible refine (sortStable_any w.heap.size v zs w1 (by have := HL.out; omega) HB.out.size HR.out).mono ?_); rintro e w2 ⟨rfl, hx⟩; have HX := Lib.hid hx; clear hx)))
  go_ret
  obtain ⟨out, hs, ho, hb⟩ := HX.out
  exact ⟨v, out, rfl, hs, by rw [hs.length]; exact ho, HB.out.trans hb⟩

set_option maxHeartbeats 1000000 in
theorem sort_any (v : Value) (l : List Lt) (w : World) (hlen : l.length * 56 ≤ 140737488355328) (hv : LSl w w.heap.size v l) :
    Calls Try.prog 59 #[v] w (SortsTo l w) := by
  obtain ⟨A, c, rfl, h1, h2, hz, hl⟩ := hv
  have hsort := sortedStable_any w.heap.size c A l hlen w.heap.size (w.alloc (.cells #[.slice A l.length c] 22)) (by simp) (by simp) (by have := (Boxed.new w 22 (.slice A l.length c)).cell; exact this) (hl.alloc_ (Nat.le_refl _) _)
  have HS := Lib.hid hsort
  clear hsort hl
  go_enter Try.func59, Try.ntmps59
  go_wp2_with (first
    | (go_at_call 74; ((with_reducible refine (values_any A l.length c w).mono ?_); rintro e w1 ⟨rfl, rfl⟩))
    | (go_at_call 73; ((with_reducible refine HS.out.mono ?_); rintro e w2 ⟨v, out, rfl, hs, ho, hb⟩; have HH := Lib.hid (And.intro hs (And.intro ho hb)); clear hs ho hb)))
  go_ret
  obtain ⟨hs, ho, hb⟩ := HH.out
  exact ⟨v, out, rfl, hs, base_less ho (by simp), below_alloc2 _ hb⟩
end Go.Proofs.Ytddnfikjfmfhfaa
end
section
/- Rows that are grown by append, at whatever element; shelves: a map from items to rows of lots that lie apart. No walk. -/
namespace Go.Proofs.Ytddnfikjfmfhfaa
open Go.ChangeShapes Go.WideShapes Go.ChangeAt Go.RowKit Go.Maps
set_option linter.unusedVariables false

/-- What an append leaves: the row itself, longer; or a new one, and nothing that was there has turned. -/
def Grew (w w' : World) (v v' : Value) (n m : Nat) : Prop :=
  (∃ g cap, v = .slice (some ⟨g, 0, none⟩) n cap ∧ v' = .slice (some ⟨g, 0, none⟩) (n + m) cap ∧ w.grownBy w' (some g)) ∨
  (∃ cap, v' = .slice (some ⟨w.heap.size, 0, none⟩) (n + m) cap ∧ w.grownBy w' none)

theorem run_append_two {P : Program} (w : World) (base : Nat) (t ty e : TypeId) (i : TypeInfo) (z : Value) (size bytes : Nat) (ht : P.underlying t = some (.slice e)) (hi : P.info? e = some i) (hz : i.zero = some z)
    (hsize : i.size = size) (hby : i.bytes = bytes) (hzs : z.cells.size = size) (hsz : 0 < size) (v : Value) (n : Nat) (xs : List Value) (hown : w.ownsRow base e size v n xs)
    (a : Addr) (m c : Nat) (news : List Value) (hl : news.length = m * size) (hnews : ∀ j u, news[j]? = some u → w.cell? (a.add j) = some u) (h1 : ∀ u ∈ news, u.oneCell' = true) (hm : 0 < m)
    (h63 : n + m ≤ maxLen) (hbytes : (n + m) * bytes ≤ 140737488355328) (hbase : base ≤ w.heap.size) :
    ∃ v' w', (Builtin.append_ #[t, t] ty #[v, .slice (some a) m c]).run P w = .ok v' w' ∧ w'.ownsRow base e size v' (n + m) (xs ++ news) ∧ Grew w w' v v' n m := by
  have hform : ∀ {v' : Value} {w' : World}, w'.ownsRow base e size v' (n + m) (xs ++ news) → v'.ownBlock = some w.heap.size → ∃ cap, v' = .slice (some ⟨w.heap.size, 0, none⟩) (n + m) cap := by
    intro v' w' h hb
    rcases h.2 with ⟨_, h0⟩ | ⟨g, cap, cur, hv, _⟩
    · omega
    · subst hv
      have : g = w.heap.size := by simpa [Value.ownBlock] using hb
      subst this
      exact ⟨cap, rfl⟩
  rcases hown.2 with ⟨rfl, rfl⟩ | ⟨g, cap, cur, rfl, hbg, hg, hnc, hcm, hcs, htake⟩
  · obtain ⟨v', w', hr, h2, h3, h4, h5⟩ := run_append_own_at (P := P) w base t ty e i z size bytes ht hi hz hsize hby hzs hsz _ 0 xs hown a m c news hl hnews h1 h63 hbytes hbase
    have hb : v'.ownBlock = some w.heap.size := by
      rcases h5 with h5 | h5
      · rcases h2.2 with ⟨_, h0⟩ | ⟨g, cap, cur, hv, _⟩
        · omega
        · subst hv; simp [Value.ownBlock] at h5
      · exact h5
    obtain ⟨cap, hv⟩ := hform h2 hb
    exact ⟨v', w', hr, h2, .inr ⟨cap, hv, h3⟩⟩
  · by_cases hroom : n + m ≤ cap
    · obtain ⟨w', hr, h2, h3⟩ := run_append_fits (P := P) w base t ty e i size ht hi hsize g n cap xs hown a m c news hl hnews h1 hroom
      exact ⟨_, w', hr, h2, .inl ⟨g, cap, rfl, rfl, h3⟩⟩
    · subst hsize
      subst hby
      have hr := run_append_grow (P := P) w t ty e i z ht hi hz ⟨g, 0, none⟩ n cap xs hown.1 (hown.cells (g := g) rfl) a m c news hl hnews (by omega) (by unfold maxLen at h63; omega) (growslice_fits (by omega) hbytes)
      have hge := grownCap_ge w (n + m) cap e
      have hcm2 := grownCap_le_maxLen w (n + m) cap e h63
      have hlen : (xs ++ news).length = (n + m) * i.size := by rw [List.length_append, hown.1, hl, Nat.add_mul]
      refine ⟨_, _, hr, ⟨hlen, .inr ⟨w.heap.size, _, _, rfl, hbase, heap_alloc_new w.drew _, hge, hcm2, ?_, ?_⟩⟩, .inr ⟨_, rfl, ⟨rfl, rfl, rfl, by simp, fun k hk _ => Below.heap_alloc w.drew _ k hk⟩⟩⟩
      · simp only [Array.size_append, List.size_toArray, size_zeroCells, hzs, hown.1, hl, ← Nat.add_mul]
        congr 1
        omega
      · simp only [Array.toList_append, List.append_assoc]
        rw [← List.append_assoc, ← hlen]
        exact List.take_left

theorem wpList_append_two {P : Program} (w : World) {ops : Array Oper} {rest : List Oper} {o : Oper} {a : Act} {Q : Exit → Act → World → Prop} (hgd : o.guard = none) (s x : Operand) (t : TypeId)
    (ho : o.op = .call { callee := .builtin .append, args := #[s, x], argTypes := #[t, t] })
    (base : Nat) (e : TypeId) (i : TypeInfo) (z : Value) (size bytes : Nat) (ht : P.underlying t = some (.slice e)) (hi : P.info? e = some i) (hz : i.zero = some z)
    (hsize : i.size = size) (hby : i.bytes = bytes) (hzs : z.cells.size = size) (hsz : 0 < size)
    (v : Value) (n : Nat) (xs : List Value) (hs : a.eval s = v) (hown : w.ownsRow base e size v n xs)
    (ad : Addr) (m c : Nat) (news : List Value) (hx : a.eval x = .slice (some ad) m c) (hl : news.length = m * size) (hnews : ∀ j u, news[j]? = some u → w.cell? (ad.add j) = some u) (h1 : ∀ u ∈ news, u.oneCell' = true) (hm : 0 < m)
    (h63 : n + m ≤ maxLen) (hbytes : (n + m) * bytes ≤ 140737488355328) (hbase : base ≤ w.heap.size)
    (h : ∀ v' w', w'.ownsRow base e size v' (n + m) (xs ++ news) → Hid (Grew w w' v v' n m) → wpList P ops Q rest (a.put o.dst v') w') : wpList P ops Q (o :: rest) a w := by
  refine wpList_plain hgd fun K hK => ?_
  obtain ⟨v', w', hr, h2, h3⟩ := run_append_two (P := P) w base t o.type e i z size bytes ht hi hz hsize hby hzs hsz v n xs hown ad m c news hl hnews h1 hm h63 hbytes hbase
  unfold Oper.wp execOp
  simp only [ho, resolve, invoke, builtin, Sem.run_bind, Sem.run_pure, Result.andThen_ok, List.map_toArray, List.map_cons, List.map_nil, hs, hx, hr]
  exact hK _ _ (h v' w' h2 h3)

/-- A row's beginning is a row. -/
theorem own_prefix {w : World} {base e size g n m cap : Nat} {xs : List Value} (h : w.ownsRow base e size (.slice (some ⟨g, 0, none⟩) (n + m) cap) (n + m) xs) :
    w.ownsRow base e size (.slice (some ⟨g, 0, none⟩) n cap) n (xs.take (n * size)) := by
  have hle : n * size ≤ (n + m) * size := Nat.mul_le_mul_right _ (by omega)
  refine ⟨by rw [List.length_take, h.1]; omega, ?_⟩
  rcases h.2 with ⟨hv, _⟩ | ⟨g', cap', cur, hv, hb, hh, hnc, hcm, hcs, htake⟩
  · cases hv
  · injection hv with h1 h2 h3
    injection h1 with h1
    injection h1 with h1
    subst h1 h3
    exact .inr ⟨g, cap, cur, rfl, hb, hh, by omega, hcm, hcs, by rw [← htake, List.take_take, Nat.min_eq_left hle]⟩
/-- Rows of different kinds never lie in one block. -/
theorem own_ne {w : World} {base base' e e' size size' n n' b : Nat} {v v' : Value} {xs xs' : List Value} (h : w.ownsRow base e size v n xs) (h' : w.ownsRow base' e' size' v' n' xs') (hne : e ≠ e') (hb : v.ownBlock = some b) : v'.ownBlock ≠ some b := by
  intro hb'
  rcases h.2 with ⟨rfl, _⟩ | ⟨g, cap, cur, rfl, _, hh, _⟩
  · simp [Value.ownBlock] at hb
  · rcases h'.2 with ⟨rfl, _⟩ | ⟨g', cap', cur', rfl, _, hh', _⟩
    · simp [Value.ownBlock] at hb'
    · simp [Value.ownBlock] at hb hb'
      subst hb hb'
      rw [hh] at hh'
      injection hh' with hh'
      injection hh' with _ ht
      exact hne ht
/-- A row that is not empty: where it lies. -/
theorem own_some {w : World} {base e size n : Nat} {v : Value} {xs : List Value} (h : w.ownsRow base e size v n xs) (hn : 0 < n) : ∃ g cap, v = .slice (some ⟨g, 0, none⟩) n cap ∧ base ≤ g ∧ g < w.heap.size ∧ n ≤ cap ∧ cap ≤ maxLen := by
  have hlt := h.lt
  rcases h.2 with ⟨_, h0⟩ | ⟨g, cap, cur, hv, hb, _, hnc, hcm, _⟩
  · omega
  · subst hv
    exact ⟨g, cap, rfl, hb, (hlt g rfl).2, hnc, hcm⟩

/-- .. at a step of a region that draws its order. -/
theorem step_append_two {P : Program} {w : World} {ops : Array Oper} {o : Oper} {a : Act} {K' : Act → World → Prop} {Q : Exit → Act → World → Prop} {E : Prop} (hgd : o.guard = none) (s x : Operand) (t : TypeId)
    (ho : o.op = .call { callee := .builtin .append, args := #[s, x], argTypes := #[t, t] })
    (base : Nat) (e : TypeId) (i : TypeInfo) (z : Value) (size bytes : Nat) (ht : P.underlying t = some (.slice e)) (hi : P.info? e = some i) (hz : i.zero = some z)
    (hsize : i.size = size) (hby : i.bytes = bytes) (hzs : z.cells.size = size) (hsz : 0 < size)
    (v : Value) (n : Nat) (xs : List Value) (hs : a.eval s = v) (hown : w.ownsRow base e size v n xs)
    (ad : Addr) (m c : Nat) (news : List Value) (hx : a.eval x = .slice (some ad) m c) (hl : news.length = m * size) (hnews : ∀ j u, news[j]? = some u → w.cell? (ad.add j) = some u) (h1 : ∀ u ∈ news, u.oneCell' = true) (hm : 0 < m)
    (h63 : n + m ≤ maxLen) (hbytes : (n + m) * bytes ≤ 140737488355328) (hbase : base ≤ w.heap.size)
    (h : ∀ v' w', w'.ownsRow base e size v' (n + m) (xs ++ news) → Hid (Grew w w' v v' n m) → K' (a.put o.dst v') w') :
    if Region.wanted o (yielded ops a.tmps) = true then Oper.wp P o a w K' Q else E := by
  have hw : Region.wanted o (yielded ops a.tmps) = true := by simp [Region.wanted, hgd]
  rw [if_pos hw]
  obtain ⟨v', w', hr, h2, h3⟩ := run_append_two (P := P) w base t o.type e i z size bytes ht hi hz hsize hby hzs hsz v n xs hown ad m c news hl hnews h1 hm h63 hbytes hbase
  unfold Oper.wp execOp
  simp only [ho, resolve, invoke, builtin, Sem.run_bind, Sem.run_pure, Result.andThen_ok, List.map_toArray, List.map_cons, List.map_nil, hs, hx, hr]
  exact h v' w' h2 h3
theorem Grew.row {w w' : World} {v v' : Value} {n m : Nat} (h : Grew w w' v v' n m) : w.grownBy w' v.ownBlock := by
  rcases h with ⟨g, cap, rfl, _, hg⟩ | ⟨cap, _, hg⟩
  · exact hg
  · exact ⟨hg.os, hg.tape, hg.output, hg.size, fun k hk _ => hg.block k hk (by simp)⟩
theorem Grew.where_ {w w' : World} {v v' : Value} {n m : Nat} (h : Grew w w' v v' n m) : v'.ownBlock = v.ownBlock ∨ v'.ownBlock = some w.heap.size := by
  rcases h with ⟨g, cap, rfl, rfl, hg⟩ | ⟨cap, rfl, hg⟩
  · exact .inl rfl
  · exact .inr rfl

abbrev SMap (w : World) (b n : Nat) (f : List UInt8 → Value) (S : List UInt8 → Prop) : Prop := MapOf (fun s : List UInt8 => Lit.string s) Try.prog 9 (.slice none 0 0) w b n f S
def updL (f : List UInt8 → List Lt) (x : List UInt8) (l : List Lt) (y : List UInt8) : List Lt := if y = x then l else f y
theorem updL_same (f : List UInt8 → List Lt) (x : List UInt8) (l : List Lt) : updL f x l x = l := by simp [updL]
theorem updL_other (f : List UInt8 → List Lt) (x : List UInt8) (l : List Lt) (y : List UInt8) (h : y ≠ x) : updL f x l y = f y := by simp [updL, h]
/-- Shelves: in block b a map from items to rows of lots, from block base on, that lie apart. -/
structure Shelves (w : World) (base b n : Nat) (sv : List UInt8 → Value) (sh : List UInt8 → List Lt) : Prop where
  map : ∃ S, SMap w b n sv S
  rows : ∀ it, w.ownsRow base 42 6 (sv it) (sh it).length (lcells (sh it))
  apart : ∀ it it', it ≠ it' → ∀ g, (sv it).ownBlock = some g → (sv it').ownBlock ≠ some g
  under : b < base
theorem shelves_made (w : World) : Shelves (w.alloc (.map #[] 0)) (w.heap.size + 1) w.heap.size 0 (fun _ => .slice none 0 0) (fun _ => []) :=
  ⟨⟨_, mapOf_made _ _ _ _ _⟩, fun it => World.ownsRow_nil _ _ _ _, fun _ _ _ g h => by simp [Value.ownBlock] at h, Nat.lt_succ_self _⟩
theorem Shelves.kept {w w' : World} {base b n : Nat} {sv : List UInt8 → Value} {sh : List UInt8 → List Lt} {row : Option Nat} (h : Shelves w base b n sv sh) (hg : w.grownBy w' row) (hb : some b ≠ row) (hr : ∀ it, (sv it).ownBlock = none ∨ (sv it).ownBlock ≠ row) : Shelves w' base b n sv sh := by
  obtain ⟨⟨S, hm⟩, h2, h3, h4⟩ := h
  exact ⟨⟨S, hm.kept hg hb⟩, fun it => (h2 it).kept hg (hr it), h3, h4⟩
theorem Shelves.still {w w' : World} {base b n : Nat} {sv : List UInt8 → Value} {sh : List UInt8 → List Lt} (h : Shelves w base b n sv sh) (hg : w.grownBy w' none) : Shelves w' base b n sv sh := h.kept hg (by simp) (fun it => by cases (sv it).ownBlock <;> simp)
theorem Shelves.alloc {w : World} {base b n : Nat} {sv : List UInt8 → Value} {sh : List UInt8 → List Lt} (h : Shelves w base b n sv sh) (o : Obj) : Shelves (w.alloc o) base b n sv sh := h.still (World.grownBy_alloc _ _ _)
/-- Something is done to one item's row, and the map is told. -/
theorem Shelves.turn {w w1 w2 : World} {base b n : Nat} {sv : List UInt8 → Value} {sh : List UInt8 → List Lt} {it : List UInt8} {v' : Value} {l' : List Lt} {S' : List UInt8 → Prop} {n' : Nat} (h : Shelves w base b n sv sh)
    (hg : w.grownBy w1 (sv it).ownBlock) (hv : v'.ownBlock = (sv it).ownBlock ∨ v'.ownBlock = none ∨ v'.ownBlock = some w.heap.size) (ho : w1.ownsRow base 42 6 v' l'.length (lcells l'))
    (hm : SMap w2 b n' (updK sv it v') S') (hg2 : w1.grownBy w2 (some b)) : Shelves w2 base b n' (updK sv it v') (updL sh it l') := by
  obtain ⟨_, h2, h3, h4⟩ := h
  have off : ∀ {u : Value} {m : Nat} {xs : List Value} {W : World}, W.ownsRow base 42 6 u m xs → u.ownBlock = none ∨ u.ownBlock ≠ some b := fun {u m xs W} hu => by
    cases hub : u.ownBlock with
    | none => exact .inl rfl
    | some k => exact .inr (fun e => by cases e; have := (hu.lt b hub).1; omega)
  refine ⟨⟨S', hm⟩, fun y => ?_, fun y y' hne g hyg => ?_, h4⟩
  · by_cases e : y = it
    · subst e; rw [updK_same, updL_same]; exact ho.kept hg2 (off ho)
    · rw [updK_other _ _ _ _ e, updL_other _ _ _ _ e]
      have h5 := (h2 y).kept hg (by
        cases hub : (sv y).ownBlock with
        | none => exact .inl rfl
        | some k => exact .inr (fun e' => h3 it y (Ne.symm e) k e'.symm hub))
      exact h5.kept hg2 (off h5)
  · by_cases e : y = it
    · subst e
      rw [updK_same] at hyg
      rw [updK_other _ _ _ _ (Ne.symm hne)]
      rcases hv with hv | hv | hv
      · exact h3 y y' hne g (by rw [← hv]; exact hyg)
      · rw [hv] at hyg; cases hyg
      · rw [hv] at hyg
        cases hyg
        intro e'
        have := ((h2 y').lt _ e').2
        omega
    · rw [updK_other _ _ _ _ e] at hyg
      by_cases e' : y' = it
      · subst e'
        rw [updK_same]
        rcases hv with hv | hv | hv
        · rw [hv]; exact h3 y y' hne g hyg
        · rw [hv]; simp
        · rw [hv]
          have := ((h2 y).lt _ hyg).2
          intro e2
          cases e2
          omega
      · rw [updK_other _ _ _ _ e']
        exact h3 y y' hne g hyg
end Go.Proofs.Ytddnfikjfmfhfaa
end
section
/- Wants: as cells, lists of them that lie somewhere. No walk. Written by gen_rec.py. -/
namespace Go.Proofs.Ytddnfikjfmfhfaa
open Go.RowKit
set_option linter.unusedVariables false

structure Wt where
  item : List UInt8
  day : Int
  qty : Int
theorem Wt.ext_ {a b : Wt} (h0 : a.item = b.item) (h1 : a.day = b.day) (h2 : a.qty = b.qty) : a = b := by cases a; cases b; simp_all
instance : DecidableEq Wt := fun a b =>
  if h : a.item = b.item ∧ a.day = b.day ∧ a.qty = b.qty then isTrue (Wt.ext_ h.1 h.2.1 h.2.2)
  else isFalse (fun e => h (by subst e; exact ⟨rfl, rfl, rfl⟩))
instance : Inhabited Wt := ⟨⟨[], 0, 0⟩⟩
def encW (x : Wt) : List Value := [strV x.item, .int .i64 x.day, .int .i64 x.qty]
theorem encW_length (x : Wt) : (encW x).length = 3 := rfl
theorem encW_one (x : Wt) : ∀ v ∈ encW x, v.oneCell' = true := fun v hv => by
  simp only [encW, List.mem_cons, List.not_mem_nil, or_false] at hv
  rcases hv with rfl | rfl | rfl <;> rfl
abbrev aggW (x : Wt) : Value := .agg #[strV x.item, .int .i64 x.day, .int .i64 x.qty]
def wcells : List Wt → List Value
  | [] => []
  | x :: l => encW x ++ wcells l
theorem wcells_length : ∀ l : List Wt, (wcells l).length = l.length * 3
  | [] => rfl
  | x :: l => by simp [wcells, encW_length, wcells_length l]; omega
theorem wcells_append : ∀ l m : List Wt, wcells (l ++ m) = wcells l ++ wcells m
  | [], m => rfl
  | x :: l, m => by simp [wcells, wcells_append l m]
theorem wcells_get : ∀ (l : List Wt) (k : Nat) (x : Wt), l[k]? = some x → ∀ c, c < 3 → (wcells l)[k * 3 + c]? = (encW x)[c]?
  | [], k, x, h, c, hc => by simp at h
  | y :: l, 0, x, h, c, hc => by
    simp at h; subst h
    simp only [wcells, Nat.zero_mul, Nat.zero_add]
    rw [List.getElem?_append_left (by simpa [encW_length] using hc)]
  | y :: l, k + 1, x, h, c, hc => by
    have := wcells_get l k x (by simpa using h) c hc
    rw [show (k + 1) * 3 + c = (encW y).length + (k * 3 + c) by rw [encW_length]; omega]
    simp only [wcells]
    rw [List.getElem?_append_right (by omega), Nat.add_sub_cancel_left]
    exact this
theorem wcells_one : ∀ (l : List Wt), ∀ u ∈ wcells l, u.oneCell' = true
  | [], u, h => by simp [wcells] at h
  | x :: l, u, h => by
    simp only [wcells, List.mem_append] at h
    rcases h with h | h
    · exact encW_one x u h
    · exact wcells_one l u h
theorem wcells_take (l : List Wt) (k : Nat) (hk : k ≤ l.length) : (wcells l).take (k * 3) = wcells (l.take k) := by
  have h := wcells_append (l.take k) (l.drop k)
  rw [List.take_append_drop] at h
  rw [h, List.take_append_of_le_length (by rw [wcells_length, List.length_take]; omega), List.take_of_length_le (by rw [wcells_length, List.length_take]; omega)]
/-- A slice value that reads as a list of these. -/
def WSl (w : World) (B : Nat) (v : Value) (l : List Wt) : Prop := ∃ A c, v = .slice A l.length c ∧ l.length ≤ c ∧ c ≤ maxLen ∧ (A = none → c = 0) ∧ Lies w B A (wcells l)
theorem WSl.below {w w' : World} {B : Nat} {v : Value} {l : List Wt} (h : WSl w B v l) (hb : Below B w w') : WSl w' B v l := by
  obtain ⟨A, c, h1, h2, h3, hz, h4⟩ := h
  exact ⟨A, c, h1, h2, h3, hz, h4.below hb⟩
theorem WSl.mono {w : World} {B B' : Nat} {v : Value} {l : List Wt} (h : WSl w B v l) (hB : B ≤ B') : WSl w B' v l := by
  obtain ⟨A, c, h1, h2, h3, hz, h4⟩ := h
  exact ⟨A, c, h1, h2, h3, hz, h4.mono hB⟩
theorem WSl.own {w : World} {base e : Nat} {v : Value} {l : List Wt} (h : w.ownsRow base e 3 v l.length (wcells l)) : WSl w w.heap.size v l := by
  obtain ⟨A, c, rfl, h1, h2, hz⟩ := own_form h
  exact ⟨A, c, rfl, h1, h2, hz, Lies.own h⟩
theorem WSl.nil {w : World} {B : Nat} : WSl w B (.slice none 0 0) [] := ⟨none, 0, rfl, Nat.le_refl _, by simp [maxLen], fun _ => rfl, Lies.none⟩
theorem WSl.at_ {w W : World} {v : Value} {l : List Wt} (h : WSl w w.heap.size v l) (hb : Below w.heap.size w W) : WSl W W.heap.size v l := (h.below hb).mono hb.size
theorem WSl.alloc_ {w : World} {B : Nat} {v : Value} {l : List Wt} (h : WSl w B v l) (hB : B ≤ w.heap.size) (o : Obj) : WSl (w.alloc o) B v l := h.below ((Below.refl _ _).alloc hB o)
/-- The cells of one, at p and behind it. -/
def RowW (w : World) (p : Addr) (x : Wt) : Prop := w.cell? p = some (strV x.item) ∧ w.cell? ⟨p.block, p.off + 1, none⟩ = some (.int .i64 x.day) ∧ w.cell? ⟨p.block, p.off + 2, none⟩ = some (.int .i64 x.qty)
theorem Lies.rowW {w : World} {B : Nat} {A : Option Addr} {l : List Wt} (h : Lies w B A (wcells l)) {k : Nat} {x : Wt} (hk : l[k]? = some x) :
    ∃ ad, A = some ad ∧ ad.block < B ∧ RowW w (ad.add (k * 3)) x := by
  have hlt := (List.getElem?_eq_some_iff.1 hk).1
  obtain ⟨ad, hA, hb, hc⟩ := h (by intro e; have := wcells_length l; rw [e] at this; simp at this; omega)
  have g : ∀ c u, c < 3 → (encW x)[c]? = some u → w.cell? ((ad.add (k * 3)).add c) = some u := fun c u hc6 hu => by
    rw [addr_add]
    exact hc _ u (by rw [wcells_get l k x hk c hc6]; exact hu)
  refine ⟨ad, hA, hb, ?_, ?_, ?_⟩
  · have := g 0 _ (by omega) rfl; simpa [Addr.add] using this
  · have := g 1 _ (by omega) rfl; rwa [addr_up _ _ (by omega)] at this
  · have := g 2 _ (by omega) rfl; rwa [addr_up _ _ (by omega)] at this
/-- One whose fields a program can hold. -/
def Wt.Fits (x : Wt) : Prop := x.item.length ≤ maxLen ∧ -9223372036854775808 ≤ x.day ∧ x.day ≤ 9223372036854775807 ∧ -9223372036854775808 ≤ x.qty ∧ x.qty ≤ 9223372036854775807
def SizedW (l : List Wt) : Prop := ∀ x ∈ l, x.Fits
end Go.Proofs.Ytddnfikjfmfhfaa
end
section
/- Scalars of flow: amount.Right, flow.rightWant, flow.canServe. Written by gen_fsc.py. -/
namespace Go.Proofs.Ytddnfikjfmfhfaa
open Go.ChangeShapes Go.WideShapes Go.ChangeAt Go.RowKit
set_option linter.unusedVariables false

def amountB (q : Int) : Bool := decide (0 ≤ q ∧ q ≤ 1125899906842624)
def wantB (x : Wt) : Bool := rightL x.item && (decide (0 ≤ x.day ∧ x.day ≤ 4000) && decide (1 ≤ x.qty ∧ x.qty ≤ 1125899906842624))
def servesB (l : Lt) (x : Wt) : Bool := decide (l.item = x.item) && hasB l.fr l.un x.day
theorem amount_any (q : Int) (w : World) : Calls Try.prog 72 #[.int .i64 q] w fun e w' => e = .returned (.bool (amountB q)) ∧ w = w' := by
  by_cases h0 : 0 ≤ q
  · by_cases h1 : q ≤ 1125899906842624
    · have hv : amountB q = true := by unfold amountB; simp; omega
      rw [hv]; clear hv
      go_enter Try.func72, Try.ntmps72
      go_wp2
      go_ret
      exact ⟨rfl, rfl⟩
    · have hv : amountB q = false := by unfold amountB; simp; omega
      have d1 : decide (q ≤ 1125899906842624) = false := decide_eq_false h1
      rw [hv]; clear hv
      go_enter Try.func72, Try.ntmps72
      go_wp2
      go_ret
      exact ⟨rfl, rfl⟩
  · have hv : amountB q = false := by unfold amountB; simp; omega
    have d0 : decide (0 ≤ q) = false := decide_eq_false h0
    rw [hv]; clear hv
    go_enter Try.func72, Try.ntmps72
    go_wp2
    go_ret
    exact ⟨rfl, rfl⟩
theorem amount_b (b : Bool) (q : Int) (w : World) (h : amountB q = b) : Calls Try.prog 72 #[.int .i64 q] w fun e w' => e = .returned (.bool b) ∧ w = w' := by
  rw [← h]; exact amount_any q w
theorem cright_b (b : Bool) (s : List UInt8) (w : World) (h : rightL s = b) : Calls Try.prog 68 #[.string ⟨s.toArray⟩] w fun e w' => e = .returned (.bool b) ∧ Below w.heap.size w w' := by
  cases b
  · exact cright_no s w h
  · exact cright_yes s w h
theorem has_b (b : Bool) (f u d : Int) (w : World) (h : hasB f u d = b) : Calls Try.prog 28 #[.agg #[.int .i64 f, .int .i64 u], .int .i64 d] w fun e w' => e = .returned (.bool b) ∧ Below w.heap.size w w' := by
  rw [← h]; exact has_any f u d w
set_option maxHeartbeats 2000000 in
theorem rightWant_any (x : Wt) (w : World) : Calls Try.prog 56 #[aggW x] w fun e w' => e = .returned (.bool (wantB x)) ∧ Below w.heap.size w w' := by
  by_cases h0 : rightL x.item = true
  ·
    by_cases h1 : 0 ≤ x.day
    ·
      by_cases h2 : x.day ≤ 4000
      ·
        by_cases h3 : 1 ≤ x.qty
        ·
          by_cases h4 : x.qty ≤ 1125899906842624
          ·
            have H0 : Hid (rightL x.item = true) := Lib.hid (by simpa using h0)
            have d1 : decide (0 ≤ x.day) = true := decide_eq_true h1
            have d2 : decide (x.day ≤ 4000) = true := decide_eq_true h2
            have d3 : decide (1 ≤ x.qty) = true := decide_eq_true h3
            have d4 : decide (x.qty ≤ 1125899906842624) = true := decide_eq_true h4
            have hv : wantB x = true := by unfold wantB; simp [H0.out]; try omega
            have H4 : Hid (amountB x.qty = true) := Lib.hid (by unfold amountB; simp; omega)
            rw [hv]
            clear hv h0
            go_enter Try.func56, Try.ntmps56
            go_wp2_with (first | (go_at_call 68; ((with_reducible refine (cright_b _ x.item _ H0.out).mono ?_); rintro e w1 ⟨rfl, hb1⟩; obtain ⟨hc1, hf1⟩ := bcell hb1; have hz1 : w.heap.size < w1.heap.size := by (have := hb1.size; simp only [World.size_alloc] at this; omega))) | (go_at_call 72; ((with_reducible refine (amount_b _ x.qty _ H4.out).mono ?_); rintro e w2 ⟨rfl, rfl⟩)))
            go_ret
            exact ⟨rfl, below_alloc2 _ hb1⟩
          ·
            have H0 : Hid (rightL x.item = true) := Lib.hid (by simpa using h0)
            have d1 : decide (0 ≤ x.day) = true := decide_eq_true h1
            have d2 : decide (x.day ≤ 4000) = true := decide_eq_true h2
            have d3 : decide (1 ≤ x.qty) = true := decide_eq_true h3
            have d4 : decide (x.qty ≤ 1125899906842624) = false := decide_eq_false h4
            have hv : wantB x = false := by unfold wantB; simp [H0.out]; try omega
            have H4 : Hid (amountB x.qty = false) := Lib.hid (by unfold amountB; simp; omega)
            rw [hv]
            clear hv h0
            go_enter Try.func56, Try.ntmps56
            go_wp2_with (first | (go_at_call 68; ((with_reducible refine (cright_b _ x.item _ H0.out).mono ?_); rintro e w1 ⟨rfl, hb1⟩; obtain ⟨hc1, hf1⟩ := bcell hb1; have hz1 : w.heap.size < w1.heap.size := by (have := hb1.size; simp only [World.size_alloc] at this; omega))) | (go_at_call 72; ((with_reducible refine (amount_b _ x.qty _ H4.out).mono ?_); rintro e w2 ⟨rfl, rfl⟩)))
            go_ret
            exact ⟨rfl, below_alloc2 _ hb1⟩
        ·
          have H0 : Hid (rightL x.item = true) := Lib.hid (by simpa using h0)
          have d1 : decide (0 ≤ x.day) = true := decide_eq_true h1
          have d2 : decide (x.day ≤ 4000) = true := decide_eq_true h2
          have d3 : decide (1 ≤ x.qty) = false := decide_eq_false h3
          have hv : wantB x = false := by unfold wantB; simp [H0.out]; try omega
          rw [hv]
          clear hv h0
          go_enter Try.func56, Try.ntmps56
          go_wp2_with (first | (go_at_call 68; ((with_reducible refine (cright_b _ x.item _ H0.out).mono ?_); rintro e w1 ⟨rfl, hb1⟩; obtain ⟨hc1, hf1⟩ := bcell hb1; have hz1 : w.heap.size < w1.heap.size := by (have := hb1.size; simp only [World.size_alloc] at this; omega))))
          go_ret
          exact ⟨rfl, below_alloc2 _ hb1⟩
      ·
        have H0 : Hid (rightL x.item = true) := Lib.hid (by simpa using h0)
        have d1 : decide (0 ≤ x.day) = true := decide_eq_true h1
        have d2 : decide (x.day ≤ 4000) = false := decide_eq_false h2
        have hv : wantB x = false := by unfold wantB; simp [H0.out]; try omega
        rw [hv]
        clear hv h0
        go_enter Try.func56, Try.ntmps56
        go_wp2_with (first | (go_at_call 68; ((with_reducible refine (cright_b _ x.item _ H0.out).mono ?_); rintro e w1 ⟨rfl, hb1⟩; obtain ⟨hc1, hf1⟩ := bcell hb1; have hz1 : w.heap.size < w1.heap.size := by (have := hb1.size; simp only [World.size_alloc] at this; omega))))
        go_ret
        exact ⟨rfl, below_alloc2 _ hb1⟩
    ·
      have H0 : Hid (rightL x.item = true) := Lib.hid (by simpa using h0)
      have d1 : decide (0 ≤ x.day) = false := decide_eq_false h1
      have hv : wantB x = false := by unfold wantB; simp [H0.out]; try omega
      rw [hv]
      clear hv h0
      go_enter Try.func56, Try.ntmps56
      go_wp2_with (first | (go_at_call 68; ((with_reducible refine (cright_b _ x.item _ H0.out).mono ?_); rintro e w1 ⟨rfl, hb1⟩; obtain ⟨hc1, hf1⟩ := bcell hb1; have hz1 : w.heap.size < w1.heap.size := by (have := hb1.size; simp only [World.size_alloc] at this; omega))))
      go_ret
      exact ⟨rfl, below_alloc2 _ hb1⟩
  ·
    have H0 : Hid (rightL x.item = false) := Lib.hid (by simpa using h0)
    have hv : wantB x = false := by unfold wantB; simp [H0.out]; try omega
    rw [hv]
    clear hv h0
    go_enter Try.func56, Try.ntmps56
    go_wp2_with (first | (go_at_call 68; ((with_reducible refine (cright_b _ x.item _ H0.out).mono ?_); rintro e w1 ⟨rfl, hb1⟩; obtain ⟨hc1, hf1⟩ := bcell hb1; have hz1 : w.heap.size < w1.heap.size := by (have := hb1.size; simp only [World.size_alloc] at this; omega))))
    go_ret
    exact ⟨rfl, below_alloc2 _ hb1⟩
theorem rightWant_b (b : Bool) (x : Wt) (w : World) (h : wantB x = b) : Calls Try.prog 56 #[aggW x] w fun e w' => e = .returned (.bool b) ∧ Below w.heap.size w w' := by
  rw [← h]; exact rightWant_any x w
theorem str_eq' (a b : List UInt8) : ((⟨a.toArray⟩ : ByteArray).toList == (⟨b.toArray⟩ : ByteArray).toList) = decide (a = b) := by
  rw [ByteArray.toList_eq, ByteArray.toList_eq]
  by_cases h : a = b <;> simp [h]
set_option maxHeartbeats 2000000 in
theorem canServe_any (l : Lt) (x : Wt) (w : World) : Calls Try.prog 41 #[aggL l, aggW x] w fun e w' => e = .returned (.bool (servesB l x)) ∧ Below w.heap.size w w' := by
  by_cases h0 : l.item = x.item
  · have hv : servesB l x = hasB l.fr l.un x.day := by unfold servesB; simp [h0]
    have he : (l.item == x.item) = true := by simp [h0]
    rw [hv]
    clear hv h0
    obtain ⟨b, hb⟩ : ∃ b, hasB l.fr l.un x.day = b := ⟨_, rfl⟩
    rw [hb]
    have HB := Lib.hid hb
    clear hb
    go_enter Try.func41, Try.ntmps41
    go_wp2_with (go_at_call 28; ((with_reducible refine (has_b b l.fr l.un x.day _ HB.out).mono ?_); rintro e w1 ⟨rfl, hb1⟩))
    go_ret
    exact ⟨rfl, below_alloc2 _ (below_alloc2 _ hb1)⟩
  · have hv : servesB l x = false := by unfold servesB; simp [h0]
    have he : (l.item == x.item) = false := beq_eq_false_iff_ne.2 h0
    rw [hv]
    clear hv h0
    go_enter Try.func41, Try.ntmps41
    go_wp2
    go_ret
    exact ⟨rfl, below_alloc2 _ (below_alloc1 _ _)⟩
theorem canServe_b (b : Bool) (l : Lt) (x : Wt) (w : World) (h : servesB l x = b) : Calls Try.prog 41 #[aggL l, aggW x] w fun e w' => e = .returned (.bool b) ∧ Below w.heap.size w w' := by
  rw [← h]; exact canServe_any l x w
end Go.Proofs.Ytddnfikjfmfhfaa
end
section
/- Uses: as cells, lists of them that lie somewhere. No walk. Written by gen_rec.py. -/
namespace Go.Proofs.Ytddnfikjfmfhfaa
open Go.RowKit
set_option linter.unusedVariables false

structure Us where
  want : Int
  lot : Int
  qty : Int
theorem Us.ext_ {a b : Us} (h0 : a.want = b.want) (h1 : a.lot = b.lot) (h2 : a.qty = b.qty) : a = b := by cases a; cases b; simp_all
instance : DecidableEq Us := fun a b =>
  if h : a.want = b.want ∧ a.lot = b.lot ∧ a.qty = b.qty then isTrue (Us.ext_ h.1 h.2.1 h.2.2)
  else isFalse (fun e => h (by subst e; exact ⟨rfl, rfl, rfl⟩))
instance : Inhabited Us := ⟨⟨0, 0, 0⟩⟩
def encU (x : Us) : List Value := [.int .i64 x.want, .int .i64 x.lot, .int .i64 x.qty]
theorem encU_length (x : Us) : (encU x).length = 3 := rfl
theorem encU_one (x : Us) : ∀ v ∈ encU x, v.oneCell' = true := fun v hv => by
  simp only [encU, List.mem_cons, List.not_mem_nil, or_false] at hv
  rcases hv with rfl | rfl | rfl <;> rfl
abbrev aggU (x : Us) : Value := .agg #[.int .i64 x.want, .int .i64 x.lot, .int .i64 x.qty]
def ucells : List Us → List Value
  | [] => []
  | x :: l => encU x ++ ucells l
theorem ucells_length : ∀ l : List Us, (ucells l).length = l.length * 3
  | [] => rfl
  | x :: l => by simp [ucells, encU_length, ucells_length l]; omega
theorem ucells_append : ∀ l m : List Us, ucells (l ++ m) = ucells l ++ ucells m
  | [], m => rfl
  | x :: l, m => by simp [ucells, ucells_append l m]
theorem ucells_get : ∀ (l : List Us) (k : Nat) (x : Us), l[k]? = some x → ∀ c, c < 3 → (ucells l)[k * 3 + c]? = (encU x)[c]?
  | [], k, x, h, c, hc => by simp at h
  | y :: l, 0, x, h, c, hc => by
    simp at h; subst h
    simp only [ucells, Nat.zero_mul, Nat.zero_add]
    rw [List.getElem?_append_left (by simpa [encU_length] using hc)]
  | y :: l, k + 1, x, h, c, hc => by
    have := ucells_get l k x (by simpa using h) c hc
    rw [show (k + 1) * 3 + c = (encU y).length + (k * 3 + c) by rw [encU_length]; omega]
    simp only [ucells]
    rw [List.getElem?_append_right (by omega), Nat.add_sub_cancel_left]
    exact this
theorem ucells_one : ∀ (l : List Us), ∀ u ∈ ucells l, u.oneCell' = true
  | [], u, h => by simp [ucells] at h
  | x :: l, u, h => by
    simp only [ucells, List.mem_append] at h
    rcases h with h | h
    · exact encU_one x u h
    · exact ucells_one l u h
theorem ucells_take (l : List Us) (k : Nat) (hk : k ≤ l.length) : (ucells l).take (k * 3) = ucells (l.take k) := by
  have h := ucells_append (l.take k) (l.drop k)
  rw [List.take_append_drop] at h
  rw [h, List.take_append_of_le_length (by rw [ucells_length, List.length_take]; omega), List.take_of_length_le (by rw [ucells_length, List.length_take]; omega)]
/-- A slice value that reads as a list of these. -/
def USl (w : World) (B : Nat) (v : Value) (l : List Us) : Prop := ∃ A c, v = .slice A l.length c ∧ l.length ≤ c ∧ c ≤ maxLen ∧ (A = none → c = 0) ∧ Lies w B A (ucells l)
theorem USl.below {w w' : World} {B : Nat} {v : Value} {l : List Us} (h : USl w B v l) (hb : Below B w w') : USl w' B v l := by
  obtain ⟨A, c, h1, h2, h3, hz, h4⟩ := h
  exact ⟨A, c, h1, h2, h3, hz, h4.below hb⟩
theorem USl.mono {w : World} {B B' : Nat} {v : Value} {l : List Us} (h : USl w B v l) (hB : B ≤ B') : USl w B' v l := by
  obtain ⟨A, c, h1, h2, h3, hz, h4⟩ := h
  exact ⟨A, c, h1, h2, h3, hz, h4.mono hB⟩
theorem USl.own {w : World} {base e : Nat} {v : Value} {l : List Us} (h : w.ownsRow base e 3 v l.length (ucells l)) : USl w w.heap.size v l := by
  obtain ⟨A, c, rfl, h1, h2, hz⟩ := own_form h
  exact ⟨A, c, rfl, h1, h2, hz, Lies.own h⟩
theorem USl.nil {w : World} {B : Nat} : USl w B (.slice none 0 0) [] := ⟨none, 0, rfl, Nat.le_refl _, by simp [maxLen], fun _ => rfl, Lies.none⟩
theorem USl.at_ {w W : World} {v : Value} {l : List Us} (h : USl w w.heap.size v l) (hb : Below w.heap.size w W) : USl W W.heap.size v l := (h.below hb).mono hb.size
theorem USl.alloc_ {w : World} {B : Nat} {v : Value} {l : List Us} (h : USl w B v l) (hB : B ≤ w.heap.size) (o : Obj) : USl (w.alloc o) B v l := h.below ((Below.refl _ _).alloc hB o)
/-- The cells of one, at p and behind it. -/
def RowU (w : World) (p : Addr) (x : Us) : Prop := w.cell? p = some (.int .i64 x.want) ∧ w.cell? ⟨p.block, p.off + 1, none⟩ = some (.int .i64 x.lot) ∧ w.cell? ⟨p.block, p.off + 2, none⟩ = some (.int .i64 x.qty)
theorem Lies.rowU {w : World} {B : Nat} {A : Option Addr} {l : List Us} (h : Lies w B A (ucells l)) {k : Nat} {x : Us} (hk : l[k]? = some x) :
    ∃ ad, A = some ad ∧ ad.block < B ∧ RowU w (ad.add (k * 3)) x := by
  have hlt := (List.getElem?_eq_some_iff.1 hk).1
  obtain ⟨ad, hA, hb, hc⟩ := h (by intro e; have := ucells_length l; rw [e] at this; simp at this; omega)
  have g : ∀ c u, c < 3 → (encU x)[c]? = some u → w.cell? ((ad.add (k * 3)).add c) = some u := fun c u hc6 hu => by
    rw [addr_add]
    exact hc _ u (by rw [ucells_get l k x hk c hc6]; exact hu)
  refine ⟨ad, hA, hb, ?_, ?_, ?_⟩
  · have := g 0 _ (by omega) rfl; simpa [Addr.add] using this
  · have := g 1 _ (by omega) rfl; rwa [addr_up _ _ (by omega)] at this
  · have := g 2 _ (by omega) rfl; rwa [addr_up _ _ (by omega)] at this
/-- One whose fields a program can hold. -/
def Us.Fits (x : Us) : Prop := -9223372036854775808 ≤ x.want ∧ x.want ≤ 9223372036854775807 ∧ -9223372036854775808 ≤ x.lot ∧ x.lot ≤ 9223372036854775807 ∧ -9223372036854775808 ≤ x.qty ∧ x.qty ≤ 9223372036854775807
def SizedU (l : List Us) : Prop := ∀ x ∈ l, x.Fits
end Go.Proofs.Ytddnfikjfmfhfaa
end
section
/- slices.IndexFunc, slices.ContainsFunc, flow.allRight, at lots, wants and numbers. Written by gen_fidx.py. -/
namespace Go.Proofs.Ytddnfikjfmfhfaa
open Go.ChangeShapes Go.WideShapes Go.ChangeAt Go.RowKit Go.Shelf
set_option linter.unusedVariables false

def idxOf {α : Type} (p : α → Bool) : List α → Int
  | [] => -1
  | x :: l => if p x = true then 0 else if idxOf p l < 0 then -1 else idxOf p l + 1
theorem idxOf_any {α : Type} (p : α → Bool) : ∀ l : List α, decide (0 ≤ idxOf p l) = l.any p
  | [] => by simp [idxOf]
  | x :: l => by
    have ih := idxOf_any p l
    unfold idxOf
    rw [List.any_cons, ← ih]
    by_cases h : p x = true
    · simp [h]
    · rw [if_neg h]
      have hf : p x = false := by simpa using h
      rw [hf, Bool.false_or]
      split
      · rename_i h2
        rw [decide_eq_false (by omega), decide_eq_false (by omega)]
      · rename_i h2
        rw [decide_eq_true (by omega), decide_eq_true (by omega)]
theorem idxOf_hit {α : Type} (p : α → Bool) : ∀ (l : List α) (k : Nat) (x : α), l[k]? = some x → p x = true → (l.take k).any p = false → idxOf p l = k
  | [], k, x, h, _, _ => by simp at h
  | y :: l, 0, x, h, hp, _ => by simp at h; subst h; simp [idxOf, hp]
  | y :: l, k + 1, x, h, hp, hn => by
    simp only [List.take_succ_cons, List.any_cons, Bool.or_eq_false_iff] at hn
    have ih := idxOf_hit p l k x (by simpa using h) hp hn.2
    unfold idxOf
    rw [if_neg (by simp [hn.1]), ih, if_neg (by omega)]
    omega
theorem idxOf_none {α : Type} (p : α → Bool) (l : List α) (h : l.any p = false) : idxOf p l = -1 := by
  have h1 := idxOf_any p l
  rw [h] at h1
  have h2 : ¬ 0 ≤ idxOf p l := of_decide_eq_false h1
  cases l with
  | nil => rfl
  | cons x l =>
    unfold idxOf at h2 ⊢
    by_cases hp : p x = true
    · rw [if_pos hp] at h2; omega
    · rw [if_neg hp] at h2 ⊢
      split
      · rfl
      · rename_i h3; rw [if_neg h3] at h2; omega
theorem any_take_succ {α : Type} (p : α → Bool) {l : List α} {k : Nat} {x : α} (h : l[k]? = some x) (h0 : (l.take k).any p = false) (hx : p x = false) : (l.take (k + 1)).any p = false := by
  rw [List.take_add_one, h, List.any_append, h0]; simp [hx]

/-- What a function that tells of one answers, wherever what lay below n₀ lies. -/
def GivesL (g : Nat) (lb : Array Value) (p : Lt → Bool) (n₀ : Nat) (w : World) : Prop :=
  ∀ (x : Lt) (W : World), Below n₀ w W → Calls Try.prog g (#[.agg #[.int .i64 x.id, .string ⟨x.item.toArray⟩, .int .i64 x.fr, .int .i64 x.un, .int .i64 x.qty, .bool x.arr]] ++ lb) W fun e w' => e = .returned (.bool (p x)) ∧ Below W.heap.size W w'
theorem GivesL.at_ {g : Nat} {lb : Array Value} {p : Lt → Bool} {n₀ : Nat} {w : World} (h : GivesL g lb p n₀ w) : ∀ (x : Lt) (W : World), Below n₀ w W → Calls Try.prog g (#[.agg #[.int .i64 x.id, .string ⟨x.item.toArray⟩, .int .i64 x.fr, .int .i64 x.un, .int .i64 x.qty, .bool x.arr]] ++ lb) W fun e w' => e = .returned (.bool (p x)) ∧ Below W.heap.size W w' := h
set_option maxRecDepth 100000 in
set_option maxHeartbeats 1000000 in
theorem indexL_any (g : Nat) (lb : Array Value) (eg : ∀ args w, (callFunc g args).run Try.prog w = .ok (.enter g args) w) (p : Lt → Bool) (v : Value) (l : List Lt) (B : Nat) (w : World) (hB : B ≤ w.heap.size) (hlen : l.length ≤ 1099511627776) (hv : LSl w B v l) (hp : GivesL g lb p w.heap.size w) :
    Calls Try.prog 78 #[v, .func (.func g) #[] lb] w fun e w' => e = .returned (.int .i64 (idxOf p l)) ∧ Below w.heap.size w w' := by
  obtain ⟨A, c, rfl, hc1, hc2, hcz, hl⟩ := id hv
  have HP := Lib.hid hp
  have HL := Lib.hid hl
  clear hp hl hv
  go_enter Try.func78, Try.ntmps78
  go_wp2
  go_loopw [8] (fun i wr => ∃ k : Nat, k ≤ l.length ∧ i = .int .i64 k ∧ Hid ((l.take k).any p = false) ∧ Hid (Below w.heap.size w wr)) (fun i _ => l.length - (intOf i).toNat)
  case atStart => exact ⟨0, Nat.zero_le _, rfl, Lib.hid (by simp), Lib.hid (Below.refl _ _)⟩
  case round =>
    obtain ⟨k, hk, rfl, HN, HB⟩ := hrel
    by_cases hlt : k < l.length
    · obtain ⟨x, hx⟩ : ∃ x, l[k]? = some x := ⟨_, List.getElem?_eq_getElem hlt⟩
      obtain ⟨ad, rfl, hab, hx0, hx1, hx2, hx3, hx4, hx5⟩ := (HL.out.below (HB.out.mono hB)).six hx
      have hcall := HP.out.at_ x _ HB.out
      have HX := Lib.hid hx
      clear hx
      cases hpx : p x
      · rw [hpx] at hcall
        have HC := Lib.hid hcall
        have hst : Hid ((l.take (k + 1)).any p = false) := Lib.hid (any_take_succ p HX.out HN.out hpx)
        clear hcall hpx
        go_wp2_with (go_at_fn g; ((with_reducible refine HC.out.mono ?_); rintro e w2 ⟨rfl, hb2'⟩; have hb2 := Lib.hid hb2'; clear hb2'))
        have hbn := Lib.hid (below_two HB.out hb2.out)
        clear hb2 HC
        go_roundw
        case rel => exact ⟨k + 1, by omega, by go_num, hst, hbn⟩
        case measure => simp [intOf]; omega
      · rw [hpx] at hcall
        have HC := Lib.hid hcall
        have HI := Lib.hid (idxOf_hit p l k x HX.out hpx HN.out)
        clear hcall hpx
        go_wp2_with (go_at_fn g; ((with_reducible refine HC.out.mono ?_); rintro e w2 ⟨rfl, hb2'⟩; have hb2 := Lib.hid hb2'; clear hb2'))
        go_ret
        exact ⟨by rw [HI.out]; rfl, below_two HB.out hb2.out⟩
    · obtain rfl : k = l.length := by omega
      go_wp2
      go_ret
      exact ⟨by rw [idxOf_none p l (by have := HN.out; rwa [List.take_of_length_le (Nat.le_refl _)] at this)]; rfl, HB.out⟩
theorem containsL_any (g : Nat) (lb : Array Value) (eg : ∀ args w, (callFunc g args).run Try.prog w = .ok (.enter g args) w) (p : Lt → Bool) (v : Value) (l : List Lt) (B : Nat) (w : World) (hB : B ≤ w.heap.size) (hlen : l.length ≤ 1099511627776) (hv : LSl w B v l) (hp : GivesL g lb p w.heap.size w) :
    Calls Try.prog 66 #[v, .func (.func g) #[] lb] w fun e w' => e = .returned (.bool (l.any p)) ∧ Below w.heap.size w w' := by
  have HC := Lib.hid (indexL_any g lb eg p v l B w hB hlen hv hp)
  have HV := Lib.hid (idxOf_any p l)
  obtain ⟨A, c, rfl, hc1, hc2, hcz, hl⟩ := id hv
  clear hp hv hl
  generalize idxOf p l = r at HC HV
  go_enter Try.func66, Try.ntmps66
  go_wp2_with (go_at_call 78; ((with_reducible refine HC.out.mono ?_); rintro e w2 ⟨rfl, hb2'⟩; have hb2 := Lib.hid hb2'; clear hb2'))
  go_ret
  exact ⟨by rw [← HV.out]; rfl, hb2.out⟩

/-- What a function that tells of one answers, wherever what lay below n₀ lies. -/
def GivesW (g : Nat) (lb : Array Value) (p : Wt → Bool) (n₀ : Nat) (w : World) : Prop :=
  ∀ (x : Wt) (W : World), Below n₀ w W → Calls Try.prog g (#[.agg #[.string ⟨x.item.toArray⟩, .int .i64 x.day, .int .i64 x.qty]] ++ lb) W fun e w' => e = .returned (.bool (p x)) ∧ Below W.heap.size W w'
theorem GivesW.at_ {g : Nat} {lb : Array Value} {p : Wt → Bool} {n₀ : Nat} {w : World} (h : GivesW g lb p n₀ w) : ∀ (x : Wt) (W : World), Below n₀ w W → Calls Try.prog g (#[.agg #[.string ⟨x.item.toArray⟩, .int .i64 x.day, .int .i64 x.qty]] ++ lb) W fun e w' => e = .returned (.bool (p x)) ∧ Below W.heap.size W w' := h
set_option maxRecDepth 100000 in
set_option maxHeartbeats 1000000 in
theorem indexW_any (g : Nat) (lb : Array Value) (eg : ∀ args w, (callFunc g args).run Try.prog w = .ok (.enter g args) w) (p : Wt → Bool) (v : Value) (l : List Wt) (B : Nat) (w : World) (hB : B ≤ w.heap.size) (hlen : l.length ≤ 1099511627776) (hv : WSl w B v l) (hp : GivesW g lb p w.heap.size w) :
    Calls Try.prog 81 #[v, .func (.func g) #[] lb] w fun e w' => e = .returned (.int .i64 (idxOf p l)) ∧ Below w.heap.size w w' := by
  obtain ⟨A, c, rfl, hc1, hc2, hcz, hl⟩ := id hv
  have HP := Lib.hid hp
  have HL := Lib.hid hl
  clear hp hl hv
  go_enter Try.func81, Try.ntmps81
  go_wp2
  go_loopw [8] (fun i wr => ∃ k : Nat, k ≤ l.length ∧ i = .int .i64 k ∧ Hid ((l.take k).any p = false) ∧ Hid (Below w.heap.size w wr)) (fun i _ => l.length - (intOf i).toNat)
  case atStart => exact ⟨0, Nat.zero_le _, rfl, Lib.hid (by simp), Lib.hid (Below.refl _ _)⟩
  case round =>
    obtain ⟨k, hk, rfl, HN, HB⟩ := hrel
    by_cases hlt : k < l.length
    · obtain ⟨x, hx⟩ : ∃ x, l[k]? = some x := ⟨_, List.getElem?_eq_getElem hlt⟩
      obtain ⟨ad, rfl, hab, hx0, hx1, hx2⟩ := (HL.out.below (HB.out.mono hB)).rowW hx
      have hcall := HP.out.at_ x _ HB.out
      have HX := Lib.hid hx
      clear hx
      cases hpx : p x
      · rw [hpx] at hcall
        have HC := Lib.hid hcall
        have hst : Hid ((l.take (k + 1)).any p = false) := Lib.hid (any_take_succ p HX.out HN.out hpx)
        clear hcall hpx
        go_wp2_with (go_at_fn g; ((with_reducible refine HC.out.mono ?_); rintro e w2 ⟨rfl, hb2'⟩; have hb2 := Lib.hid hb2'; clear hb2'))
        have hbn := Lib.hid (below_two HB.out hb2.out)
        clear hb2 HC
        go_roundw
        case rel => exact ⟨k + 1, by omega, by go_num, hst, hbn⟩
        case measure => simp [intOf]; omega
      · rw [hpx] at hcall
        have HC := Lib.hid hcall
        have HI := Lib.hid (idxOf_hit p l k x HX.out hpx HN.out)
        clear hcall hpx
        go_wp2_with (go_at_fn g; ((with_reducible refine HC.out.mono ?_); rintro e w2 ⟨rfl, hb2'⟩; have hb2 := Lib.hid hb2'; clear hb2'))
        go_ret
        exact ⟨by rw [HI.out]; rfl, below_two HB.out hb2.out⟩
    · obtain rfl : k = l.length := by omega
      go_wp2
      go_ret
      exact ⟨by rw [idxOf_none p l (by have := HN.out; rwa [List.take_of_length_le (Nat.le_refl _)] at this)]; rfl, HB.out⟩
theorem containsW_any (g : Nat) (lb : Array Value) (eg : ∀ args w, (callFunc g args).run Try.prog w = .ok (.enter g args) w) (p : Wt → Bool) (v : Value) (l : List Wt) (B : Nat) (w : World) (hB : B ≤ w.heap.size) (hlen : l.length ≤ 1099511627776) (hv : WSl w B v l) (hp : GivesW g lb p w.heap.size w) :
    Calls Try.prog 70 #[v, .func (.func g) #[] lb] w fun e w' => e = .returned (.bool (l.any p)) ∧ Below w.heap.size w w' := by
  have HC := Lib.hid (indexW_any g lb eg p v l B w hB hlen hv hp)
  have HV := Lib.hid (idxOf_any p l)
  obtain ⟨A, c, rfl, hc1, hc2, hcz, hl⟩ := id hv
  clear hp hv hl
  generalize idxOf p l = r at HC HV
  go_enter Try.func70, Try.ntmps70
  go_wp2_with (go_at_call 81; ((with_reducible refine HC.out.mono ?_); rintro e w2 ⟨rfl, hb2'⟩; have hb2 := Lib.hid hb2'; clear hb2'))
  go_ret
  exact ⟨by rw [← HV.out]; rfl, hb2.out⟩

set_option maxHeartbeats 1000000 in
theorem notRightL (b n₀ : Nat) (w : World) (hb : b < n₀) (hn : n₀ ≤ w.heap.size) (hc : w.cell? ⟨b, 0, none⟩ = some (.func (.func 54) #[] #[])) : GivesL 67 #[.pointer (some ⟨b, 0, none⟩)] (fun x => !lrightB x) n₀ w := by
  intro x W hW
  have hcW := (hW.cell (p := ⟨b, 0, none⟩) hb).trans hc
  have hbW : b < W.heap.size := by have := hW.size; omega
  have hr := lright_any x
  obtain ⟨r, hrr⟩ : ∃ r, lrightB x = r := ⟨_, rfl⟩
  simp only [hrr] at hr ⊢
  have HR := Lib.hid hr
  have eg := enters_of Try.func54 (by kernel_rfl) rfl
  clear hr hrr hW hc
  show Calls Try.prog 67 #[.agg #[.int .i64 x.id, .string ⟨x.item.toArray⟩, .int .i64 x.fr, .int .i64 x.un, .int .i64 x.qty, .bool x.arr], .pointer (some ⟨b, 0, none⟩)] W _
  go_enter Try.func67, Try.ntmps67
  go_wp2_with (first | (go_at_call 54; ((with_reducible refine (HR.out _).mono ?_); rintro e w2 ⟨rfl, hb2'⟩; have hb2 := Lib.hid hb2'; clear hb2')) | (go_at_fn 54; ((with_reducible refine (HR.out _).mono ?_); rintro e w2 ⟨rfl, hb2'⟩; have hb2 := Lib.hid hb2'; clear hb2')))
  go_ret
  exact ⟨rfl, below_alloc2 _ hb2.out⟩
theorem any_not_all {α : Type} (p : α → Bool) : ∀ l : List α, (!l.any (fun x => !p x)) = l.all p
  | [] => rfl
  | x :: l => by rw [List.any_cons, List.all_cons, ← any_not_all p l, Bool.not_or, Bool.not_not]
set_option maxHeartbeats 1000000 in
theorem allRightL_any (v : Value) (l : List Lt) (w : World) (hlen : l.length ≤ 1099511627776) (hv : LSl w w.heap.size v l) :
    Calls Try.prog 53 #[v, .func (.func 54) #[] #[]] w fun e w' => e = .returned (.bool (l.all lrightB)) ∧ Below w.heap.size w w' := by
  have hbx : (w.alloc (.cells #[.func (.func 54) #[] #[]] 77)).cell? ⟨w.heap.size, 0, none⟩ = some (.func (.func 54) #[] #[]) := by
    have := fresh_cell w #[.func (.func 54) #[] #[]] 77 0
    rwa [addr0] at this
  have HC := Lib.hid (containsL_any 67 #[.pointer (some ⟨w.heap.size, 0, none⟩)] (enters_of Try.func67 (by kernel_rfl) rfl) (fun x => !lrightB x) v l w.heap.size (w.alloc (.cells #[.func (.func 54) #[] #[]] 77)) (by simp) hlen (hv.alloc_ (Nat.le_refl _) _)
    (notRightL w.heap.size _ _ (by simp) (Nat.le_refl _) hbx))
  have HV := Lib.hid (any_not_all lrightB l)
  obtain ⟨A, c, rfl, hc1, hc2, hcz, hl⟩ := id hv
  clear hv hl hbx
  generalize l.any (fun x => !lrightB x) = r at HC HV
  rw [← HV.out]
  go_enter Try.func53, Try.ntmps53
  go_wp2_with (go_at_call 66; ((with_reducible refine HC.out.mono ?_); rintro e w2 ⟨rfl, hb2'⟩; have hb2 := Lib.hid hb2'; clear hb2'))
  go_ret
  exact ⟨rfl, below_alloc2 _ hb2.out⟩

set_option maxHeartbeats 1000000 in
theorem notRightW (b n₀ : Nat) (w : World) (hb : b < n₀) (hn : n₀ ≤ w.heap.size) (hc : w.cell? ⟨b, 0, none⟩ = some (.func (.func 56) #[] #[])) : GivesW 71 #[.pointer (some ⟨b, 0, none⟩)] (fun x => !wantB x) n₀ w := by
  intro x W hW
  have hcW := (hW.cell (p := ⟨b, 0, none⟩) hb).trans hc
  have hbW : b < W.heap.size := by have := hW.size; omega
  have hr := rightWant_any x
  obtain ⟨r, hrr⟩ : ∃ r, wantB x = r := ⟨_, rfl⟩
  simp only [hrr] at hr ⊢
  have HR := Lib.hid hr
  have eg := enters_of Try.func56 (by kernel_rfl) rfl
  clear hr hrr hW hc
  show Calls Try.prog 71 #[.agg #[.string ⟨x.item.toArray⟩, .int .i64 x.day, .int .i64 x.qty], .pointer (some ⟨b, 0, none⟩)] W _
  go_enter Try.func71, Try.ntmps71
  go_wp2_with (first | (go_at_call 56; ((with_reducible refine (HR.out _).mono ?_); rintro e w2 ⟨rfl, hb2'⟩; have hb2 := Lib.hid hb2'; clear hb2')) | (go_at_fn 56; ((with_reducible refine (HR.out _).mono ?_); rintro e w2 ⟨rfl, hb2'⟩; have hb2 := Lib.hid hb2'; clear hb2')))
  go_ret
  exact ⟨rfl, below_alloc2 _ hb2.out⟩
set_option maxHeartbeats 1000000 in
theorem allRightW_any (v : Value) (l : List Wt) (w : World) (hlen : l.length ≤ 1099511627776) (hv : WSl w w.heap.size v l) :
    Calls Try.prog 55 #[v, .func (.func 56) #[] #[]] w fun e w' => e = .returned (.bool (l.all wantB)) ∧ Below w.heap.size w w' := by
  have hbx : (w.alloc (.cells #[.func (.func 56) #[] #[]] 78)).cell? ⟨w.heap.size, 0, none⟩ = some (.func (.func 56) #[] #[]) := by
    have := fresh_cell w #[.func (.func 56) #[] #[]] 78 0
    rwa [addr0] at this
  have HC := Lib.hid (containsW_any 71 #[.pointer (some ⟨w.heap.size, 0, none⟩)] (enters_of Try.func71 (by kernel_rfl) rfl) (fun x => !wantB x) v l w.heap.size (w.alloc (.cells #[.func (.func 56) #[] #[]] 78)) (by simp) hlen (hv.alloc_ (Nat.le_refl _) _)
    (notRightW w.heap.size _ _ (by simp) (Nat.le_refl _) hbx))
  have HV := Lib.hid (any_not_all wantB l)
  obtain ⟨A, c, rfl, hc1, hc2, hcz, hl⟩ := id hv
  clear hv hl hbx
  generalize l.any (fun x => !wantB x) = r at HC HV
  rw [← HV.out]
  go_enter Try.func55, Try.ntmps55
  go_wp2_with (go_at_call 70; ((with_reducible refine HC.out.mono ?_); rintro e w2 ⟨rfl, hb2'⟩; have hb2 := Lib.hid hb2'; clear hb2'))
  go_ret
  exact ⟨rfl, below_alloc2 _ hb2.out⟩
end Go.Proofs.Ytddnfikjfmfhfaa
end
