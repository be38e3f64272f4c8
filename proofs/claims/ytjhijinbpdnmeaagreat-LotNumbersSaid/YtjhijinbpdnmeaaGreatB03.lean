/- Texts of this proof, one behind the other. -/
import Derived.Sort.OwnSortedInts
import Derived.RangeFuncCalls
import Derived.Handy
import Derived.Laws.EntriesVeiled
import Derived.Laws.StructEq
import Derived.Deep.QuietTactic
import Derived.BigQuiet
import Derived.Deep.RegionHeld3
import Derived.Shelf.SlSortCmp.QuietGrown
import Derived.Test.YtjhijinbpdnmeaaGreatB02
section
/- slices.SortStableFunc, SortedStableFunc over lots; lot.Sort. -/
namespace Go.Proofs.YtjhijinbpdnmeaaGreat
open Go.ChangeShapes Go.WideShapes Go.ChangeAt Go.RowKit Go.Shelf Go.Lib Go.Sort Go.Proofs
set_option linter.unusedVariables false

def encP (p : Ix) : List Value := encL p.1
theorem encP_length (p : Ix) : (encP p).length = 6 := rfl
theorem encP_one (p : Ix) : ∀ v ∈ encP p, v.oneCell' = true := encL_one p.1

theorem flat_cells (d : Array Ix) : (flatK encP 6 d).toList = lcells (d.toList.map Prod.fst) := by
  apply List.ext_getElem?
  intro t
  by_cases ht : t < d.size * 6
  · have hz : t < (flatK encP 6 d).size := by simpa using ht
    rw [Array.getElem?_toList, Array.getElem?_eq_getElem hz]
    have e1 : (flatK encP 6 d)[t] = (flatK encP 6 d)[t]! := (getElem!_pos _ t hz).symm
    rw [e1, get_flatK _ _ _ _ ht]
    have hk : t / 6 < d.size := by omega
    have hx : (d.toList.map Prod.fst)[t / 6]? = some d[t / 6]!.1 := by
      rw [List.getElem?_map, Array.getElem?_toList, Array.getElem?_eq_getElem hk, getElem!_pos d _ hk]; rfl
    have := lcells_get _ _ _ hx (t % 6) (by omega)
    rw [show t / 6 * 6 + t % 6 = t by omega] at this
    rw [this]
    have hm : t % 6 < (encL d[t / 6]!.1).length := by rw [encL_length]; omega
    rw [List.getElem?_eq_getElem hm]
    unfold encP
    rw [getElem!_pos (encL d[t / 6]!.1) _ hm]
  · rw [List.getElem?_eq_none (by simp; omega), List.getElem?_eq_none (by rw [lcells_length]; simp; omega)]
theorem flat_row (l : List Lt) : (flatK encP 6 (rowOf l)).toList = lcells l := by
  rw [flat_cells]
  unfold rowOf
  rw [List.zipIdx_map_fst]

theorem holds_row {w : World} {base g n cap : Nat} {l : List Lt} (h : w.ownsRow base 41 6 (.slice (some ⟨g, 0, none⟩) n cap) n (lcells l)) (hn : n = l.length) : HoldsK encP 6 w g 0 (rowOf l) := by
  intro j hj
  have hj' : j < (lcells l).length := by rw [lcells_length]; simpa [rowOf_size] using hj
  have e1 : (flatK encP 6 (rowOf l))[j]! = (lcells l)[j] := by
    rw [getElem!_pos _ j hj]
    have : (flatK encP 6 (rowOf l)).toList[j]? = (lcells l)[j]? := by rw [flat_row]
    rw [Array.getElem?_toList, Array.getElem?_eq_getElem hj, List.getElem?_eq_getElem hj'] at this
    exact Option.some.inj this
  rw [Nat.zero_add]
  refine ⟨?_, h.frozenAt j⟩
  rw [h.cellAt j (by rw [lcells_length] at hj'; omega), List.getElem?_eq_getElem hj', e1]
  rfl

theorem heap_row {w : World} {g n : Nat} {os : Array Obj} {cur : Array Value} {e : TypeId} {fr : Nat × Nat} (d : Array Ix) (hb : w.heap[g]? = some (.cells cur e fr)) :
    (sortWorldK encP 6 w g 0 n d os).heap[g]? = some (.cells (putCells id 0 (flatK encP 6 d) cur) e fr) := by
  have hg : g < w.heap.size := (Array.getElem?_eq_some_iff.1 hb).1
  unfold sortWorldK putRowK
  rw [heap_grow_old _ _ (by simpa using hg)]
  simp [putRow, mapBlock, Sort.ahead, Array.getElem?_modify, hb, onCells]
theorem grown_row {w : World} {g n : Nat} {os : Array Obj} (d : Array Ix) : w.grownBy (sortWorldK encP 6 w g 0 n d os) (some g) := by
  unfold sortWorldK putRowK
  refine ⟨rfl, rfl, rfl, by simp, fun k hk hne => ?_⟩
  rw [heap_grow_old _ _ (by simpa using hk)]
  have : g ≠ k := fun e => hne (by rw [e])
  simp [putRow, mapBlock, Sort.ahead, Array.getElem?_modify, this]
theorem take_putV (cur ts : Array Value) (h : ts.size ≤ cur.size) : (putCells id 0 ts cur).toList.take ts.size = ts.toList := by
  apply List.ext_getElem?
  intro j
  by_cases hj : j < ts.size
  · rw [List.getElem?_take_of_lt hj, Array.getElem?_toList, Array.getElem?_toList]
    simp [putCells, hj, show j < cur.size by omega]
  · rw [List.getElem?_take_eq_none (by omega), List.getElem?_eq_none (by simp; omega)]
/-- Behind the sort the same slice owns what is sorted. -/
theorem owns_sorted {w W : World} {base g cap n : Nat} {l : List Lt} {d : Array Ix} (h : w.ownsRow base 41 6 (.slice (some ⟨g, 0, none⟩) n cap) n (lcells l)) (hn : n = l.length) (hd : d.size = n) (S : SWK encP 6 w g 0 d W) :
    W.ownsRow base 41 6 (.slice (some ⟨g, 0, none⟩) n cap) n (lcells (d.toList.map Prod.fst)) ∧ w.grownBy W (some g) := by
  obtain ⟨m, os, rfl⟩ := S
  refine ⟨?_, grown_row d⟩
  rcases h.2 with ⟨hv, _⟩ | ⟨g', cap', cur, hv, hb, hh, h1, h2, h3, h4⟩
  · cases hv
  · cases hv
    have hz : (flatK encP 6 d).size = n * 6 := by rw [size_flatK, hd]
    refine ⟨by rw [lcells_length]; simp [hd], .inr ⟨g, cap, _, rfl, hb, heap_row d hh, h1, h2, by simp [putCells, h3], ?_⟩⟩
    rw [← hz, ← flat_cells]
    exact take_putV _ _ (by rw [hz, h3]; exact Nat.mul_le_mul_right _ h1)

theorem aEL : ∀ w, (isAgg 41).run Tryz.prog w = .ok true w := Tryz.isAgg41
theorem zEL : ∀ w, (Go.sizeOf 41).run Tryz.prog w = .ok 6 w := Tryz.sizeOf41
theorem cmpP_lays (blk off size : Nat) (w : World) : CmpLays Tryz.prog 26 #[] encP 6 cfP blk off size w := fun m os dk hd x y => compare_grown x.1 y.1 _

/-- What a sort in place leaves: the row's slice owns what is sorted. -/
def SortedTo (w0 : Nat) (v : Value) (l : List Lt) (w : World) (e : Ending) (w' : World) : Prop :=
  e = .returned (.tuple #[]) ∧ ∃ out, Stab l out ∧ w'.ownsRow w0 41 6 v l.length (lcells out) ∧ Below w0 w w'

theorem stable_row (base g n cap : Nat) (l : List Lt) (w : World) (hn : n = l.length) (hlen : l.length < 1152921504606846976) (h : w.ownsRow base 41 6 (.slice (some ⟨g, 0, none⟩) n cap) n (lcells l)) :
    Calls Tryz.prog 73 #[.slice (some ⟨g, 0, none⟩) n cap, .int .i64 n, .func (.func 26) #[] #[]] w (SortedTo base (.slice (some ⟨g, 0, none⟩) n cap) l w) := by
  have hz := rowOf_size l
  have hg := (h.lt g rfl)
  have hc := stable_any 6 aEL zEL encP cfP ltP swoP 26 #[] g 0 cap (rowOf l) w (enters_of Tryz.func26 (by kernel_rfl) rfl) (cmpP_lays _ _ _ _)
    ⟨encP_length, encP_one, holds_row h hn, hg.2⟩ (by omega) (rowOf_agree l)
  rw [hz, ← hn] at hc
  refine hc.mono ?_
  rintro e w' ⟨rfl, d, S, hd, hp, hs⟩
  rw [hn, ← hz] at hp hs
  have ho := owns_sorted h hn (by rw [hd, hz, hn]) S
  refine ⟨rfl, _, stab_of hp hs, by rw [hn] at ho ⊢; exact ho.1, ?_⟩
  exact (Below.refl base w).grown ho.2 (by omega) (fun j hj => by cases hj; exact hg.1)
end Go.Proofs.YtjhijinbpdnmeaaGreat
end
section
/- slices.SortStableFunc, SortedStableFunc over lots; lot.Sort. -/
namespace Go.Proofs.YtjhijinbpdnmeaaGreat
open Go.ChangeShapes Go.WideShapes Go.ChangeAt Go.RowKit Go.Shelf Go.Lib Go.Sort Go.Proofs
set_option linter.unusedVariables false

theorem base_less {w : World} {base base' e size n : Nat} {v : Value} {xs : List Value} (h : w.ownsRow base e size v n xs) (hb : base' ≤ base) : w.ownsRow base' e size v n xs := by
  obtain ⟨h1, h2⟩ := h
  refine ⟨h1, ?_⟩
  rcases h2 with h2 | ⟨g, cap, cur, h3, h4, h5⟩
  · exact .inl h2
  · exact .inr ⟨g, cap, cur, h3, Nat.le_trans hb h4, h5⟩
theorem insert_nil (w : World) : Calls Tryz.prog 103 #[.slice none 0 0, .int .i64 0, .int .i64 0, .func (.func 26) #[] #[]] w fun e w' => e = .returned (.tuple #[]) ∧ w = w' := by
  go_enter Tryz.func103, Tryz.ntmps103
  go_wp2
  go_loop [8] (fun i => i = .int .i64 1) (fun _ => 0)
  case atStart => rfl
  case round =>
    obtain rfl := hrel
    go_wp2
    go_end0
    exact ⟨rfl, rfl⟩
theorem stable_nil (w : World) : Calls Tryz.prog 73 #[.slice none 0 0, .int .i64 0, .func (.func 26) #[] #[]] w fun e w' => e = .returned (.tuple #[]) ∧ w = w' := by
  go_enter Tryz.func73, Tryz.ntmps73
  go_wp2
  go_loop [7, 8] (fun a b => a = .int .i64 0 ∧ b = .int .i64 20) (fun _ _ => 0)
  case atStart => exact ⟨rfl, rfl⟩
  case round =>
    obtain ⟨rfl, rfl⟩ := hrel
    go_wp2_with (go_at_call 103; ((with_reducible refine (insert_nil _).mono ?_); rintro e w1 ⟨rfl, rfl⟩))
    go_loop [6] (fun i => i = .int .i64 20) (fun _ => 0)
    case atStart => rfl
    case round =>
      obtain rfl := hrel
      go_wp2
      go_end0
      exact ⟨rfl, rfl⟩

theorem below_own {w W : World} {base : Nat} {v : Value} {l : List Lt} (h : w.ownsRow base 41 6 v l.length (lcells l)) : (v = .slice none 0 0 ∧ l = []) ∨ ∃ g cap, v = .slice (some ⟨g, 0, none⟩) l.length cap := by
  rcases h.2 with ⟨rfl, h0⟩ | ⟨g, cap, cur, rfl, _⟩
  · exact .inl ⟨rfl, List.eq_nil_of_length_eq_zero h0⟩
  · exact .inr ⟨g, cap, rfl⟩

theorem sortStable_any (base : Nat) (v : Value) (l : List Lt) (w : World) (hlen : l.length < 1152921504606846976) (hB : base ≤ w.heap.size) (h : w.ownsRow base 41 6 v l.length (lcells l)) :
    Calls Tryz.prog 41 #[v, .func (.func 26) #[] #[]] w (SortedTo base v l w) := by
  rcases below_own (W := w) h with ⟨rfl, rfl⟩ | ⟨g, cap, rfl⟩
  · have H := Lib.hid h
    clear h
    go_enter Tryz.func41, Tryz.ntmps41
    go_wp2_with (go_at_call 73; ((with_reducible refine (stable_nil _).mono ?_); rintro e w1 ⟨rfl, rfl⟩))
    go_end0
    exact ⟨rfl, [], stab_nil, H.out, Below.refl _ _⟩
  · have hc := stable_row base g l.length cap l w rfl hlen h
    have HC := Lib.hid hc
    clear hc h
    go_enter Tryz.func41, Tryz.ntmps41
    go_wp2_with (go_at_call 73; ((with_reducible refine HC.out.mono ?_); rintro e w1 ⟨rfl, hx⟩; have HX := Lib.hid hx; clear hx))
    go_end0
    exact ⟨rfl, HX.out⟩

theorem values_any (A : Option Addr) (len cap : Nat) (w : World) : Calls Tryz.prog 25 #[.slice A len cap] w fun e w' => e = .returned (.func (.func 42) #[] #[.pointer (some ⟨w.heap.size, 0, none⟩)]) ∧ w.alloc (.cells #[.slice A len cap] 22) = w' :=
  (callsIn_wide (n := 6)).1 ((values_in Fence.wide 6 trivial rfl A len cap w).mono fun e w' ⟨h1, h2⟩ => ⟨h1, h2.symm⟩)

/-- What is told of a list, sorted: lots of its own memory. -/
def SortsTo (l : List Lt) (w : World) (e : Ending) (w' : World) : Prop := ∃ v out, e = .returned v ∧ Stab l out ∧ w'.ownsRow w.heap.size 41 6 v out.length (lcells out) ∧ Below w.heap.size w w'

theorem collect_any (Bs cap : Nat) (A : Option Addr) (zs : List Lt) (hlen : zs.length * 56 ≤ 140737488355328) (n₀ : Nat) (w : World) (hn₀ : n₀ ≤ w.heap.size) (hBs : Bs < w.heap.size) (hc : w.cell? ⟨Bs, 0, none⟩ = some (.slice A zs.length cap)) (hl : Lies w n₀ A (lcells zs)) :
    Calls Tryz.prog 40 #[.func (.func 42) #[] #[.pointer (some ⟨Bs, 0, none⟩)]] w (Collected w zs) :=
  (callsIn_wide (n := 9)).1 (collect_in Fence.wide 9 trivial trivial rfl (by omega) 42 _ trivial (enters_of Tryz.func42 (by kernel_rfl) rfl) n₀ zs hlen _ w hn₀
    (values_stops Fence.wide 7 trivial rfl (by omega) Bs n₀ cap A zs (by omega) w hBs hn₀ hc hl))

set_option maxHeartbeats 1000000 in
theorem sortedStable_any (Bs cap : Nat) (A : Option Addr) (zs : List Lt) (hlen : zs.length * 56 ≤ 140737488355328) (n₀ : Nat) (w : World) (hn₀ : n₀ ≤ w.heap.size) (hBs : Bs < w.heap.size) (hc : w.cell? ⟨Bs, 0, none⟩ = some (.slice A zs.length cap)) (hl : Lies w n₀ A (lcells zs)) :
    Calls Tryz.prog 24 #[.func (.func 42) #[] #[.pointer (some ⟨Bs, 0, none⟩)], .func (.func 26) #[] #[]] w (SortsTo zs w) := by
  have HC := Lib.hid (collect_any Bs cap A zs hlen n₀ w hn₀ hBs hc hl)
  have HL := Lib.hid hlen
  clear hc hl hlen
  go_enter Tryz.func24, Tryz.ntmps24
  go_wp2_with (first
    | (go_at_call 40; ((with_reducible refine HC.out.mono ?_); rintro e w1 ⟨v, rfl, hrow, hnil, hb⟩; have HR := Lib.hid hrow; have HB := Lib.hid hb; clear hrow hnil hb))
    | (go_at_call 41; ((with_reducible refine (sortStable_any w.heap.size v zs w1 (by have := HL.out; omega) HB.out.size HR.out).mono ?_); rintro e w2 ⟨rfl, hx⟩; have HX := Lib.hid hx; clear hx)))
  go_ret
  obtain ⟨out, hs, ho, hb⟩ := HX.out
  exact ⟨v, out, rfl, hs, by rw [hs.length]; exact ho, HB.out.trans hb⟩

set_option maxHeartbeats 1000000 in
theorem sort_any (v : Value) (l : List Lt) (w : World) (hlen : l.length * 56 ≤ 140737488355328) (hv : LSl w w.heap.size v l) :
    Calls Tryz.prog 8 #[v] w (SortsTo l w) := by
  obtain ⟨A, c, rfl, h1, h2, hz, hl⟩ := hv
  have hsort := sortedStable_any w.heap.size c A l hlen w.heap.size (w.alloc (.cells #[.slice A l.length c] 22)) (by simp) (by simp) (by have := (Boxed.new w 22 (.slice A l.length c)).cell; exact this) (hl.alloc_ (Nat.le_refl _) _)
  have HS := Lib.hid hsort
  clear hsort hl
  go_enter Tryz.func8, Tryz.ntmps8
  go_wp2_with (first
    | (go_at_call 25; ((with_reducible refine (values_any A l.length c w).mono ?_); rintro e w1 ⟨rfl, rfl⟩))
    | (go_at_call 24; ((with_reducible refine HS.out.mono ?_); rintro e w2 ⟨v, out, rfl, hs, ho, hb⟩; have HH := Lib.hid (And.intro hs (And.intro ho hb)); clear hs ho hb)))
  go_ret
  obtain ⟨hs, ho, hb⟩ := HH.out
  exact ⟨v, out, rfl, hs, base_less ho (by simp), below_alloc2 _ hb⟩
end Go.Proofs.YtjhijinbpdnmeaaGreat
end
section
/- lot.keep, handed any predicate; lot.Sweep, Of, On. -/
namespace Go.Proofs.YtjhijinbpdnmeaaGreat
open Go.ChangeShapes Go.WideShapes Go.ChangeAt Go.RowKit Go.Shelf
set_option linter.unusedVariables false

theorem grown_below {w w' : World} {B : Nat} (h : Below B w w') (hB : w.heap.size ≤ B) : w.grownBy w' none := ⟨h.os, h.tape, h.output, h.size, fun i hi _ => h.block i (Nat.lt_of_lt_of_le hi hB)⟩
theorem row_below {w w' : World} {base e size n : Nat} {v : Value} {xs : List Value} (h : w.ownsRow base e size v n xs) (hb : Below w.heap.size w w') : w'.ownsRow base e size v n xs :=
  h.kept (grown_below hb (Nat.le_refl _)) (by cases h : v.ownBlock <;> simp)

/-- What a function that tells of a lot answers, wherever what lay below n₀ lies. -/
def Gives (g : Nat) (lb : Array Value) (p : Lt → Bool) (n₀ : Nat) (w : World) : Prop :=
  ∀ (x : Lt) (W : World), Below n₀ w W → Calls Tryz.prog g (#[.agg #[.int .i64 x.id, .string ⟨x.item.toArray⟩, .int .i64 x.fr, .int .i64 x.un, .int .i64 x.qty, .bool x.arr]] ++ lb) W fun e w' => e = .returned (.bool (p x)) ∧ Below W.heap.size W w'
theorem Gives.at_ {g : Nat} {lb : Array Value} {p : Lt → Bool} {n₀ : Nat} {w : World} (h : Gives g lb p n₀ w) : ∀ (x : Lt) (W : World), Below n₀ w W → Calls Tryz.prog g (#[.agg #[.int .i64 x.id, .string ⟨x.item.toArray⟩, .int .i64 x.fr, .int .i64 x.un, .int .i64 x.qty, .bool x.arr]] ++ lb) W fun e w' => e = .returned (.bool (p x)) ∧ Below W.heap.size W w' := h

/-- What is kept of a list: lots of its own memory. -/
def KeepsTo (out : List Lt) (w : World) (e : Ending) (w' : World) : Prop := ∃ v, e = .returned v ∧ w'.ownsRow w.heap.size 41 6 v out.length (lcells out) ∧ Below w.heap.size w w'

theorem filter_take_succ (p : Lt → Bool) {l : List Lt} {k : Nat} {x : Lt} (h : l[k]? = some x) : (l.take (k + 1)).filter p = (l.take k).filter p ++ (if p x = true then [x] else []) := by
  rw [List.take_add_one, h, List.filter_append]
  congr 1
  by_cases hp : p x = true <;> simp [hp]

set_option maxRecDepth 100000 in
set_option maxHeartbeats 2000000 in
theorem keep_any (g : Nat) (lb : Array Value) (eg : ∀ args w, (callFunc g args).run Tryz.prog w = .ok (.enter g args) w) (p : Lt → Bool) (v : Value) (l : List Lt) (B : Nat) (w : World) (hB : B ≤ w.heap.size) (hlen : l.length * 56 ≤ 140737488355328) (hv : LSl w B v l) (hp : Gives g lb p w.heap.size w) :
    Calls Tryz.prog 27 #[v, .func (.func g) #[] lb] w (KeepsTo (l.filter p) w) := by
  obtain ⟨i0, hi, hz0, hz1, hz2⟩ := info_parts infoLot
  obtain ⟨A, c, rfl, hc1, hc2, hcz, hl⟩ := id hv
  have H1 := Lib.hid hi
  have H2 := Lib.hid hz0
  have H3 := Lib.hid hz1
  have H4 := Lib.hid hz2
  have HP := Lib.hid hp
  have HL := Lib.hid hl
  have HZ := Lib.hid hlen
  have hln : l.length ≤ 2513169434916 := by omega
  clear hi hz0 hz1 hz2 hp hl hv hlen
  go_enter Tryz.func27, Tryz.ntmps27
  go_wp2
  go_loopw [5, 10] (fun s i wr => ∃ k : Nat, k ≤ l.length ∧ i = .int .i64 k ∧ Hid (wr.ownsRow w.heap.size 41 6 s ((l.take k).filter p).length (lcells ((l.take k).filter p))) ∧ Hid (Below w.heap.size w wr))
    (fun _ i _ => l.length - (intOf i).toNat)
  case atStart => exact ⟨0, Nat.zero_le _, rfl, Lib.hid (World.ownsRow_nil _ _ _ _), Lib.hid (Below.refl _ _)⟩
  case round =>
    obtain ⟨k, hk, rfl, HR, HB⟩ := hrel
    by_cases hlt : k < l.length
    · obtain ⟨x, hx⟩ : ∃ x, l[k]? = some x := ⟨_, List.getElem?_eq_getElem hlt⟩
      obtain ⟨ad, rfl, hab, hc0, hc1', hc2', hc3, hc4, hc5⟩ := (HL.out.below (HB.out.mono hB)).six hx
      have hcall := HP.out.at_ x _ (HB.out.alloc HB.out.size (.cells #[.int .i64 x.id, .string ⟨x.item.toArray⟩, .int .i64 x.fr, .int .i64 x.un, .int .i64 x.qty, .bool x.arr] 41))
      have HX := Lib.hid hx
      have hfl : ((l.take k).filter p).length ≤ k := Nat.le_trans (List.length_filter_le _ _) (List.length_take_le _ _)
      clear hx
      cases hpx : p x
      · rw [hpx] at hcall
        have HC := Lib.hid hcall
        have hst : Hid ((l.take (k + 1)).filter p = (l.take k).filter p) := Lib.hid (by rw [filter_take_succ p HX.out, hpx]; simp)
        clear hcall hpx
        go_wp2_with (go_at_fn g; ((with_reducible refine HC.out.mono ?_); rintro e w2 ⟨rfl, hb2'⟩; have hb2 := Lib.hid hb2'; clear hb2'))
        go_roundw
        case rel => exact ⟨k + 1, by omega, by go_num, Lib.hid (by rw [hst.out]; exact row_below (HR.out.alloc _) hb2.out), Lib.hid (HB.out.trans ((below_alloc2 _ hb2.out).mono HB.out.size))⟩
        case measure => simp [intOf]; omega
      · rw [hpx] at hcall
        have HC := Lib.hid hcall
        have hst : Hid ((l.take (k + 1)).filter p = (l.take k).filter p ++ [x]) := Lib.hid (by rw [filter_take_succ p HX.out, hpx]; simp)
        clear hcall hpx
        have hnb : Box6 (wr.alloc (.cells #[.int .i64 x.id, .string ⟨x.item.toArray⟩, .int .i64 x.fr, .int .i64 x.un, .int .i64 x.qty, .bool x.arr] 41)) wr.heap.size x := Box6.new wr x
        have HN := Lib.hid hnb
        clear hnb
        go_wp2_with (first
          | (go_at_fn g; ((with_reducible refine HC.out.mono ?_); rintro e w2 ⟨rfl, hb2'⟩; have hb2 := Lib.hid hb2'; clear hb2'; have hbx : Box6 w2 wr.heap.size x := (hb2.out.block wr.heap.size (by simp)).trans HN.out; obtain ⟨d0, d1, d2, d3, d4, d5⟩ := hbx.cells; clear hbx))
          | (at_builtin; refine wpList_append_own _ rfl _ _ 22 rfl w.heap.size 41 i0 _ 6 56 Tryz.underlying22 H1.out H2.out H3.out H4.out rfl (by decide) _ _ _ rfl ((row_below (HR.out.alloc _) hb2.out).alloc _) ⟨w2.heap.size, 0, none⟩ 1 1 (encL x) rfl rfl (six_new w2 x _) (encL_one x) (by unfold maxLen; omega) (by omega) (by have h1 := HB.out.size; have h2 := hb2.out.size; simp only [World.size_alloc] at h2 ⊢; omega) ?_; intro v' w3 hown3 hg3 _; have ho3 := Lib.hid hown3; have hG3 := Lib.hid hg3; clear hown3 hg3))
        have hb3 : Hid (Below w.heap.size w w3) := Lib.hid (by
          have h1 := HB.out.size
          have h2 := hb2.out.size
          simp only [World.size_alloc] at h2
          refine ((HB.out.trans ((below_alloc2 _ hb2.out).mono HB.out.size)).alloc (by omega) _).grown hG3.out (by simp only [World.size_alloc]; omega) (fun j hj => ?_)
          exact (HR.out.lt j hj).1)
        go_roundw
        case rel => exact ⟨k + 1, by omega, by go_num, Lib.hid (by rw [hst.out, lcells_append, List.length_append]; simpa [lcells] using ho3.out), hb3⟩
        case measure => simp [intOf]; omega
    · obtain rfl : k = l.length := by omega
      go_wp2
      go_ret
      have h := HR.out
      rw [List.take_length] at h
      exact ⟨_, rfl, h, HB.out⟩
end Go.Proofs.YtjhijinbpdnmeaaGreat
end
section
/- lot.Sweep, Of, On: what their closures tell, what they answer. -/
namespace Go.Proofs.YtjhijinbpdnmeaaGreat
open Go.ChangeShapes Go.WideShapes Go.ChangeAt Go.RowKit Go.Shelf
set_option linter.unusedVariables false

def overB (now : Int) (x : Lt) : Bool := x.arr && decide (x.un ≤ now)
def onB (day : Int) (x : Lt) : Bool := lrightB x && hasB x.fr x.un day
def ofB (s : List UInt8) (x : Lt) : Bool := decide (x.item = s)
theorem lright_yes (x : Lt) (w : World) (h : lrightB x = true) : Calls Tryz.prog 22 #[aggL x] w fun e w' => e = .returned (.bool true) ∧ Below w.heap.size w w' := by
  have := lright_any x w; rwa [h] at this
theorem lright_no (x : Lt) (w : World) (h : lrightB x = false) : Calls Tryz.prog 22 #[aggL x] w fun e w' => e = .returned (.bool false) ∧ Below w.heap.size w w' := by
  have := lright_any x w; rwa [h] at this

theorem over_any (now : Int) (b : Nat) (x : Lt) (w : World) (hb : w.cell? ⟨b, 0, none⟩ = some (.int .i64 now)) : Calls Tryz.prog 29 #[aggL x, .pointer (some ⟨b, 0, none⟩)] w fun e w' => e = .returned (.bool (overB now x)) ∧ Below w.heap.size w w' := by
  have hbl : b < w.heap.size := World.block_lt_of_cell? w ⟨b, 0, none⟩ hb
  obtain ⟨id, item, fr, un, qty, arr⟩ := x
  cases arr
  · have hv : overB now ⟨id, item, fr, un, qty, false⟩ = false := rfl
    rw [hv]
    clear hv
    go_enter Tryz.func29, Tryz.ntmps29
    go_wp2
    go_ret
    exact ⟨rfl, below_alloc1 _ _⟩
  · by_cases h : un ≤ now
    · have hd : decide (un ≤ now) = true := decide_eq_true h
      have hv : overB now ⟨id, item, fr, un, qty, true⟩ = true := by unfold overB; simp [h]
      rw [hv]
      clear hv
      go_enter Tryz.func29, Tryz.ntmps29
      go_wp2
      go_ret
      exact ⟨rfl, below_alloc1 _ _⟩
    · have hd : decide (un ≤ now) = false := decide_eq_false h
      have hv : overB now ⟨id, item, fr, un, qty, true⟩ = false := by unfold overB; simp [hd]
      rw [hv]
      clear hv
      go_enter Tryz.func29, Tryz.ntmps29
      go_wp2
      go_ret
      exact ⟨rfl, below_alloc1 _ _⟩
theorem notOver_any (now : Int) (b c : Nat) (x : Lt) (w : World) (hb : w.cell? ⟨b, 0, none⟩ = some (.int .i64 now)) (hbl : b < w.heap.size) (hc : w.cell? ⟨c, 0, none⟩ = some (.func (.func 29) #[] #[.pointer (some ⟨b, 0, none⟩)])) :
    Calls Tryz.prog 30 #[aggL x, .pointer (some ⟨c, 0, none⟩)] w fun e w' => e = .returned (.bool (!overB now x)) ∧ Below w.heap.size w w' := by
  have hcall : ∀ o : Obj, Calls Tryz.prog 29 #[aggL x, .pointer (some ⟨b, 0, none⟩)] (w.alloc o) fun e w' => e = .returned (.bool (overB now x)) ∧ Below (w.alloc o).heap.size (w.alloc o) w' := fun o => over_any now b x _ (by rw [World.cell?_alloc_lt _ _ _ hbl]; exact hb)
  have HC := Lib.hid hcall
  have hcl : c < w.heap.size := World.block_lt_of_cell? w ⟨c, 0, none⟩ hc
  clear hcall hb
  go_enter Tryz.func30, Tryz.ntmps30
  go_wp2_with (go_at_call 29; ((with_reducible refine (HC.out _).mono ?_); rintro e w1 ⟨rfl, hb1⟩))
  go_ret
  exact ⟨rfl, below_alloc2 _ hb1⟩
theorem of_any (s : List UInt8) (b : Nat) (x : Lt) (w : World) (hb : w.cell? ⟨b, 0, none⟩ = some (strV s)) : Calls Tryz.prog 28 #[aggL x, .pointer (some ⟨b, 0, none⟩)] w fun e w' => e = .returned (.bool (ofB s x)) ∧ Below w.heap.size w w' := by
  have hbl : b < w.heap.size := World.block_lt_of_cell? w ⟨b, 0, none⟩ hb
  go_enter Tryz.func28, Tryz.ntmps28
  go_wp2
  go_ret
  refine ⟨ret_bool ?_, below_alloc1 _ _⟩
  unfold ofB
  by_cases h : x.item = s
  · simp [h]
  · simp [h]
theorem on_any (day : Int) (b : Nat) (x : Lt) (w : World) (hb : w.cell? ⟨b, 0, none⟩ = some (.int .i64 day)) (hbl : b < w.heap.size) : Calls Tryz.prog 31 #[aggL x, .pointer (some ⟨b, 0, none⟩)] w fun e w' => e = .returned (.bool (onB day x)) ∧ Below w.heap.size w w' := by
  cases h1 : lrightB x
  · have hv : onB day x = false := by unfold onB; rw [h1]; rfl
    rw [hv]
    have H1 := Lib.hid h1
    clear h1 hv
    go_enter Tryz.func31, Tryz.ntmps31
    go_wp2_with (go_at_call 22; ((with_reducible refine (lright_no x _ H1.out).mono ?_); rintro e w1 ⟨rfl, hb1⟩))
    go_ret
    exact ⟨rfl, below_alloc2 _ hb1⟩
  · have hv : onB day x = hasB x.fr x.un day := by unfold onB; rw [h1]; rfl
    rw [hv]
    have H1 := Lib.hid h1
    clear h1 hv
    go_enter Tryz.func31, Tryz.ntmps31
    go_wp2_with (first
      | (go_at_call 22; ((with_reducible refine (lright_yes x _ H1.out).mono ?_); rintro e w1 ⟨rfl, hb1⟩; obtain ⟨hc, hf⟩ := bcell hb1; have hz : w.heap.size < w1.heap.size := by (have := hb1.size; simp only [World.size_alloc] at this; omega)))
      | (go_at_call 32; ((with_reducible refine (has_any x.fr x.un day _).mono ?_); rintro e w2 ⟨rfl, hb2⟩)))
    go_ret
    exact ⟨rfl, below_alloc2 _ (below_two hb1 hb2)⟩

theorem cell_at {n₀ : Nat} {w W : World} (h : Below n₀ w W) {b : Nat} {v : Value} (hb : b < n₀) (hc : w.cell? ⟨b, 0, none⟩ = some v) : W.cell? ⟨b, 0, none⟩ = some v := (h.cell (p := ⟨b, 0, none⟩) hb).trans hc
theorem over_gives (now : Int) (b : Nat) (w : World) (hb : w.cell? ⟨b, 0, none⟩ = some (.int .i64 now)) : Gives 29 #[.pointer (some ⟨b, 0, none⟩)] (overB now) w.heap.size w := fun x W hW =>
  over_any now b x W (cell_at hW (World.block_lt_of_cell? w ⟨b, 0, none⟩ hb) hb)
theorem notOver_gives (now : Int) (b c : Nat) (w : World) (hb : w.cell? ⟨b, 0, none⟩ = some (.int .i64 now)) (hc : w.cell? ⟨c, 0, none⟩ = some (.func (.func 29) #[] #[.pointer (some ⟨b, 0, none⟩)])) :
    Gives 30 #[.pointer (some ⟨c, 0, none⟩)] (fun x => !overB now x) w.heap.size w := fun x W hW =>
  notOver_any now b c x W (cell_at hW (World.block_lt_of_cell? w ⟨b, 0, none⟩ hb) hb) (Nat.lt_of_lt_of_le (World.block_lt_of_cell? w ⟨b, 0, none⟩ hb) hW.size) (cell_at hW (World.block_lt_of_cell? w ⟨c, 0, none⟩ hc) hc)
theorem of_gives (s : List UInt8) (b : Nat) (w : World) (hb : w.cell? ⟨b, 0, none⟩ = some (strV s)) : Gives 28 #[.pointer (some ⟨b, 0, none⟩)] (ofB s) w.heap.size w := fun x W hW =>
  of_any s b x W (cell_at hW (World.block_lt_of_cell? w ⟨b, 0, none⟩ hb) hb)
theorem on_gives (day : Int) (b : Nat) (w : World) (hb : w.cell? ⟨b, 0, none⟩ = some (.int .i64 day)) : Gives 31 #[.pointer (some ⟨b, 0, none⟩)] (onB day) w.heap.size w := fun x W hW =>
  on_any day b x W (cell_at hW (World.block_lt_of_cell? w ⟨b, 0, none⟩ hb) hb) (Nat.lt_of_lt_of_le (World.block_lt_of_cell? w ⟨b, 0, none⟩ hb) hW.size)

theorem ofList_any (s : List UInt8) (v : Value) (l : List Lt) (w : World) (hlen : l.length * 56 ≤ 140737488355328) (hv : LSl w w.heap.size v l) :
    Calls Tryz.prog 9 #[v, strV s] w (KeepsTo (l.filter (ofB s)) w) := by
  have hk := keep_any 28 #[.pointer (some ⟨w.heap.size, 0, none⟩)] (enters_of Tryz.func28 (by kernel_rfl) rfl) (ofB s) v l w.heap.size (w.alloc (.cells #[strV s] 9)) (by simp) hlen (hv.alloc_ (Nat.le_refl _) _)
    (of_gives s w.heap.size _ (Boxed.new w 9 (strV s)).cell)
  have HK := Lib.hid hk
  clear hk hv hlen
  go_enter Tryz.func9, Tryz.ntmps9
  go_wp2_with (go_at_call 27; ((with_reducible refine HK.out.mono ?_); rintro e w1 ⟨v1, rfl, ho, hb⟩; have HO := Lib.hid (And.intro ho hb); clear ho hb))
  go_ret
  exact ⟨v1, rfl, base_less HO.out.1 (by simp), below_alloc2 _ HO.out.2⟩

/-- What a sweep answers: two lists of its own memory. -/
def SweepsTo (l1 l2 : List Lt) (w : World) (e : Ending) (w' : World) : Prop := ∃ v1 v2, e = .returned (.tuple #[v1, v2]) ∧ w'.ownsRow w.heap.size 41 6 v1 l1.length (lcells l1) ∧ (∃ m, w.heap.size ≤ m ∧ w'.ownsRow m 41 6 v2 l2.length (lcells l2) ∧ (∀ k, v1.ownBlock = some k → k < m)) ∧ Below w.heap.size w w'

theorem sweep_any (now : Int) (v : Value) (l : List Lt) (w : World) (hlen : l.length * 56 ≤ 140737488355328) (hv : LSl w w.heap.size v l) :
    Calls Tryz.prog 10 #[v, .int .i64 now] w (SweepsTo (l.filter (fun x => !overB now x)) (l.filter (overB now)) w) := by
  have h0 := (Boxed.new w 3 (.int .i64 now))
  have h0' := h0.alloc (.cells #[.func (.func 29) #[] #[.pointer (some ⟨w.heap.size, 0, none⟩)]] 44)
  have h1 := Boxed.new (w.alloc (.cells #[.int .i64 now] 3)) 44 (.func (.func 29) #[] #[.pointer (some ⟨w.heap.size, 0, none⟩)])
  have hz : (w.alloc (.cells #[.int .i64 now] 3)).heap.size = w.heap.size + 1 := by simp
  rw [hz] at h1
  have hva := (hv.alloc_ (Nat.le_refl _) (.cells #[.int .i64 now] 3)).alloc_ (by simp) (.cells #[.func (.func 29) #[] #[.pointer (some ⟨w.heap.size, 0, none⟩)]] 44)
  have hk1 := keep_any 30 #[.pointer (some ⟨w.heap.size + 1, 0, none⟩)] (enters_of Tryz.func30 (by kernel_rfl) rfl) (fun x => !overB now x) v l w.heap.size _ (by simp; omega) hlen hva
    (notOver_gives now w.heap.size (w.heap.size + 1) _ h0'.cell h1.cell)
  have hk2 : ∀ W, Below (w.heap.size + 1 + 1) ((w.alloc (.cells #[.int .i64 now] 3)).alloc (.cells #[.func (.func 29) #[] #[.pointer (some ⟨w.heap.size, 0, none⟩)]] 44)) W →
      Calls Tryz.prog 27 #[v, .func (.func 29) #[] #[.pointer (some ⟨w.heap.size, 0, none⟩)]] W (KeepsTo (l.filter (overB now)) W) := fun W hW =>
    keep_any 29 #[.pointer (some ⟨w.heap.size, 0, none⟩)] (enters_of Tryz.func29 (by kernel_rfl) rfl) (overB now) v l w.heap.size W (by have := hW.size; simp at this; omega) hlen (hva.below (hW.mono (by omega)))
      (over_gives now w.heap.size W (cell_at hW (by omega) h0'.cell))
  have hcf : ∀ W, Below (w.heap.size + 1 + 1) ((w.alloc (.cells #[.int .i64 now] 3)).alloc (.cells #[.func (.func 29) #[] #[.pointer (some ⟨w.heap.size, 0, none⟩)]] 44)) W →
      W.cell? ⟨w.heap.size + 1, 0, none⟩ = some (.func (.func 29) #[] #[.pointer (some ⟨w.heap.size, 0, none⟩)]) := fun W hW => cell_at hW (by omega) h1.cell
  have HK1 := Lib.hid hk1
  have HK2 := Lib.hid hk2
  have HCF := Lib.hid hcf
  clear h0 h0' h1 hz hva hk1 hk2 hcf hv hlen
  go_enter Tryz.func10, Tryz.ntmps10
  go_wp2_with (go_at_call 27; (first
    | ((with_reducible refine HK1.out.mono ?_); rintro e w1 ⟨v1, rfl, ho1, hb1⟩; have HO1 := Lib.hid (And.intro ho1 hb1); have hbw : Below (w.heap.size + 1 + 1) ((w.alloc (.cells #[.int .i64 now] 3)).alloc (.cells #[.func (.func 29) #[] #[.pointer (some ⟨w.heap.size, 0, none⟩)]] 44)) w1 := hb1.mono (by simp); have HBW := Lib.hid hbw; have hcf := HCF.out w1 hbw; clear ho1 hb1 hbw HK1)
    | ((with_reducible refine (HK2.out _ HBW.out).mono ?_); rintro e w2 ⟨v2, rfl, ho2, hb2⟩; have HO2 := Lib.hid (And.intro ho2 hb2); clear ho2 hb2)))
  go_ret2
  have ho1 := row_below HO1.out.1 HO2.out.2
  refine ⟨v1, v2, rfl, base_less ho1 (by simp; omega), ⟨w1.heap.size, ?_, HO2.out.1, fun k hk => (HO1.out.1.lt k hk).2⟩, ?_⟩
  · have := HBW.out.size; simp at this; omega
  · exact (below_alloc3 w _ _).trans ((HBW.out.mono (by omega)).trans (HO2.out.2.mono (by have := HBW.out.size; simp at this; omega)))
end Go.Proofs.YtjhijinbpdnmeaaGreat
end
section
/- lot.On: how much there is on a day. -/
namespace Go.Proofs.YtjhijinbpdnmeaaGreat
open Go.ChangeShapes Go.WideShapes Go.ChangeAt Go.RowKit Go.Shelf
set_option linter.unusedVariables false

def sumQ : List Lt → Int
  | [] => 0
  | x :: l => x.qty + sumQ l
theorem sumQ_append : ∀ l m : List Lt, sumQ (l ++ m) = sumQ l + sumQ m
  | [], m => by simp [sumQ]
  | x :: l, m => by simp only [List.cons_append, sumQ, sumQ_append l m]; omega
def onSum (day : Int) (l : List Lt) : Int := sumQ (l.filter (onB day))
theorem onB_qty {day : Int} {x : Lt} (h : onB day x = true) : 1 ≤ x.qty ∧ x.qty ≤ 1073741824 := by
  unfold onB lrightB qtyB at h
  simp at h
  omega
theorem sumQ_take : ∀ (l : List Lt) (k : Nat), (∀ x ∈ l, 1 ≤ x.qty ∧ x.qty ≤ 1073741824) → 0 ≤ sumQ (l.take k) ∧ sumQ (l.take k) ≤ 1073741824 * k
  | l, 0, _ => by simp [sumQ]
  | [], k + 1, _ => by simp [sumQ]; omega
  | x :: l, k + 1, h => by
    have h1 := h x (by simp)
    have h2 := sumQ_take l k (fun y hy => h y (by simp [hy]))
    simp only [List.take_succ_cons, sumQ]
    omega
theorem ret_long {a b : Int} (h : a = b) : Ending.returned (.int .i64 a) = .returned (.int .i64 b) := by rw [h]

set_option maxHeartbeats 2000000 in
theorem onSum_any (day : Int) (v : Value) (l : List Lt) (w : World) (hlen : l.length ≤ 1048576) (hv : LSl w w.heap.size v l) :
    Calls Tryz.prog 11 #[v, .int .i64 day] w fun e w' => e = .returned (.int .i64 (onSum day l)) ∧ Below w.heap.size w w' := by
  have hk := keep_any 31 #[.pointer (some ⟨w.heap.size, 0, none⟩)] (enters_of Tryz.func31 (by kernel_rfl) rfl) (onB day) v l w.heap.size (w.alloc (.cells #[.int .i64 day] 3)) (by simp) (by omega) (hv.alloc_ (Nat.le_refl _) _)
    (on_gives day w.heap.size _ (Boxed.new w 3 (.int .i64 day)).cell)
  have HK := Lib.hid hk
  have hfl : ∀ x ∈ l.filter (onB day), 1 ≤ x.qty ∧ x.qty ≤ 1073741824 := fun x hx => onB_qty (List.mem_filter.1 hx).2
  have hln : (l.filter (onB day)).length ≤ 1048576 := Nat.le_trans (List.length_filter_le _ _) hlen
  have hgoal : onSum day l = sumQ (l.filter (onB day)) := rfl
  rw [hgoal]
  generalize l.filter (onB day) = fl at HK hfl hln ⊢
  have HF := Lib.hid hfl
  clear hk hv hlen hfl hgoal
  go_enter Tryz.func11, Tryz.ntmps11
  go_wp2_with (go_at_call 27; ((with_reducible refine HK.out.mono ?_); rintro e w1 ⟨v1, rfl, ho, hb⟩; obtain ⟨A1, c1, rfl, hn1, hn2, hn3⟩ := own_form ho; have HO := Lib.hid (LSl.own ho); have HB := Lib.hid hb; clear ho hb))
  go_loopw [6, 14] (fun s i wr => ∃ k : Nat, k ≤ fl.length ∧ i = .int .i64 k ∧ s = .int .i64 (sumQ (fl.take k)) ∧ Hid (Below w1.heap.size w1 wr)) (fun _ i _ => fl.length - (intOf i).toNat)
  case atStart => exact ⟨0, Nat.zero_le _, rfl, rfl, Lib.hid (Below.refl _ _)⟩
  case round =>
    obtain ⟨k, hk, rfl, rfl, HBr⟩ := hrel
    by_cases hlt : k < fl.length
    · obtain ⟨x, hx⟩ : ∃ x, fl[k]? = some x := ⟨_, List.getElem?_eq_getElem hlt⟩
      obtain ⟨A', c', hvv, _, _, _, hl1⟩ := HO.out.below HBr.out
      injection hvv with hA _ hC
      subst hA hC
      obtain ⟨ad, rfl, hab, hc0, hc1', hc2', hc3, hc4, hc5⟩ := hl1.six hx
      have hq := HF.out x (List.mem_of_getElem? hx)
      have hs := sumQ_take fl k HF.out
      have hst : Hid (sumQ (fl.take (k + 1)) = sumQ (fl.take k) + x.qty) := Lib.hid (by rw [List.take_add_one, hx, sumQ_append]; simp [sumQ])
      have HL1 := Lib.hid hl1
      have HX := Lib.hid hx
      clear hl1 hx
      generalize sumQ (fl.take k) = s at hs hst ⊢
      go_wp2
      go_roundw
      case rel => exact ⟨k + 1, by omega, by go_num, by rw [hst.out], Lib.hid (HBr.out.alloc HBr.out.size _)⟩
      case measure => simp [intOf]; omega
    · obtain rfl : k = fl.length := by omega
      go_wp2
      go_ret
      exact ⟨ret_long (by rw [List.take_length]), below_alloc2 _ (below_two HB.out HBr.out)⟩
end Go.Proofs.YtjhijinbpdnmeaaGreat
end
section
/- storemankit.SameLots: are two lists of lots the same? storemanlaw04.count. -/
namespace Go.Proofs.YtjhijinbpdnmeaaGreat
open Go.ChangeShapes Go.WideShapes Go.ChangeAt Go.RowKit
set_option linter.unusedVariables false

theorem str_eq (a b : List UInt8) : ((⟨a.toArray⟩ : ByteArray).toList == (⟨b.toArray⟩ : ByteArray).toList) = decide (a = b) := by
  rw [ByteArray.toList_eq, ByteArray.toList_eq]
  by_cases h : a = b <;> simp [h]
theorem eq_win (f u f' u' : Int) (w : World) (n : Nat) : (Op.equalIn (n + 2) 39 (.agg #[.int .i64 f, .int .i64 u]) (.agg #[.int .i64 f', .int .i64 u'])).run Tryz.prog w = .ok (decide (f = f' ∧ u = u')) w := by
  have u2 := Tryz.underlying3
  have a2 := Tryz.isAgg3
  have z2 := Tryz.sizeOf3
  have hS : Tryz.prog.underlying 39 = some (.struct (Tryz.prog.fieldsOf 39)) := by kernel_rfl
  have hp : Tryz.prog.stoodInHeld 39 = false := by kernel_rfl
  rw [run_equalIn_agg w (n + 1) 39 _ _ hS hp]
  simp only [Program.fieldsOf, Tryz.underlying39]
  go_simp
  by_cases h1 : f = f' <;> by_cases h2 : u = u' <;> simp [h1, h2]
theorem lot_iff (x y : Lt) : x = y ↔ x.id = y.id ∧ x.item = y.item ∧ x.fr = y.fr ∧ x.un = y.un ∧ x.qty = y.qty ∧ x.arr = y.arr :=
  ⟨fun h => by subst h; exact ⟨rfl, rfl, rfl, rfl, rfl, rfl⟩, fun h => Lt.ext_ h.1 h.2.1 h.2.2.1 h.2.2.2.1 h.2.2.2.2.1 h.2.2.2.2.2⟩
theorem dec_lot (x y : Lt) : decide (x = y) = decide (x.id = y.id ∧ x.item = y.item ∧ x.fr = y.fr ∧ x.un = y.un ∧ x.qty = y.qty ∧ x.arr = y.arr) := by congr 1; exact propext (lot_iff x y)
theorem eq_lot (x y : Lt) (w : World) : (Op.equalIn 10000 41 (aggL x) (aggL y)).run Tryz.prog w = .ok (decide (x = y)) w := by
  have u2 := Tryz.underlying2
  have a2 := Tryz.isAgg2
  have z2 := Tryz.sizeOf2
  have u3 := Tryz.underlying3
  have a3 := Tryz.isAgg3
  have z3 := Tryz.sizeOf3
  have u4 := Tryz.underlying4
  have a4 := Tryz.isAgg4
  have z4 := Tryz.sizeOf4
  have u9 := Tryz.underlying9
  have a9 := Tryz.isAgg9
  have z9 := Tryz.sizeOf9
  have a5 := Tryz.isAgg39
  have z5 := Tryz.sizeOf39
  have hS : Tryz.prog.underlying 41 = some (.struct (Tryz.prog.fieldsOf 41)) := by kernel_rfl
  have hp : Tryz.prog.stoodInHeld 41 = false := by kernel_rfl
  have hw := fun f u f' u' w => eq_win f u f' u' w 9997
  rw [show (10000 : Nat) = 9999 + 1 from rfl, run_equalIn_agg w 9999 41 _ _ hS hp]
  simp only [Program.fieldsOf, Tryz.underlying41]
  go_simp
  have e := dec_lot x y
  rw [e]
  clear hw hS hp u2 a2 z2 u3 a3 z3 u4 a4 z4 u9 a9 z9 a5 z5 e
  by_cases h1 : x.id = y.id
  · by_cases h2 : x.item = y.item
    · by_cases h3 : x.fr = y.fr
      · by_cases h4 : x.un = y.un
        · by_cases h5 : x.qty = y.qty <;> by_cases h6 : x.arr = y.arr <;> simp [h1, h2, h3, h4, h5, h6]
        · simp [h1, h2, h3, h4]
      · simp [h1, h2, h3]
    · simp [h1, h2]
  · simp [h1]
theorem eql_lot (x y : Lt) (w : World) : (binOp .eql 41 (aggL x) (aggL y)).run Tryz.prog w = .ok (.bool (decide (x = y))) w := by
  rw [run_eql_struct, eq_lot]; rfl
theorem neq_lot (x y : Lt) (w : World) : (binOp .neq 41 (aggL x) (aggL y)).run Tryz.prog w = .ok (.bool (!decide (x = y))) w := by
  rw [run_neq_struct, eq_lot]; rfl

def sameB (l m : List Lt) : Bool := decide (l = m)
theorem LSl.six {w : World} {B : Nat} {A : Option Addr} {n c : Nat} {l : List Lt} (h : LSl w B (.slice A n c) l) {k : Nat} {x : Lt} (hk : l[k]? = some x) : ∃ ad, A = some ad ∧ ad.block < B ∧ Six w (ad.add (k * 6)) x := by
  obtain ⟨A', c', hv, _, _, _, hl⟩ := h
  injection hv with hA
  subst hA
  exact hl.six hk
/-- A comparison of two lots' values, told once. -/
def CmpRun (b : Bool) (x y : Lt) : Prop := ∀ w, (binOp .neq 41 (.agg #[.int .i64 x.id, .string ⟨x.item.toArray⟩, .int .i64 x.fr, .int .i64 x.un, .int .i64 x.qty, .bool x.arr]) (.agg #[.int .i64 y.id, .string ⟨y.item.toArray⟩, .int .i64 y.fr, .int .i64 y.un, .int .i64 y.qty, .bool y.arr])).run Tryz.prog w = .ok (.bool b) w

set_option maxHeartbeats 1000000 in
theorem same_any (l m : List Lt) (v1 v2 : Value) (w : World) (h1 : LSl w w.heap.size v1 l) (h2 : LSl w w.heap.size v2 m) (hl : l.length ≤ 1099511627776) (hm : m.length ≤ 1099511627776) :
    Calls Tryz.prog 15 #[v1, v2] w fun e w' => e = .returned (.bool (sameB l m)) ∧ Below w.heap.size w w' := by
  obtain ⟨A, c, rfl, hc1, hc2, _, hl1⟩ := id h1
  obtain ⟨A', c', rfl, hc1', hc2', _, hl1'⟩ := id h2
  have HV1 := Lib.hid h1
  have HV2 := Lib.hid h2
  clear h1 h2 hl1 hl1'
  by_cases hlen : l.length = m.length
  · have hle1 : l.length ≤ m.length := by omega
    have hle2 : m.length ≤ l.length := by omega
    have hb1 : ((l.length : Int) == (m.length : Int)) = true := by simp [hlen]
    have hb2 : ((l.length : Int) != (m.length : Int)) = false := by simp [hlen]
    have HLEN := Lib.hid hlen
    clear hlen
    go_enter Tryz.func15, Tryz.ntmps15
    go_wp2
    clear hb1 hb2
    go_loopw [5] (fun i wr => ∃ k : Nat, k ≤ l.length ∧ i = .int .i64 k ∧ Hid (Below w.heap.size w wr) ∧ Hid (l.take k = m.take k)) (fun i _ => l.length - (intOf i).toNat)
    case atStart => exact ⟨0, Nat.zero_le _, rfl, Lib.hid (Below.refl _ _), Lib.hid rfl⟩
    case round =>
      obtain ⟨k, hk, rfl, HB, HTK⟩ := hrel
      by_cases hlt : k < l.length
      · obtain ⟨x, hx⟩ : ∃ x, l[k]? = some x := ⟨_, List.getElem?_eq_getElem hlt⟩
        obtain ⟨y, hy⟩ : ∃ y, m[k]? = some y := ⟨_, List.getElem?_eq_getElem (by omega)⟩
        obtain ⟨ap, hap, _, hp0, hp1, hp2, hp3, hp4, hp5⟩ := (HV1.out.below HB.out).six hx
        obtain ⟨aq, haq, _, hq0, hq1, hq2, hq3, hq4, hq5⟩ := (HV2.out.below HB.out).six hy
        subst hap haq
        have HX := Lib.hid hx
        have HY := Lib.hid hy
        clear hx hy
        have hltm : k < m.length := by omega
        by_cases hxy : x = y
        · have hne : CmpRun false x y := fun w => by have := neq_lot x y w; simp only [hxy, decide_true, Bool.not_true] at this ⊢; exact this
          unfold CmpRun at hne
          have HXY := Lib.hid hxy
          clear hxy
          go_wp2
          go_quiet (fail)
          go_wp2
          go_roundw
          case rel => exact ⟨k + 1, by omega, by go_num, Lib.hid (below_draws HB.out _), Lib.hid (by rw [List.take_add_one, List.take_add_one, HTK.out, HX.out, HY.out, HXY.out])⟩
          case measure => simp [intOf]; omega
        · have hne : CmpRun true x y := fun w => by have := neq_lot x y w; rw [decide_eq_false hxy] at this; exact this
          unfold CmpRun at hne
          have HXY := Lib.hid hxy
          clear hxy
          go_wp2
          go_quiet (fail)
          go_wp2
          go_ret
          refine ⟨ret_bool ?_, below_draws HB.out _⟩
          symm
          simp only [sameB, decide_eq_false_iff_not]
          intro e
          subst e
          exact HXY.out (Option.some.inj (HX.out.symm.trans HY.out))
      · obtain rfl : k = l.length := by omega
        go_wp2
        go_ret
        refine ⟨ret_bool ?_, HB.out⟩
        have h := HTK.out
        rw [List.take_of_length_le (Nat.le_refl _), List.take_of_length_le (by omega)] at h
        simp [sameB, h]
  · have hb1 : ((l.length : Int) == (m.length : Int)) = false := by simp; omega
    have hb2 : ((l.length : Int) != (m.length : Int)) = true := by simp; omega
    have HLEN := Lib.hid hlen
    clear hlen
    go_enter Tryz.func15, Tryz.ntmps15
    go_wp2
    go_ret
    refine ⟨ret_bool ?_, Below.refl _ _⟩
    symm
    simp only [sameB, decide_eq_false_iff_not]
    rintro rfl
    exact HLEN.out rfl
theorem same_yes (l : List Lt) (v1 v2 : Value) (w : World) (h1 : LSl w w.heap.size v1 l) (h2 : LSl w w.heap.size v2 l) (hl : l.length ≤ 1099511627776) :
    Calls Tryz.prog 15 #[v1, v2] w fun e w' => e = .returned (.bool true) ∧ Below w.heap.size w w' := by
  refine (same_any l l v1 v2 w h1 h2 hl hl).mono ?_
  rintro e w' ⟨rfl, hb⟩
  exact ⟨ret_bool (by simp [sameB]), hb⟩
end Go.Proofs.YtjhijinbpdnmeaaGreat
end
section
/- storemanlaw04.count, great, three; the chapter's example, awake. -/
namespace Go.Proofs.YtjhijinbpdnmeaaGreat
open Go.ChangeShapes Go.WideShapes Go.ChangeAt Go.RowKit
set_option linter.unusedVariables false

/-- Whether there are more lots than are gone through: if not, they are few. -/
def Few (l : List Lt) (w : World) (e : Ending) (w' : World) : Prop := ∃ b : Bool, e = .returned (.bool b) ∧ w = w' ∧ (b = false → l.length ≤ 400)
set_option maxHeartbeats 1000000 in
theorem great_any (v : Value) (l : List Lt) (w : World) (hv : LSl w w.heap.size v l) (hs : Sized l) (hlen : l.length ≤ 140737488355328) :
    Calls Tryz.prog 5 #[v] w (Few l w) := by
  obtain ⟨A, c, rfl, hc1, hc2, hcz, hl⟩ := id hv
  have HS := Lib.hid hs
  have HV := Lib.hid hv
  clear hs hv hl
  go_enter Tryz.func5, Tryz.ntmps5
  go_wp2
  go_loop [3, 4] (fun t i => ∃ (k : Nat) (n : Int), k ≤ l.length ∧ i = .int .i64 k ∧ t = .int .i64 n ∧ (l.length : Int) ≤ n ∧ n ≤ 4611686018427387904) (fun _ i => l.length - (intOf i).toNat)
  case atStart => exact ⟨0, l.length, Nat.zero_le _, rfl, rfl, by omega, by omega⟩
  case round =>
    obtain ⟨k, n, hk, rfl, rfl, hn0, hn1⟩ := hrel
    by_cases hlt : k < l.length
    · have hd1 : decide (k < l.length) = true := decide_eq_true hlt
      by_cases hmo : n ≤ 400
      · obtain ⟨x, hx⟩ : ∃ x, l[k]? = some x := ⟨_, List.getElem?_eq_getElem hlt⟩
        obtain ⟨ad, rfl, hab, hc0, hc1', _⟩ := HV.out.six hx
        have hxl := (HS.out x (List.mem_of_getElem? hx)).2.2.1
        unfold maxLen at hxl
        have HX := Lib.hid hx
        clear hx
        have hd2 : decide (n ≤ 400) = true := decide_eq_true hmo
        go_wp2
        go_round
        case rel => exact ⟨k + 1, n + (x.item.length : Int) / 50, by omega, by go_num, rfl, by omega, by omega⟩
        case measure => simp [intOf]; omega
      · have hd2 : decide (n ≤ 400) = false := decide_eq_false hmo
        have hd3 : decide (400 < n) = true := decide_eq_true (by omega)
        go_wp2
        go_ret
        exact ⟨true, rfl, rfl, fun h => by cases h⟩
    · obtain rfl : k = l.length := by omega
      by_cases hmo : n ≤ 400
      · have hd3 : decide (400 < n) = false := decide_eq_false (by omega)
        go_wp2
        go_ret
        exact ⟨false, rfl, rfl, fun _ => by omega⟩
      · have hd3 : decide (400 < n) = true := decide_eq_true (by omega)
        go_wp2
        go_ret
        exact ⟨true, rfl, rfl, fun h => by cases h⟩

def exL : List Lt := [⟨1, [65], 0, 9, 5, true⟩, ⟨2, [65], 3, 6, 4, false⟩, ⟨3, [66], 0, 6, 2, true⟩]
def exS : List Lt := [⟨2, [65], 3, 6, 4, false⟩, ⟨3, [66], 0, 6, 2, true⟩, ⟨1, [65], 0, 9, 5, true⟩]
abbrev exObj : Obj := .cells #[.int .i64 1, .string ⟨#[65]⟩, .int .i64 0, .int .i64 9, .int .i64 5, .bool true, .int .i64 2, .string ⟨#[65]⟩, .int .i64 3, .int .i64 6, .int .i64 4, .bool false, .int .i64 3, .string ⟨#[66]⟩, .int .i64 0, .int .i64 6, .int .i64 2, .bool true] 41
theorem three_any (w : World) : Calls Tryz.prog 21 #[] w fun e w' => e = .returned (.slice (some ⟨w.heap.size, 0, none⟩) 3 3) ∧ w.alloc exObj = w' := by
  go_enter Tryz.func21, Tryz.ntmps21
  go_wp2
  go_ret
  exact ⟨rfl, rfl⟩
theorem ex_lsl (w : World) : LSl (w.alloc exObj) (w.heap.size + 1) (.slice (some ⟨w.heap.size, 0, none⟩) 3 3) exL :=
  ⟨_, 3, rfl, Nat.le_refl _, by simp [maxLen], fun h => (by cases h), Lies.fresh w _ 41 _ rfl⟩
theorem ex_at (w : World) : LSl (w.alloc exObj) (w.alloc exObj).heap.size (.slice (some ⟨w.heap.size, 0, none⟩) 3 3) exL := (ex_lsl w).mono (by simp)
theorem ex_stab : Stab exL exS := by
  refine ⟨[(⟨2, [65], 3, 6, 4, false⟩, 1), (⟨3, [66], 0, 6, 2, true⟩, 2), (⟨1, [65], 0, 9, 5, true⟩, 0)], rfl, ?_, ?_⟩
  · decide
  · decide

theorem sort_ex (w : World) : Calls Tryz.prog 8 #[.slice (some ⟨w.heap.size, 0, none⟩) 3 3] (w.alloc exObj) fun e w' => ∃ g cap, e = .returned (.slice (some ⟨g, 0, none⟩) 3 cap) ∧ LSl w' w'.heap.size (.slice (some ⟨g, 0, none⟩) 3 cap) exS ∧ Below w.heap.size w w' := by
  refine (sort_any _ exL _ (by decide) (ex_at w)).mono ?_
  rintro e w' ⟨v, out, rfl, hs, ho, hb⟩
  obtain rfl := hs.unique ex_stab
  rcases below_own (W := w') ho with ⟨_, h0⟩ | ⟨g, cap, rfl⟩
  · cases h0
  · exact ⟨g, cap, rfl, LSl.own ho, below_alloc2 _ hb⟩
theorem sweep_ex (w : World) : Calls Tryz.prog 10 #[.slice (some ⟨w.heap.size, 0, none⟩) 3 3, .int .i64 6] (w.alloc exObj) fun e w' => ∃ A1 c1 g cap, e = .returned (.tuple #[.slice A1 2 c1, .slice (some ⟨g, 0, none⟩) 1 cap]) ∧ w'.cell? ⟨g, 0, none⟩ = some (.int .i64 3) ∧ Below w.heap.size w w' := by
  refine (sweep_any 6 _ exL _ (by decide) (ex_at w)).mono ?_
  rintro e w' ⟨v1, v2, rfl, h1, ⟨m, hm, h2, _⟩, hb⟩
  obtain ⟨A1, c1, rfl, _⟩ := own_form h1
  rcases below_own (W := w') h2 with ⟨_, h0⟩ | ⟨g, cap, rfl⟩
  · cases h0
  · have h := (Lies.own h2).six (k := 0) (x := ⟨3, [66], 0, 6, 2, true⟩) rfl
    obtain ⟨ad, had, _, hc, _⟩ := h
    cases had
    exact ⟨A1, c1, g, cap, rfl, hc, below_alloc2 _ hb⟩
theorem on_ex4 (w : World) : Calls Tryz.prog 11 #[.slice (some ⟨w.heap.size, 0, none⟩) 3 3, .int .i64 4] (w.alloc exObj) fun e w' => e = .returned (.int .i64 11) ∧ Below w.heap.size w w' := by
  refine (onSum_any 4 _ exL _ (by decide) (ex_at w)).mono ?_
  rintro e w' ⟨rfl, hb⟩
  exact ⟨ret_long (by decide +kernel), below_alloc2 _ hb⟩
theorem on_ex9 (w : World) : Calls Tryz.prog 11 #[.slice (some ⟨w.heap.size, 0, none⟩) 3 3, .int .i64 9] (w.alloc exObj) fun e w' => e = .returned (.int .i64 0) ∧ Below w.heap.size w w' := by
  refine (onSum_any 9 _ exL _ (by decide) (ex_at w)).mono ?_
  rintro e w' ⟨rfl, hb⟩
  exact ⟨ret_long (by decide +kernel), below_alloc2 _ hb⟩
theorem right_ex (w : World) : Calls Tryz.prog 22 #[.agg #[.int .i64 2, .string ⟨#[65]⟩, .int .i64 3, .int .i64 6, .int .i64 4, .bool false]] w fun e w' => e = .returned (.bool true) ∧ Below w.heap.size w w' :=
  lright_yes ⟨2, [65], 3, 6, 4, false⟩ w (by decide +kernel)
theorem right_ex0 (w : World) : Calls Tryz.prog 22 #[.agg #[.int .i64 0, .string ⟨#[]⟩, .int .i64 0, .int .i64 0, .int .i64 0, .bool false]] w fun e w' => e = .returned (.bool false) ∧ Below w.heap.size w w' :=
  lright_no ⟨0, [], 0, 0, 0, false⟩ w (by decide +kernel)
theorem of_ex (g cap : Nat) (w : World) (h : LSl w w.heap.size (.slice (some ⟨g, 0, none⟩) 3 cap) exS) : Calls Tryz.prog 9 #[.slice (some ⟨g, 0, none⟩) 3 cap, .string ⟨#[66]⟩] w fun e w' => ∃ A c, e = .returned (.slice A 1 c) ∧ Below w.heap.size w w' := by
  refine (ofList_any [66] _ exS w (by decide) h).mono ?_
  rintro e w' ⟨v, rfl, ho, hb⟩
  obtain ⟨A, c, rfl, _⟩ := own_form ho
  exact ⟨A, c, rfl, hb⟩
end Go.Proofs.YtjhijinbpdnmeaaGreat
end
section
/- The chapter's example, awake. -/
namespace Go.Proofs.YtjhijinbpdnmeaaGreat
open Go.ChangeShapes Go.WideShapes Go.ChangeAt Go.RowKit
set_option linter.unusedVariables false

theorem ex_cells {w : World} {B g cap : Nat} (h : LSl w B (.slice (some ⟨g, 0, none⟩) 3 cap) exS) :
    w.cell? ⟨g, 0, none⟩ = some (.int .i64 2) ∧ w.cell? ⟨g, 1, none⟩ = some (.string ⟨#[65]⟩) ∧ w.cell? ⟨g, 2, none⟩ = some (.int .i64 3) ∧ w.cell? ⟨g, 3, none⟩ = some (.int .i64 6) ∧ w.cell? ⟨g, 4, none⟩ = some (.int .i64 4) ∧ w.cell? ⟨g, 5, none⟩ = some (.bool false) ∧
    w.cell? ⟨g, 6, none⟩ = some (.int .i64 3) ∧ w.cell? ⟨g, 12, none⟩ = some (.int .i64 1) := by
  obtain ⟨A, c, hv, _, _, _, hl⟩ := h
  injection hv with hA
  subst hA
  have g0 : ∀ (j : Nat) (u : Value), (lcells exS)[j]? = some u → w.cell? ⟨g, j, none⟩ = some u := fun j u hu => by
    obtain ⟨ad, had, _, hc⟩ := hl.get hu
    cases had
    rwa [addr0] at hc
  exact ⟨g0 0 _ rfl, g0 1 _ rfl, g0 2 _ rfl, g0 3 _ rfl, g0 4 _ rfl, g0 5 _ rfl, g0 6 _ rfl, g0 12 _ rfl⟩

theorem ex_cap {w : World} {B g cap : Nat} (h : LSl w B (.slice (some ⟨g, 0, none⟩) 3 cap) exS) : 3 ≤ cap := by
  obtain ⟨A, c, hv, hc, _⟩ := h
  injection hv with _ _ e
  subst e
  exact hc
set_option maxRecDepth 100000 in
set_option maxHeartbeats 2000000 in
theorem awake_any (w : World) : Calls Tryz.prog 6 #[] w fun e w' => e = .returned (.bool true) ∧ Below w.heap.size w w' := by
  go_enter Tryz.func6, Tryz.ntmps6
  go_wp2_with (first
    | (go_at_call 21; ((with_reducible refine (three_any _).mono ?_); rintro e w1 ⟨rfl, rfl⟩))
    | (go_at_call 8; ((with_reducible refine (sort_ex _).mono ?_); rintro e w2 ⟨g, cap, rfl, hs, hb2⟩; have HS := Lib.hid hs; have HB2 := Lib.hid hb2; have hcap := ex_cap hs; clear hs hb2))
    | (go_at_call 10; ((with_reducible refine (sweep_ex _).mono ?_); rintro e w3 ⟨A1, c1, g3, cap3, rfl, hg3, hb3⟩; have HB3 := Lib.hid (below_two HB2.out hb3); have HS3 := Lib.hid (HS.out.at_ hb3); obtain ⟨x0, x1, x2, x3, x4, x5, x6, x7⟩ := ex_cells HS3.out; clear hb3))
    | (go_at_call 11; (first
        | ((with_reducible refine (on_ex4 _).mono ?_); rintro e w4 ⟨rfl, hb4⟩; have HB4 := Lib.hid (below_two HB3.out hb4); have HS4 := Lib.hid (HS3.out.at_ hb4); clear hb4)
        | ((with_reducible refine (on_ex9 _).mono ?_); rintro e w5 ⟨rfl, hb5⟩; have HB5 := Lib.hid (below_two HB4.out hb5); have HS5 := Lib.hid (HS4.out.at_ hb5); obtain ⟨y0, y1, y2, y3, y4, y5, y6, y7⟩ := ex_cells HS5.out; clear hb5)))
    | (go_at_call 22; (first
        | ((with_reducible refine (right_ex _).mono ?_); rintro e w6 ⟨rfl, hb6⟩; have HB6 := Lib.hid (below_two HB5.out hb6); have HS6 := Lib.hid (HS5.out.at_ hb6); clear hb6)
        | ((with_reducible refine (right_ex0 _).mono ?_); rintro e w7 ⟨rfl, hb7⟩; have HB7 := Lib.hid (below_two HB6.out hb7); have HS7 := Lib.hid (HS6.out.at_ hb7); clear hb7)))
    | (go_at_call 9; ((with_reducible refine (of_ex _ _ _ HS7.out).mono ?_); rintro e w8 ⟨A8, c8, rfl, hb8⟩; have HB8 := Lib.hid (below_two HB7.out hb8); clear hb8)))
  go_ret
  exact ⟨rfl, HB8.out⟩
end Go.Proofs.YtjhijinbpdnmeaaGreat
end
section
/- The law LotRights: whatever two lots; the walk. Written by gen_lawr.py. -/
namespace Go.Proofs.YtjhijinbpdnmeaaGreat
open Go.ChangeShapes Go.WideShapes Go.ChangeAt Go.RowKit
set_option linter.unusedVariables false

theorem Box6.below {W W' : World} {B n₀ : Nat} {x : Lt} (h : Box6 W B x) (hB : B < n₀) (hb : Below n₀ W W') : Box6 W' B x := (hb.block B hB).trans h
/-- Two boxes that hold two lots, behind a world. -/
def Held2 (w : World) (a b : Lt) (W : World) : Prop := Box6 W w.heap.size a ∧ Box6 W (w.heap.size + 1) b ∧ Below w.heap.size w W
theorem Held2.next {w W W' : World} {a b : Lt} (h : Held2 w a b W) (hb : Below W.heap.size W W') : Held2 w a b W' :=
  ⟨h.1.below h.1.lt hb, h.2.1.below h.2.1.lt hb, below_two h.2.2 hb⟩
theorem Held2.one {w W : World} {a b : Lt} (h : Held2 w a b W) : W.cell? ⟨w.heap.size, 0, none⟩ = some (.int .i64 a.id) ∧ W.cell? ⟨w.heap.size, 1, none⟩ = some (.string ⟨a.item.toArray⟩) ∧ W.cell? ⟨w.heap.size, 2, none⟩ = some (.int .i64 a.fr) ∧
    W.cell? ⟨w.heap.size, 3, none⟩ = some (.int .i64 a.un) ∧ W.cell? ⟨w.heap.size, 4, none⟩ = some (.int .i64 a.qty) ∧ W.cell? ⟨w.heap.size, 5, none⟩ = some (.bool a.arr) := h.1.cells
theorem Held2.two {w W : World} {a b : Lt} (h : Held2 w a b W) : W.cell? ⟨w.heap.size + 1, 0, none⟩ = some (.int .i64 b.id) ∧ W.cell? ⟨w.heap.size + 1, 1, none⟩ = some (.string ⟨b.item.toArray⟩) ∧ W.cell? ⟨w.heap.size + 1, 2, none⟩ = some (.int .i64 b.fr) ∧
    W.cell? ⟨w.heap.size + 1, 3, none⟩ = some (.int .i64 b.un) ∧ W.cell? ⟨w.heap.size + 1, 4, none⟩ = some (.int .i64 b.qty) ∧ W.cell? ⟨w.heap.size + 1, 5, none⟩ = some (.bool b.arr) := h.2.1.cells
abbrev agX (x : Lt) : Value := .agg #[.int .i64 x.id, .string ⟨x.item.toArray⟩, .int .i64 x.fr, .int .i64 x.un, .int .i64 x.qty, .bool x.arr]

set_option maxRecDepth 100000 in
set_option maxHeartbeats 4000000 in
theorem rights_any (a b : Lt) (w : World) : Calls Tryz.prog 20 #[aggL a, aggL b] w fun e w' => e = .returned (.bool true) ∧ Below w.heap.size w w' := by
  obtain ⟨r, hr⟩ : ∃ r, lrightB a = r := ⟨_, rfl⟩
  obtain ⟨c, hc⟩ : ∃ c, cmpL a b = c := ⟨_, rfl⟩
  have H1 : Hid (∀ W, Calls Tryz.prog 22 #[agX a] W fun e w' => e = .returned (.bool r) ∧ Below W.heap.size W w') := Lib.hid (fun W => by rw [← hr]; exact lright_any a W)
  have H2 : Hid (∀ W, Calls Tryz.prog 34 #[agX a] W fun e w' => e = .returned (.bool r) ∧ Below W.heap.size W w') := Lib.hid (fun W => by rw [← hr]; exact lrref_any a W)
  have H3 : Hid (∀ W, Calls Tryz.prog 26 #[agX a, agX b] W fun e w' => e = .returned (.int .i64 c) ∧ Below W.heap.size W w') := Lib.hid (fun W => by rw [← hc]; exact compare_any a b W)
  have H4 : Hid (∀ W, Calls Tryz.prog 33 #[agX a, agX b] W fun e w' => e = .returned (.int .i64 c) ∧ Below W.heap.size W w') := Lib.hid (fun W => by rw [← hc]; exact comparer_any a b W)
  clear hr hc
  go_enter Tryz.func20, Tryz.ntmps20
  go_wp2_with fail
  have hS : Held2 w a b ((w.alloc (.cells #[.int .i64 a.id, .string ⟨a.item.toArray⟩, .int .i64 a.fr, .int .i64 a.un, .int .i64 a.qty, .bool a.arr] 41)).alloc (.cells #[.int .i64 b.id, .string ⟨b.item.toArray⟩, .int .i64 b.fr, .int .i64 b.un, .int .i64 b.qty, .bool b.arr] 41)).drew := by
    have h1 := Box6.new w a
    have h2 := Box6.new (w.alloc (.cells #[.int .i64 a.id, .string ⟨a.item.toArray⟩, .int .i64 a.fr, .int .i64 a.un, .int .i64 a.qty, .bool a.arr] 41)) b
    have h3 := (below_alloc3 w (.cells #[.int .i64 a.id, .string ⟨a.item.toArray⟩, .int .i64 a.fr, .int .i64 a.un, .int .i64 a.qty, .bool a.arr] 41) (.cells #[.int .i64 b.id, .string ⟨b.item.toArray⟩, .int .i64 b.fr, .int .i64 b.un, .int .i64 b.qty, .bool b.arr] 41)).drew
    rw [World.size_alloc] at h2
    exact ⟨h1.below h1.lt (below_alloc1 _ _).drew, h2, h3⟩
  refine wp_region_held_drew (S := Held2 w a b) (by kernel_rfl) hS (fun hS => ?_)
  refine wpAnyH_take (i := 0) (v := (agX a)) rfl (by kernel_rfl) (by kernel_rfl) (by kernel_rfl) (fun _ _ _ h => h) (Or.inl ⟨by kernel_rfl, fun w' hS' => by obtain ⟨d0, d1, d2, d3, d4, d5⟩ := hS'.one; go_simp⟩) hS ?_
  refine wpAnyH_take (i := 2) (v := (agX a)) rfl (by kernel_rfl) (by kernel_rfl) (by kernel_rfl) (fun _ _ _ h => h) (Or.inl ⟨by kernel_rfl, fun w' hS' => by obtain ⟨d0, d1, d2, d3, d4, d5⟩ := hS'.one; go_simp⟩) hS ?_
  refine wpAnyH_ready (rs := [1]) (by kernel_rfl) (by simp) ?_
  refine AllReadyH.cons rfl (fun K hK => ?_) AllReadyH.nil
  go_simp
  refine (H1.out _).mono ?_
  rintro e w1 ⟨rfl, hbx⟩
  refine hK.out _ _ (hS.next hbx) (fun hS => ?_)
  clear hK K hbx
  refine wpAnyH_ready (rs := [3]) (by kernel_rfl) (by simp) ?_
  refine AllReadyH.cons rfl (fun K hK => ?_) AllReadyH.nil
  go_simp
  refine (H2.out _).mono ?_
  rintro e w2 ⟨rfl, hbx⟩
  refine hK.out _ _ (hS.next hbx) (fun hS => ?_)
  clear hK K hbx
  refine wpAnyH_take (i := 4) (v := ((.bool true))) rfl (by kernel_rfl) (by kernel_rfl) (by kernel_rfl) (fun _ _ _ h => h) (Or.inl ⟨by kernel_rfl, fun w' hS' => by go_simp⟩) hS ?_
  refine wpAnyH_take (i := 5) (v := ((.bool true))) rfl (by kernel_rfl) (by kernel_rfl) (by kernel_rfl) (fun _ _ _ h => h) (Or.inl ⟨by kernel_rfl, fun w' hS' => by go_simp⟩) hS ?_
  refine wpAnyH_take (i := 6) (v := (agX a)) rfl (by kernel_rfl) (by kernel_rfl) (by kernel_rfl) (fun _ _ _ h => h) (Or.inl ⟨by kernel_rfl, fun w' hS' => by obtain ⟨d0, d1, d2, d3, d4, d5⟩ := hS'.one; go_simp⟩) hS ?_
  refine wpAnyH_take (i := 7) (v := (agX b)) rfl (by kernel_rfl) (by kernel_rfl) (by kernel_rfl) (fun _ _ _ h => h) (Or.inl ⟨by kernel_rfl, fun w' hS' => by obtain ⟨d0, d1, d2, d3, d4, d5⟩ := hS'.two; go_simp⟩) hS ?_
  refine wpAnyH_take (i := 9) (v := (agX a)) rfl (by kernel_rfl) (by kernel_rfl) (by kernel_rfl) (fun _ _ _ h => h) (Or.inl ⟨by kernel_rfl, fun w' hS' => by obtain ⟨d0, d1, d2, d3, d4, d5⟩ := hS'.one; go_simp⟩) hS ?_
  refine wpAnyH_take (i := 10) (v := (agX b)) rfl (by kernel_rfl) (by kernel_rfl) (by kernel_rfl) (fun _ _ _ h => h) (Or.inl ⟨by kernel_rfl, fun w' hS' => by obtain ⟨d0, d1, d2, d3, d4, d5⟩ := hS'.two; go_simp⟩) hS ?_
  refine wpAnyH_ready (rs := [8]) (by kernel_rfl) (by simp) ?_
  refine AllReadyH.cons rfl (fun K hK => ?_) AllReadyH.nil
  go_simp
  refine (H3.out _).mono ?_
  rintro e w3 ⟨rfl, hbx⟩
  refine hK.out _ _ (hS.next hbx) (fun hS => ?_)
  clear hK K hbx
  refine wpAnyH_ready (rs := [11]) (by kernel_rfl) (by simp) ?_
  refine AllReadyH.cons rfl (fun K hK => ?_) AllReadyH.nil
  go_simp
  refine (H4.out _).mono ?_
  rintro e w4 ⟨rfl, hbx⟩
  refine hK.out _ _ (hS.next hbx) (fun hS => ?_)
  clear hK K hbx
  refine wpAnyH_take (i := 12) (v := ((.bool true))) rfl (by kernel_rfl) (by kernel_rfl) (by kernel_rfl) (fun _ _ _ h => h) (Or.inl ⟨by kernel_rfl, fun w' hS' => by go_simp⟩) hS ?_
  refine wpAnyH_take (i := 13) (v := ((.bool true))) rfl (by kernel_rfl) (by kernel_rfl) (by kernel_rfl) (fun _ _ _ h => h) (Or.inl ⟨by kernel_rfl, fun w' hS' => by go_simp⟩) hS ?_
  refine wpAnyH_take (i := 14) (v := ((.bool true))) rfl (by kernel_rfl) (by kernel_rfl) (by kernel_rfl) (fun _ _ _ h => h) (Or.inl ⟨by kernel_rfl, fun w' hS' => by go_simp⟩) hS ?_
  refine wpAnyH_ready (rs := [15]) (by kernel_rfl) (by simp) ?_
  refine AllReadyH.cons rfl (fun K hK => ?_) AllReadyH.nil
  go_simp
  refine (awake_any _).mono ?_
  rintro e w5 ⟨rfl, hbx⟩
  refine hK.out _ _ (hS.next hbx) (fun hS => ?_)
  clear hK K hbx
  refine wpAnyH_take (i := 16) (v := ((.bool true))) rfl (by kernel_rfl) (by kernel_rfl) (by kernel_rfl) (fun _ _ _ h => h) (Or.inl ⟨by kernel_rfl, fun w' hS' => by go_simp⟩) hS ?_
  refine wpAnyH_take (i := 17) (v := ((.bool true))) rfl (by kernel_rfl) (by kernel_rfl) (by kernel_rfl) (fun _ _ _ h => h) (Or.inl ⟨by kernel_rfl, fun w' hS' => by go_simp⟩) hS ?_
  refine wpAnyH_done (by kernel_rfl) ?_ _
  go_simp
  go_wp2_with fail
  go_ret
  exact ⟨rfl, hS.2.2⟩
end Go.Proofs.YtjhijinbpdnmeaaGreat
end
section
/- storemankit.markPart, LentParts: a list of parts with marks behind its end. -/
namespace Go.Proofs.YtjhijinbpdnmeaaGreat
open Go.ChangeShapes Go.WideShapes Go.ChangeAt Go.RowKit Go.Maps
set_option linter.unusedVariables false

theorem mark_any (k i : Int) (w : World) (h0 : 0 ≤ k) (h1 : k ≤ 1000000) (h2 : 0 ≤ i) (h3 : i ≤ 1099511627776) :
    Calls Tryz.prog 39 #[.int .i64 k, .int .i64 i] w fun e w' => e = .returned (.int .i64 (1000003 * (k + 7) + i)) ∧ w = w' := by
  go_enter Tryz.func39, Tryz.ntmps39
  go_wp2
  go_ret
  exact ⟨rfl, rfl⟩

def markL (k i : Nat) : Lt := ⟨1000003 * ((k : Int) + 7) + (i : Int), [], 0, 0, 0, false⟩
def marksL (k n : Nat) : List Lt := (List.range n).map fun i => markL k i
theorem marksL_succ (k n : Nat) : marksL k (n + 1) = marksL k n ++ [markL k n] := by simp [marksL, List.range_succ]
theorem marksL_len (k n : Nat) : (marksL k n).length = n := by simp [marksL]
theorem marksL_get (k n i : Nat) (h : i < n) : (marksL k n)[i]? = some (markL k i) := by simp [marksL, h]
theorem markl_any (k i : Int) (w : World) (h0 : 0 ≤ k) (h1 : k ≤ 1000000) (h2 : 0 ≤ i) (h3 : i ≤ 1099511627776) :
    Calls Tryz.prog 23 #[.int .i64 k, .int .i64 i] w fun e w' => e = .returned (.agg #[.int .i64 (1000003 * (k + 7) + i), .string ⟨#[]⟩, .int .i64 0, .int .i64 0, .int .i64 0, .bool false]) ∧ w.alloc (.cells #[.int .i64 (1000003 * (k + 7) + i), .string ⟨#[]⟩, .int .i64 0, .int .i64 0, .int .i64 0, .bool false] 41) = w' := by
  go_enter Tryz.func23, Tryz.ntmps23
  go_wp2_with (go_at_call 39; ((with_reducible refine (mark_any k i _ h0 h1 h2 h3).mono ?_); rintro e w' ⟨rfl, rfl⟩))
  exact bodyPost_ret (v := .agg #[.int .i64 (1000003 * (k + 7) + i), .string ⟨#[]⟩, .int .i64 0, .int .i64 0, .int .i64 0, .bool false]) (by simp [results, Tryz.results23, go_sem]) rfl ⟨rfl, rfl⟩

theorem six_new_at (w : World) (n : Nat) (hn : w.heap.size = n) (M : Int) (t : TypeId) : ∀ (j : Nat) (u : Value), [.int .i64 M, .string ⟨#[]⟩, .int .i64 0, .int .i64 0, .int .i64 0, .bool false][j]? = some u → (w.alloc (.cells #[.int .i64 M, .string ⟨#[]⟩, .int .i64 0, .int .i64 0, .int .i64 0, .bool false] t)).cell? ((⟨n, 0, none⟩ : Addr).add j) = some u := by
  subst hn
  intro j u h
  rw [fresh_cell, ← h, ← Array.getElem?_toList]
theorem six_one (M : Int) : ∀ u ∈ [Value.int .i64 M, .string ⟨#[]⟩, .int .i64 0, .int .i64 0, .int .i64 0, .bool false], u.oneCell' = true := by
  intro u hu
  simp at hu
  rcases hu with rfl | rfl | rfl | rfl <;> rfl

/-- What is lent: the parts, twelve marks behind their end. -/
def LentToL (l : List Lt) (w : World) (e : Ending) (w' : World) : Prop :=
  e = .returned (.slice (some ⟨w.heap.size, 0, none⟩) l.length (l.length + 12)) ∧ Below w.heap.size w w' ∧
  w'.ownsRow w.heap.size 41 6 (.slice (some ⟨w.heap.size, 0, none⟩) (l.length + 12) (l.length + 12)) (l.length + 12) (lcells (l ++ marksL 1 12))

set_option maxRecDepth 100000 in
set_option maxHeartbeats 1000000 in
theorem lentl_any (v : Value) (l : List Lt) (B : Nat) (w : World) (hv : LSl w B v l) (hB : B ≤ w.heap.size) (hlen : l.length ≤ 1048576) :
    Calls Tryz.prog 7 #[v] w (LentToL l w) := by
  obtain ⟨i0, hi, hz0, hz1, hz2⟩ := info_parts infoLot
  obtain ⟨A, c, rfl, hc1, hc2, hcz, hl⟩ := id hv
  have H1 := Lib.hid hi
  have H2 := Lib.hid hz0
  have H3 := Lib.hid hz1
  have H4 := Lib.hid hz2
  clear hi hz0 hz1 hz2
  go_enter Tryz.func7, Tryz.ntmps7
  go_wp2_with (first
    | (at_make; refine wpList_make_own _ rfl _ _ 22 rfl w.heap.size 41 i0 (.agg #[.int .i64 0, .string ⟨#[]⟩, .int .i64 0, .int .i64 0, .int .i64 0, .bool false]) 6 Tryz.underlying22 H1.out H2.out H3.out .i64 .i64 _ (l.length + 12) rfl rfl (by omega) (by rw [H4.out]; omega) (by unfold maxLen; omega) (Nat.le_refl _) ?_; intro w1 hown1 hg1)
    | (at_builtin; refine wpList_append_fits_any _ rfl (.tmp 9) (.tmp 10) 22 rfl w.heap.size 41 i0 6 Tryz.underlying22 H1.out H3.out w.heap.size 0 (l.length + 12) [] rfl hown1 A l.length c (lcells l) rfl (lcells_length l) (fun h => ⟨by have := hcz h; omega, hcz h⟩) (fun ad had j u hu => by have h2 := (hl.below ((Below.refl _ _).grown hg1 hB (fun k hk => by cases hk))).get hu; obtain ⟨ad', e1, _, e2⟩ := h2; rw [had] at e1; injection e1 with e1; rw [e1]; exact e2) (lcells_one l) (by omega) ?_; intro w2 hown2 hg2))
  have hb2 : Below w.heap.size w w2 := ((Below.refl _ _).grown hg1 (Nat.le_refl _) (fun k hk => by cases hk)).grown hg2 hg1.size (fun k hk => by cases hk; exact Nat.le_refl _)
  have hz : w.heap.size < w2.heap.size := by have := hown2.lt w.heap.size rfl; omega
  clear hown1 hg1 hg2
  simp only [Nat.zero_add, List.nil_append] at hown2
  go_loopw [3, 4] (fun v i wr => ∃ k : Nat, k ≤ 12 ∧ i = .int .i64 k ∧ v = .slice (some ⟨w.heap.size, 0, none⟩) (l.length + k) (l.length + 12) ∧
      wr.ownsRow w.heap.size 41 6 (.slice (some ⟨w.heap.size, 0, none⟩) (l.length + k) (l.length + 12)) (l.length + k) (lcells (l ++ marksL 1 k)) ∧ Below w.heap.size w wr ∧ w.heap.size < wr.heap.size)
    (fun _ i _ => 12 - (intOf i).toNat)
  case atStart => exact ⟨0, by omega, rfl, rfl, by simpa [marksL] using hown2, hb2, hz⟩
  case round =>
    obtain ⟨k, hk, rfl, rfl, hrow, hbr, hzr⟩ := hrel
    by_cases hlt : k < 12
    · have hmk : (1000003 * ((1 : Int) + 7) + (k : Int)) = 8000024 + (k : Int) := by omega
      have HMK := Lib.hid hmk
      clear hmk
      go_wp2_with (first
        | (go_at_call 23; ((with_reducible refine (markl_any 1 k _ (by omega) (by omega) (by omega) (by omega)).mono ?_); rintro e w' ⟨rfl, rfl⟩))
        | (at_builtin; refine wpList_append_fits _ rfl (.tmp 16) (.tmp 19) 22 rfl w.heap.size 41 i0 6 Tryz.underlying22 H1.out H3.out w.heap.size (l.length + k) (l.length + 12) _ rfl ((hrow.alloc _).alloc _) ⟨wr.heap.size + 1, 0, none⟩ 1 1 [.int .i64 (8000024 + (k : Int)), .string ⟨#[]⟩, .int .i64 0, .int .i64 0, .int .i64 0, .bool false] rfl rfl (six_new_at _ _ (by simp) _ _) (six_one _) (by omega) ?_; intro w3 hown3 hg3))
      have hst : lcells (l ++ marksL 1 k) ++ [.int .i64 (8000024 + (k : Int)), .string ⟨#[]⟩, .int .i64 0, .int .i64 0, .int .i64 0, .bool false] = lcells (l ++ marksL 1 (k + 1)) := by
        rw [marksL_succ, ← HMK.out, ← List.append_assoc, lcells_append (l ++ marksL 1 k)]; rfl
      rw [hst] at hown3
      have hb3 : Below w.heap.size w w3 := ((hbr.alloc hbr.size _).alloc (by simp only [World.size_alloc]; omega) _).grown hg3 (by simp only [World.size_alloc]; omega) (fun j hj => by cases hj; exact Nat.le_refl _)
      have hz3 := hg3.size
      simp only [World.size_alloc] at hz3
      have HST := Lib.hid hst
      clear hst
      go_roundw
      case rel => exact ⟨k + 1, by omega, by go_num, rfl, hown3, hb3, by omega⟩
      case measure => simp [intOf]; omega
    · obtain rfl : k = 12 := by omega
      go_wp2
      go_ret
      exact ⟨rfl, hbr, hrow⟩
end Go.Proofs.YtjhijinbpdnmeaaGreat
end
