/- Texts of this proof, one behind the other. -/
import Derived.Deep.RegionHeld3
import Derived.Deep.RegionWith
import Derived.Deep.DrawnRows
import Derived.Test.YtddnfikjfmfhfaaW03
import Derived.Test.YtddnfikjfmfhfaaW00
section
/- flow.byId, flow.quantities: lots by their numbers, what each has. -/
namespace Go.Proofs.Ytddnfikjfmfhfaa
open Go.ChangeShapes Go.WideShapes Go.ChangeAt Go.RowKit Go.Maps
set_option linter.unusedVariables false

theorem snocRec {α : Type} {motive : List α → Prop} (l : List α) (nil : motive []) (snoc : ∀ (l : List α) (y : α), motive l → motive (l ++ [y])) : motive l := by
  rw [← List.reverse_reverse l]
  induction l.reverse with
  | nil => exact nil
  | cons x r ih => rw [List.reverse_cons]; exact snoc _ _ ih
/-- The last one of a number. -/
def lastId (l : List Lt) (i : Int) : Option Lt := l.foldl (fun o x => if i = x.id then some x else o) none
theorem lastId_snoc (l : List Lt) (x : Lt) (i : Int) : lastId (l ++ [x]) i = if i = x.id then some x else lastId l i := by simp [lastId, List.foldl_append]
theorem lastId_nil (i : Int) : lastId [] i = none := rfl
def zeroL : Lt := ⟨0, [], 0, 0, 0, false⟩
def foundL (l : List Lt) (i : Int) : Lt := (lastId l i).getD zeroL
def qtyOf (l : List Lt) (i : Int) : Int := match lastId l i with
  | some x => x.qty
  | none => 0
theorem foundL_snoc (l : List Lt) (x : Lt) (i : Int) : foundL (l ++ [x]) i = if i = x.id then x else foundL l i := by
  unfold foundL; rw [lastId_snoc]; split <;> rfl
theorem qtyOf_snoc (l : List Lt) (x : Lt) (i : Int) : qtyOf (l ++ [x]) i = if i = x.id then x.qty else qtyOf l i := by
  unfold qtyOf; rw [lastId_snoc]; by_cases h : i = x.id
  · rw [if_pos h, if_pos h]
  · rw [if_neg h, if_neg h]
theorem lastId_some : ∀ (l : List Lt) {i : Int} {x : Lt}, lastId l i = some x → x ∈ l ∧ x.id = i := by
  intro l
  induction l using snocRec with
  | nil => intro i x h; simp [lastId] at h
  | snoc l y ih =>
    intro i x h
    rw [lastId_snoc] at h
    split at h
    · rename_i e
      cases h
      exact ⟨by simp, e.symm⟩
    · obtain ⟨h1, h2⟩ := ih h
      exact ⟨by simp [h1], h2⟩
theorem lastId_mem {l : List Lt} (hn : (l.map Lt.id).Nodup) {x : Lt} (hx : x ∈ l) : lastId l x.id = some x := by
  induction l using snocRec with
  | nil => simp at hx
  | snoc l y ih =>
    rw [lastId_snoc]
    rw [List.map_append, List.nodup_append] at hn
    rcases List.mem_append.1 hx with hx | hx
    · have hne : x.id ≠ y.id := hn.2.2 _ (List.mem_map_of_mem hx) _ (by simp)
      rw [if_neg hne]
      exact ih hn.1 hx
    · obtain rfl := List.mem_singleton.1 hx
      rw [if_pos rfl]
theorem lastId_none : ∀ (l : List Lt) (i : Int), lastId l i = none ↔ i ∉ l.map Lt.id := by
  intro l
  induction l using snocRec with
  | nil => intro i; simp [lastId]
  | snoc l y ih =>
    intro i
    rw [lastId_snoc]
    by_cases e : i = y.id
    · rw [if_pos e]; simp [e]
    · rw [if_neg e, ih]; simp [e]
theorem qtyOf_mem {l : List Lt} (hn : (l.map Lt.id).Nodup) {x : Lt} (hx : x ∈ l) : qtyOf l x.id = x.qty := by unfold qtyOf; rw [lastId_mem hn hx]
theorem foundL_mem {l : List Lt} (hn : (l.map Lt.id).Nodup) {x : Lt} (hx : x ∈ l) : foundL l x.id = x := by unfold foundL; rw [lastId_mem hn hx]; rfl

/-- The map of lots by their numbers. -/
structure ById (D : DataW Value) (l : List Lt) : Prop where
  at_ : ∀ i, D.atKey (.int .i64 i) (.held (aggL zeroL)) = .held (aggL (foundL l i))
  has_ : ∀ i, Maps.has D (.int .i64 i) = true ↔ i ∈ l.map Lt.id
  le : Maps.size D ≤ l.length
  one : Maps.size D = l.length ↔ (l.map Lt.id).Nodup
theorem byId_nil : ById (.map []) [] := ⟨fun i => rfl, fun i => by simp [Maps.has], Nat.le_refl _, by simp [Maps.size]⟩
theorem ById.step {D : DataW Value} {l : List Lt} (h : ById D l) (ht : Tidy D) (x : Lt) : ById (D.put (.int .i64 x.id) (.held (aggL x))) (l ++ [x]) := by
  have hk := intKeyLits.key x.id
  have hsz := size_put (k := .int .i64 x.id) ht (DataW.held (aggL x))
  refine ⟨fun i => ?_, fun i => ?_, ?_, ?_⟩
  · rw [foundL_snoc]
    by_cases e : i = x.id
    · subst e; rw [atKey_put_same ht.isMap hk, if_pos rfl]
    · rw [atKey_put_other (fun e' => e (intKeyLits.inj _ _ e')), h.at_, if_neg e]
  · by_cases e : i = x.id
    · subst e; rw [has_put_same ht.isMap hk]; simp
    · rw [has_put_other (fun e' => e (intKeyLits.inj _ _ e')), h.has_]; simp [e]
  · rw [hsz, List.length_append]
    have := h.le
    simp only [List.length_singleton]
    split <;> omega
  · rw [hsz, List.length_append, List.map_append, List.nodup_append, ← h.one]
    have h1 := h.le
    by_cases hh : Maps.has D (.int .i64 x.id) = true
    · rw [if_pos hh]
      have hm := (h.has_ x.id).1 hh
      constructor
      · intro e; simp at e; omega
      · rintro ⟨_, _, h3⟩
        exact absurd rfl (h3 _ hm x.id (by simp))
    · rw [if_neg hh]
      have hm : x.id ∉ l.map Lt.id := fun e => hh ((h.has_ x.id).2 e)
      simp only [List.length_singleton, List.map_cons, List.map_nil]
      constructor
      · intro e
        exact ⟨by omega, by simp, fun a ha b hb e' => hm (by rw [List.mem_singleton.1 hb] at e'; rw [← e']; exact ha)⟩
      · rintro ⟨e, _⟩; omega

/-- What byId answers. -/
def ByIdTo (l : List Lt) (w : World) (e : Ending) (w' : World) : Prop := ∃ b D, e = .returned (.map (some b)) ∧ ById D l ∧ w'.ownsMap Try.prog 3 rawE b l.length D ∧ w.heap.size ≤ b ∧ Below w.heap.size w w'
set_option maxHeartbeats 1000000 in
theorem byId_any (v : Value) (l : List Lt) (w : World) (hlen : l.length ≤ 1099511627776) (hs : Sized l) (hv : LSl w w.heap.size v l) :
    Calls Try.prog 39 #[v] w (ByIdTo l w) := by
  obtain ⟨A, c, rfl, hc1, hc2, hcz, hl⟩ := id hv
  have hmm := @run_makeMap Try.prog
  have HL := Lib.hid hl
  have HS := Lib.hid hs
  clear hl hv hs
  go_enter Try.func39, Try.ntmps39
  go_wp2
  clear hmm
  go_loopw [9] (fun i wr => ∃ (k : Nat) (D : DataW Value), k ≤ l.length ∧ i = .int .i64 k ∧ Hid (ById D (l.take k)) ∧ Hid (wr.ownsMap Try.prog 3 rawE w.heap.size k D) ∧ Hid (Below w.heap.size w wr) ∧ w.heap.size < wr.heap.size) (fun i _ => l.length - (intOf i).toNat)
  case atStart => exact ⟨0, .map [], Nat.zero_le _, rfl, Lib.hid (by simpa using byId_nil), Lib.hid (World.ownsMap_made _ _ _ _), Lib.hid (below_alloc1 _ _), by simp⟩
  case round =>
    obtain ⟨k, D, hk, rfl, HD, HM, HB, hz⟩ := hrel
    by_cases hlt : k < l.length
    · obtain ⟨x, hx⟩ : ∃ x, l[k]? = some x := ⟨_, List.getElem?_eq_getElem hlt⟩
      obtain ⟨ad, rfl, hab, hx0, hx1, hx2, hx3, hx4, hx5⟩ := (HL.out.below HB.out).six hx
      have hf := HS.out x (List.mem_of_getElem? hx)
      obtain ⟨hi1, hi2, _⟩ := hf
      have HX := Lib.hid hx
      clear hx
      go_wp2_with (at_mapUpdate; refine wpList_mapUpdate_own _ rfl _ _ _ 65 rfl 3 42 ikeyed Try.underlying65 rawE w.heap.size k D rfl (HM.out.alloc _) (by unfold maxLen; omega) _ _ _ rfl rfl (ikey_of x.id hi1 hi2) (.held (aggL x)) [] (by rfl) ?_; intro w2 hown2' hg2')
      have hown2 := Lib.hid hown2'
      have hg2 := Lib.hid hg2'
      clear hown2' hg2'
      have hst : Hid (ById (D.put (.int .i64 x.id) (.held (aggL x))) (l.take (k + 1))) := Lib.hid (by
        have := HD.out.step (HM.out.tidy ikeyed) x
        rw [List.take_add_one, HX.out]; exact this)
      have hb2 : Hid (Below w.heap.size w w2) := Lib.hid ((HB.out.alloc HB.out.size _).grown hg2.out (by simp only [World.size_alloc]; omega) (fun j hj => by cases hj; exact Nat.le_refl _))
      have hz2 := hg2.out.size
      simp only [World.size_alloc] at hz2
      go_roundw
      case rel => exact ⟨k + 1, _, by omega, by go_num, hst, hown2, hb2, by omega⟩
      case measure => simp [intOf]; omega
    · obtain rfl : k = l.length := by omega
      go_wp2
      go_ret
      exact ⟨w.heap.size, D, rfl, by have := HD.out; rwa [List.take_of_length_le (Nat.le_refl _)] at this, HM.out, Nat.le_refl _, HB.out⟩

theorem zeroLot_run (w : World) : (zeroValue 42).run Try.prog w = .ok (aggL zeroL) w := by kernel_rfl
theorem zero64_run (w : World) : (zeroValue 2).run Try.prog w = .ok (.int .i64 0) w := by kernel_rfl
abbrev IMap (z : Value) (w : World) (b n : Nat) (f : Int → Value) (S : Int → Prop) : Prop := MapOf (fun n : Int => Lit.int .i64 n) Try.prog 3 z w b n f S
theorem ById.mapOf {D : DataW Value} {l : List Lt} {w : World} {b n : Nat} (h : ById D l) (ho : w.ownsMap Try.prog 3 rawE b n D) : IMap (aggL zeroL) w b n (fun i => aggL (foundL l i)) (fun i => i ∈ l.map Lt.id) := ⟨D, ho, h.at_, h.has_⟩

/-- What quantities answers. -/
def QtyTo (l : List Lt) (w : World) (e : Ending) (w' : World) : Prop := ∃ b, e = .returned (.map (some b)) ∧ IMap (.int .i64 0) w' b l.length (fun i => .int .i64 (qtyOf l i)) (fun i => i ∈ l.map Lt.id) ∧ w.heap.size ≤ b ∧ Below w.heap.size w w'
theorem qty_step {l : List Lt} {k : Nat} {x : Lt} {w : World} {b n : Nat} (hx : l[k]? = some x) (h : IMap (.int .i64 0) w b n (updK (fun i => .int .i64 (qtyOf (l.take k) i)) x.id (.int .i64 x.qty)) (fun u => u = x.id ∨ u ∈ (l.take k).map Lt.id)) :
    IMap (.int .i64 0) w b n (fun i => .int .i64 (qtyOf (l.take (k + 1)) i)) (fun i => i ∈ (l.take (k + 1)).map Lt.id) := by
  obtain ⟨D, h1, h2, h3⟩ := h
  have e : l.take (k + 1) = l.take k ++ [x] := by rw [List.take_add_one, hx]; rfl
  refine ⟨D, h1, fun i => ?_, fun i => ?_⟩
  · rw [h2, e]
    show _ = DataW.held (Value.int .i64 (qtyOf (l.take k ++ [x]) i))
    rw [qtyOf_snoc]
    unfold updK
    split <;> rfl
  · rw [h3, e]; simp [or_comm]
set_option maxHeartbeats 1000000 in
theorem quantities_any (v : Value) (l : List Lt) (w : World) (hlen : l.length ≤ 1099511627776) (hs : Sized l) (hv : LSl w w.heap.size v l) :
    Calls Try.prog 38 #[v] w (QtyTo l w) := by
  obtain ⟨A, c, rfl, hc1, hc2, hcz, hl⟩ := id hv
  have hmm := @run_makeMap Try.prog
  have HL := Lib.hid hl
  have HS := Lib.hid hs
  clear hl hv hs
  go_enter Try.func38, Try.ntmps38
  go_wp2
  clear hmm
  go_loopw [9] (fun i wr => ∃ k : Nat, k ≤ l.length ∧ i = .int .i64 k ∧ Hid (IMap (.int .i64 0) wr w.heap.size k (fun i => .int .i64 (qtyOf (l.take k) i)) (fun i => i ∈ (l.take k).map Lt.id)) ∧ Hid (Below w.heap.size w wr) ∧ w.heap.size < wr.heap.size) (fun i _ => l.length - (intOf i).toNat)
  case atStart => exact ⟨0, Nat.zero_le _, rfl, Lib.hid (by have := mapOf_made (fun n : Int => Lit.int .i64 n) Try.prog 3 (.int .i64 0) w; obtain ⟨D, h1, h2, h3⟩ := this; exact ⟨D, h1, h2, fun i => by rw [h3]; simp⟩), Lib.hid (below_alloc1 _ _), by simp⟩
  case round =>
    obtain ⟨k, hk, rfl, HM, HB, hz⟩ := hrel
    by_cases hlt : k < l.length
    · obtain ⟨x, hx⟩ : ∃ x, l[k]? = some x := ⟨_, List.getElem?_eq_getElem hlt⟩
      obtain ⟨ad, rfl, hab, hx0, hx1, hx2, hx3, hx4, hx5⟩ := (HL.out.below HB.out).six hx
      have hf := HS.out x (List.mem_of_getElem? hx)
      obtain ⟨hi1, hi2, _⟩ := hf
      have HX := Lib.hid hx
      clear hx
      go_wp2_with (at_mapUpdate; refine wpList_put _ rfl _ _ _ 54 rfl 3 2 intKeyLits ikeyed Try.underlying54 (.int .i64 0) w.heap.size k _ _ rfl (HM.out.alloc _) (by unfold maxLen; omega) _ _ x.id rfl rfl (ikey_of x.id hi1 hi2) ?_; intro w2 hown2' hg2')
      have hown2 := Lib.hid (qty_step HX.out hown2')
      have hg2 := Lib.hid hg2'
      clear hown2' hg2'
      have hb2 : Hid (Below w.heap.size w w2) := Lib.hid ((HB.out.alloc HB.out.size _).grown hg2.out (by simp only [World.size_alloc]; omega) (fun j hj => by cases hj; exact Nat.le_refl _))
      have hz2 := hg2.out.size
      simp only [World.size_alloc] at hz2
      go_roundw
      case rel => exact ⟨k + 1, by omega, by go_num, hown2, hb2, by omega⟩
      case measure => simp [intOf]; omega
    · obtain rfl : k = l.length := by omega
      go_wp2
      go_ret
      exact ⟨w.heap.size, rfl, by have := HM.out; rwa [List.take_of_length_le (Nat.le_refl _)] at this, Nat.le_refl _, HB.out⟩
end Go.Proofs.Ytddnfikjfmfhfaa
end
section
/- flow.together: whether lots and wants may be together. -/
namespace Go.Proofs.Ytddnfikjfmfhfaa
open Go.ChangeShapes Go.WideShapes Go.ChangeAt Go.RowKit Go.Maps
set_option linter.unusedVariables false

def mayB (l : List Lt) (ws : List Wt) : Bool := decide (l.length ≤ 300 ∧ ws.length ≤ 20000) && (l.all lrightB && (ws.all wantB && decide ((l.map Lt.id).Nodup)))
theorem mayB_true {l : List Lt} {ws : List Wt} (h : mayB l ws = true) : l.length ≤ 300 ∧ ws.length ≤ 20000 ∧ (∀ x ∈ l, lrightB x = true) ∧ (∀ x ∈ ws, wantB x = true) ∧ (l.map Lt.id).Nodup := by
  simp only [mayB, Bool.and_eq_true, decide_eq_true_eq, List.all_eq_true] at h
  exact ⟨h.1.1, h.1.2, h.2.1, h.2.2.1, h.2.2.2⟩
theorem allRightL_b (b : Bool) (v : Value) (l : List Lt) (w : World) (hlen : l.length ≤ 1099511627776) (hv : LSl w w.heap.size v l) (h : l.all lrightB = b) :
    Calls Try.prog 53 #[v, .func (.func 54) #[] #[]] w fun e w' => e = .returned (.bool b) ∧ Below w.heap.size w w' := by
  rw [← h]; exact allRightL_any v l w hlen hv
theorem allRightW_b (b : Bool) (v : Value) (l : List Wt) (w : World) (hlen : l.length ≤ 1099511627776) (hv : WSl w w.heap.size v l) (h : l.all wantB = b) :
    Calls Try.prog 55 #[v, .func (.func 56) #[] #[]] w fun e w' => e = .returned (.bool b) ∧ Below w.heap.size w w' := by
  rw [← h]; exact allRightW_any v l w hlen hv
set_option maxHeartbeats 2000000 in
theorem together_any (v1 v2 : Value) (l : List Lt) (ws : List Wt) (w : World) (hl : l.length ≤ 1099511627776) (hw : ws.length ≤ 1099511627776) (hs : Sized l) (h1 : LSl w w.heap.size v1 l) (h2 : WSl w w.heap.size v2 ws) :
    Calls Try.prog 37 #[v1, v2] w fun e w' => e = .returned (.bool (mayB l ws)) ∧ Below w.heap.size w w' := by
  have HV1 := Lib.hid h1
  have HV2 := Lib.hid h2
  have HS := Lib.hid hs
  obtain ⟨A, c, rfl, hc1, hc2, hcz, _⟩ := id h1
  obtain ⟨A2, c2, rfl, hc3, hc4, hcz2, _⟩ := id h2
  clear h1 h2 hs
  by_cases g0 : l.length ≤ 300
  · by_cases g1 : ws.length ≤ 20000
    · obtain ⟨a, ha⟩ : ∃ a, l.all lrightB = a := ⟨_, rfl⟩
      obtain ⟨b, hb⟩ : ∃ b, ws.all wantB = b := ⟨_, rfl⟩
      have hd1 : decide (300 < l.length) = false := decide_eq_false (by omega)
      have hd2 : decide (20000 < ws.length) = false := decide_eq_false (by omega)
      have HA := Lib.hid ha
      have HB := Lib.hid hb
      have HM : Hid (mayB l ws = (a && (b && decide ((l.map Lt.id).Nodup)))) := Lib.hid (by unfold mayB; rw [HA.out, HB.out, decide_eq_true ⟨g0, g1⟩, Bool.true_and])
      rw [HM.out]
      clear ha hb
      cases a
      · rw [Bool.false_and]
        go_enter Try.func37, Try.ntmps37
        go_wp2_with (go_at_call 53; ((with_reducible refine (allRightL_b _ _ l _ hl HV1.out HA.out).mono ?_); rintro e w1 ⟨rfl, hb1'⟩; have hb1 := Lib.hid hb1'; clear hb1'))
        go_ret
        exact ⟨rfl, hb1.out⟩
      · cases b
        · rw [Bool.false_and, Bool.and_false]
          go_enter Try.func37, Try.ntmps37
          go_wp2_with (first
            | (go_at_call 53; ((with_reducible refine (allRightL_b _ _ l _ hl HV1.out HA.out).mono ?_); rintro e w1 ⟨rfl, hb1'⟩; have hb1 := Lib.hid hb1'; clear hb1'))
            | (go_at_call 55; ((with_reducible refine (allRightW_b _ _ ws _ hw (HV2.out.at_ hb1.out) HB.out).mono ?_); rintro e w2 ⟨rfl, hb2'⟩; have hb2 := Lib.hid (below_two hb1.out hb2'); clear hb2')))
          go_ret
          exact ⟨rfl, hb2.out⟩
        · rw [Bool.true_and, Bool.true_and]
          go_enter Try.func37, Try.ntmps37
          go_wp2_with (first
            | (go_at_call 53; ((with_reducible refine (allRightL_b _ _ l _ hl HV1.out HA.out).mono ?_); rintro e w1 ⟨rfl, hb1'⟩; have hb1 := Lib.hid hb1'; clear hb1'))
            | (go_at_call 55; ((with_reducible refine (allRightW_b _ _ ws _ hw (HV2.out.at_ hb1.out) HB.out).mono ?_); rintro e w2 ⟨rfl, hb2'⟩; have hb2 := Lib.hid (below_two hb1.out hb2'); clear hb2'))
            | (go_at_call 39; ((with_reducible refine (byId_any _ l _ hl HS.out (HV1.out.at_ hb2.out)).mono ?_); rintro e w3 ⟨bm, D, rfl, hD', hM', _, hb3'⟩; have hD := Lib.hid hD'; have hM := Lib.hid hM'; have hb3 := Lib.hid (below_two hb2.out hb3'); have hrl := hM'.len Try.underlying65 3; clear hD' hM' hb3')))
          go_ret
          refine ⟨ret_bool ?_, hb3.out⟩
          by_cases hn : (l.map Lt.id).Nodup
          · rw [decide_eq_true hn, hD.out.one.2 hn]; simp
          · rw [decide_eq_false hn]
            have := mt hD.out.one.1 hn
            simp; omega
    · have hv : mayB l ws = false := by unfold mayB; rw [decide_eq_false (by omega), Bool.false_and]
      have hd1 : decide (300 < l.length) = false := decide_eq_false (by omega)
      have hd2 : decide (20000 < ws.length) = true := decide_eq_true (by omega)
      rw [hv]
      clear hv
      go_enter Try.func37, Try.ntmps37
      go_wp2
      go_ret
      exact ⟨rfl, Below.refl _ _⟩
  · have hv : mayB l ws = false := by unfold mayB; rw [decide_eq_false (by omega), Bool.false_and]
    have hd1 : decide (300 < l.length) = true := decide_eq_true (by omega)
    rw [hv]
    clear hv
    go_enter Try.func37, Try.ntmps37
    go_wp2
    go_ret
    exact ⟨rfl, Below.refl _ _⟩
end Go.Proofs.Ytddnfikjfmfhfaa
end
section
/- flow.byItem: each item's lots in the order in which they are used. -/
namespace Go.Proofs.Ytddnfikjfmfhfaa
open Go.ChangeShapes Go.WideShapes Go.ChangeAt Go.RowKit Go.Maps
set_option linter.unusedVariables false

theorem zeroSlice_run (w : World) : (zeroValue 22).run Try.prog w = .ok (.slice none 0 0) w := by kernel_rfl
/-- The six cells of a lot, in a block of its own. -/
def RowAt (w : World) (b : Nat) (x : Lt) : Prop := w.cell? ⟨b, 0, none⟩ = some (.int .i64 x.id) ∧ w.cell? ⟨b, 1, none⟩ = some (.string ⟨x.item.toArray⟩) ∧ w.cell? ⟨b, 2, none⟩ = some (.int .i64 x.fr) ∧ w.cell? ⟨b, 3, none⟩ = some (.int .i64 x.un) ∧ w.cell? ⟨b, 4, none⟩ = some (.int .i64 x.qty) ∧ w.cell? ⟨b, 5, none⟩ = some (.bool x.arr)
theorem RowAt.kept {w w' : World} {b : Nat} {x : Lt} (h : RowAt w b x) (hk : ∀ o, w'.cell? ⟨b, o, none⟩ = w.cell? ⟨b, o, none⟩) : RowAt w' b x := by
  obtain ⟨h0, h1, h2, h3, h4, h5⟩ := h
  exact ⟨(hk 0).trans h0, (hk 1).trans h1, (hk 2).trans h2, (hk 3).trans h3, (hk 4).trans h4, (hk 5).trans h5⟩
theorem RowAt.alloc_ {w : World} {b : Nat} {x : Lt} (h : RowAt w b x) (hb : b < w.heap.size) (o : Obj) : RowAt (w.alloc o) b x := h.kept (fun i => ((Below.refl w.heap.size w).alloc (Nat.le_refl _) o).cell (p := ⟨b, i, none⟩) hb)
theorem RowAt.grown {w w' : World} {b : Nat} {x : Lt} {row : Option Nat} (h : RowAt w b x) (hb : b < w.heap.size) (hg : w.grownBy w' row) (hne : some b ≠ row) : RowAt w' b x := h.kept (fun i => World.cell?_of_block (hg.block b hb hne))
theorem rowAt_new (w : World) (x : Lt) : RowAt (w.alloc (.cells #[.int .i64 x.id, .string ⟨x.item.toArray⟩, .int .i64 x.fr, .int .i64 x.un, .int .i64 x.qty, .bool x.arr] 42)) w.heap.size x := by
  have h := fresh_cell w #[.int .i64 x.id, .string ⟨x.item.toArray⟩, .int .i64 x.fr, .int .i64 x.un, .int .i64 x.qty, .bool x.arr] 42
  have g : ∀ j, (w.alloc (.cells #[.int .i64 x.id, .string ⟨x.item.toArray⟩, .int .i64 x.fr, .int .i64 x.un, .int .i64 x.qty, .bool x.arr] 42)).cell? ⟨w.heap.size, j, none⟩ = (#[Value.int .i64 x.id, .string ⟨x.item.toArray⟩, .int .i64 x.fr, .int .i64 x.un, .int .i64 x.qty, .bool x.arr])[j]? := fun j => by have := h j; rwa [addr0] at this
  exact ⟨g 0, g 1, g 2, g 3, g 4, g 5⟩
theorem below_none0 {w w' : World} (h : Below w.heap.size w w') : w.grownBy w' none := ⟨h.os, h.tape, h.output, h.size, fun i hi _ => h.block i hi⟩
theorem shelves_base {w : World} {base base' b n : Nat} {sv : List UInt8 → Value} {sh : List UInt8 → List Lt} (h : Shelves w base b n sv sh) (hb : b < base') (h0 : ∀ it, sv it = .slice none 0 0 ∧ sh it = []) : Shelves w base' b n sv sh := by
  obtain ⟨h1, h2, h3, h4⟩ := h
  exact ⟨h1, fun it => by rw [(h0 it).1, (h0 it).2]; exact World.ownsRow_nil _ _ _ _, h3, hb⟩
theorem Shelves.look {w : World} {base b n : Nat} {sv : List UInt8 → Value} {sh : List UInt8 → List Lt} (h : Shelves w base b n sv sh) (it : List UInt8) (hl : it.length ≤ maxLen) :
    ∀ q, (Instr.lookup 53 (.map (some b)) (.string ⟨it.toArray⟩) false).run Try.prog (w.drewN q) = .ok (sv it) (w.drewN q) := fun q => by
  obtain ⟨⟨S, hm⟩, _⟩ := h
  exact (hm.kept (w' := w.drewN q) (row := none) ⟨rfl, rfl, rfl, Nat.le_refl _, fun _ _ _ => rfl⟩ (by simp)).look skeyed Try.underlying53 (zeroSlice_run _) (skey_of it hl)
theorem Shelves.off {w : World} {base b n : Nat} {sv : List UInt8 → Value} {sh : List UInt8 → List Lt} (h : Shelves w base b n sv sh) (g : Nat) (hg : w.heap.size ≤ g) (it : List UInt8) : (sv it).ownBlock ≠ some g := fun e => by have := ((h.rows it).lt g e).2; omega
theorem Shelves.offb {w : World} {base b n : Nat} {sv : List UInt8 → Value} {sh : List UInt8 → List Lt} (h : Shelves w base b n sv sh) (it : List UInt8) : some b ≠ (sv it).ownBlock := fun e => by have := ((h.rows it).lt b e.symm).1; have := h.under; omega
theorem rowS_off {w : World} {v u : Value} {b B1 n : Nat} {xs : List Value} (h : ∀ g, v.ownBlock = some g → b < g ∧ g < B1) (hu : w.ownsRow B1 42 6 u n xs) : v.ownBlock = none ∨ v.ownBlock ≠ u.ownBlock := by
  cases hv : v.ownBlock with
  | none => exact .inl rfl
  | some g => exact .inr (fun e => by have h1 := (h g hv).2; have h2 := (hu.lt g e.symm).1; omega)
theorem rowS_offb {v : Value} {b B1 : Nat} (h : ∀ g, v.ownBlock = some g → b < g ∧ g < B1) : v.ownBlock = none ∨ v.ownBlock ≠ some b := by
  cases hv : v.ownBlock with
  | none => exact .inl rfl
  | some g => exact .inr (fun e => by cases e; have h1 := (h b hv).1; omega)
theorem rowS_kept {W w3 w4 : World} {base : Nat} {v u : Value} {b n : Nat} {xs : List Value} {o : Obj} (h : W.ownsRow base 42 6 v n xs) (h1 : v.ownBlock = none ∨ v.ownBlock ≠ u.ownBlock) (h2 : v.ownBlock = none ∨ v.ownBlock ≠ some b) (hg3 : (W.drew.alloc o).grownBy w3 u.ownBlock) (hg4 : w3.grownBy w4 (some b)) : w4.ownsRow base 42 6 v n xs :=
  (((h.kept (w' := W.drew) (row := none) ⟨rfl, rfl, rfl, Nat.le_refl _, fun _ _ _ => rfl⟩ (by cases v.ownBlock <;> simp)).alloc o).kept hg3 h1).kept hg4 h2
theorem draws_none (w : World) (n : Nat) : w.grownBy (w.drewN n) none := ⟨rfl, rfl, rfl, Nat.le_refl _, fun _ _ _ => rfl⟩
theorem encL_new (w : World) (x : Lt) : ∀ j u, (encL x)[j]? = some u → (w.alloc (.cells #[.int .i64 x.id, .string ⟨x.item.toArray⟩, .int .i64 x.fr, .int .i64 x.un, .int .i64 x.qty, .bool x.arr] 42)).cell? ((⟨w.heap.size, 0, none⟩ : Addr).add j) = some u := fun j u h => by
  rw [fresh_cell]; simpa [encL] using h
def ofItem (S : List Lt) (it : List UInt8) : List Lt := S.filter (fun x => decide (x.item = it))
theorem ofItem_step (S : List Lt) (k : Nat) (x : Lt) (h : S[k]? = some x) : (fun it => ofItem (S.take (k + 1)) it) = updL (fun it => ofItem (S.take k) it) x.item (ofItem (S.take k) x.item ++ [x]) := by
  funext it
  unfold ofItem updL
  rw [List.take_add_one, h, List.filter_append]
  by_cases e : it = x.item
  · subst e; simp
  · rw [if_neg e]; simp [Ne.symm e]
/-- What byItem answers. -/
def ItemsTo (l : List Lt) (w : World) (e : Ending) (w' : World) : Prop := ∃ b n S sv base, e = .returned (.map (some b)) ∧ Stab l S ∧ Shelves w' base b n sv (fun it => ofItem S it) ∧ n ≤ l.length ∧ w.heap.size ≤ b ∧ Below w.heap.size w w'
set_option maxHeartbeats 4000000 in
set_option maxRecDepth 100000 in
theorem byItem_any (v : Value) (l : List Lt) (w : World) (hlen : l.length ≤ 1000000) (hs : Sized l) (hv : LSl w w.heap.size v l) :
    Calls Try.prog 47 #[v] w (ItemsTo l w) := by
  obtain ⟨A, c, rfl, hc1, hc2, hcz, hl⟩ := id hv
  have hmm := @run_makeMap Try.prog
  obtain ⟨i0, hi, hz0, hz1, hz2⟩ := info_parts infoLot
  have H1 := Lib.hid hi
  have H2 := Lib.hid hz0
  have H3 := Lib.hid hz1
  have H4 := Lib.hid hz2
  have HV := Lib.hid hv
  have HS := Lib.hid hs
  clear hl hv hs hi hz0 hz1 hz2
  go_enter Try.func47, Try.ntmps47
  go_wp2_with (go_at_call 59; ((with_reducible refine (sort_any _ l _ (by omega) (HV.out.alloc_ (Nat.le_refl _) _ |>.mono (by simp))).mono ?_); rintro e w1 ⟨v1, S, rfl, hS', ho', hb1'⟩; obtain ⟨A1, c1, rfl, hd1, hd2, hdz⟩ := own_form ho'; have hS := Lib.hid hS'; have ho := Lib.hid ho'; have hb1 := Lib.hid hb1'; clear hS' ho' hb1'))
  have hbl : w.heap.size < w1.heap.size := by have := hb1.out.size; simp only [World.size_alloc] at this; omega
  have hsh : Hid (Shelves w1 w1.heap.size w.heap.size 0 (fun _ => .slice none 0 0) (fun it => ofItem (S.take 0) it)) := Lib.hid (shelves_base ((shelves_made w).still (below_none0 hb1.out)) hbl (fun it => ⟨rfl, rfl⟩))
  obtain ⟨b, hbE, hbb⟩ : ∃ b, w.heap.size = b ∧ w.heap.size ≤ b := ⟨_, rfl, Nat.le_refl _⟩
  have hbw : Hid (Below w.heap.size w w1) := Lib.hid (below_alloc2 _ hb1.out)
  have hoS := ho.out
  have hoB := Lib.hid (base_less ho.out (base' := w.heap.size) (by simp))
  rw [hbE] at hsh hbl ⊢
  have hSl : S.length = l.length := hS.out.length
  have HSL := Lib.hid hSl
  have hSz : Hid (Sized S) := Lib.hid (fun x hx => HS.out x (hS.out.perm.mem_iff.1 hx))
  have hl1 : S.length ≤ 1000000 := by omega
  obtain ⟨B1, hB1⟩ : ∃ B1, w1.heap.size = B1 := ⟨_, rfl⟩
  have HB1 := Lib.hid hB1
  rw [hB1] at hsh hbl
  have hS1 : Hid (∀ g, Value.ownBlock (.slice A1 S.length c1) = some g → b < g ∧ g < B1) := Lib.hid (fun g hg => ⟨by have := (hoS.lt g hg).1; simp at this; omega, by have := (hoS.lt g hg).2; omega⟩)
  have hbb1 := Lib.hid hbb
  clear hoS
  have hB1le : B1 ≤ w1.heap.size := by omega
  clear hbE hB1 hb1 ho hSl
  go_loopw [10] (fun i wr => ∃ (k n : Nat) (sv : List UInt8 → Value), k ≤ S.length ∧ i = .int .i64 k ∧ n ≤ k ∧ Hid (Shelves wr B1 b n sv (fun it => ofItem (S.take k) it)) ∧ Hid (wr.ownsRow w.heap.size 42 6 (.slice A1 S.length c1) S.length (lcells S)) ∧ Hid (Below w.heap.size w wr) ∧ B1 ≤ wr.heap.size) (fun i _ => S.length - (intOf i).toNat)
  case atStart => exact ⟨0, 0, _, Nat.zero_le _, rfl, Nat.le_refl _, hsh, hoB, hbw, hB1le⟩
  case round =>
    clear hsh hoB hbw hB1le
    obtain ⟨k, n, sv, hk, rfl, hnk, HSh, HO, HB, hBr⟩ := hrel
    by_cases hlt : k < S.length
    · obtain ⟨x, hx⟩ : ∃ x, S[k]? = some x := ⟨_, List.getElem?_eq_getElem hlt⟩
      obtain ⟨ad, rfl, hab, hx0, hx1, hx2, hx3, hx4, hx5⟩ := (Lies.own HO.out).six hx
      have hf := Lib.hid (hSz.out x (List.mem_of_getElem? hx))
      have HX := Lib.hid hx
      clear hx
      go_wp2
      obtain ⟨bx, hbx, hbxle⟩ : ∃ bx, wr.heap.size = bx ∧ wr.heap.size ≤ bx := ⟨_, rfl, Nat.le_refl _⟩
      obtain ⟨W, hW⟩ : ∃ W, W = wr.alloc (.cells #[.int .i64 x.id, .string ⟨x.item.toArray⟩, .int .i64 x.fr, .int .i64 x.un, .int .i64 x.qty, .bool x.arr] 42) := ⟨_, rfl⟩
      have hBX : Hid (RowAt W bx x) := Lib.hid (by rw [hW, ← hbx]; exact rowAt_new wr x)
      have hbxl : bx < W.heap.size := by rw [hW]; simp; omega
      have HSh2 := Lib.hid (HSh.out.alloc (.cells #[.int .i64 x.id, .string ⟨x.item.toArray⟩, .int .i64 x.fr, .int .i64 x.un, .int .i64 x.qty, .bool x.arr] 42))
      have HO2 := Lib.hid (HO.out.alloc (.cells #[.int .i64 x.id, .string ⟨x.item.toArray⟩, .int .i64 x.fr, .int .i64 x.un, .int .i64 x.qty, .bool x.arr] 42))
      have HB2 := Lib.hid (HB.out.alloc HB.out.size (.cells #[.int .i64 x.id, .string ⟨x.item.toArray⟩, .int .i64 x.fr, .int .i64 x.un, .int .i64 x.qty, .bool x.arr] 42))
      rw [← hW] at HSh2 HO2 HB2 ⊢
      rw [hbx]
      have hlook : (Instr.lookup 53 (.map (some b)) (.string ⟨x.item.toArray⟩) false).run Try.prog W.drew = .ok (sv x.item) W.drew := HSh2.out.look x.item hf.out.2.2.1 1
      have hlook2 : (Instr.lookup 53 (.map (some b)) (.string ⟨x.item.toArray⟩) false).run Try.prog (W.alloc (.cells #[.int .i64 x.id, .string ⟨x.item.toArray⟩, .int .i64 x.fr, .int .i64 x.un, .int .i64 x.qty, .bool x.arr] 42)).drew = .ok (sv x.item) (W.alloc (.cells #[.int .i64 x.id, .string ⟨x.item.toArray⟩, .int .i64 x.fr, .int .i64 x.un, .int .i64 x.qty, .bool x.arr] 42)).drew := (HSh2.out.alloc (.cells #[.int .i64 x.id, .string ⟨x.item.toArray⟩, .int .i64 x.fr, .int .i64 x.un, .int .i64 x.qty, .bool x.arr] 42)).look x.item hf.out.2.2.1 1
      have hOff : Hid (Value.ownBlock (.slice (some ad) S.length c1) = none ∨ Value.ownBlock (.slice (some ad) S.length c1) ≠ (sv x.item).ownBlock) := Lib.hid (rowS_off hS1.out (HSh.out.rows x.item))
      have hOb : Hid (Value.ownBlock (.slice (some ad) S.length c1) = none ∨ Value.ownBlock (.slice (some ad) S.length c1) ≠ some b) := Lib.hid (rowS_offb hS1.out)
      have hne := Lib.hid (fun it => HSh.out.off bx (by omega) it)
      obtain ⟨Sk, hmk⟩ := HSh2.out.map
      have HMK := Lib.hid hmk
      have hofl : (ofItem (S.take k) x.item).length ≤ k := Nat.le_trans (List.length_filter_le _ _) (List.length_take_le _ _)
      have HSh3 := Lib.hid ((HSh2.out.still (draws_none W 1)).alloc (.cells #[.int .i64 x.id, .string ⟨x.item.toArray⟩, .int .i64 x.fr, .int .i64 x.un, .int .i64 x.qty, .bool x.arr] 42))
      have hbW : B1 ≤ W.heap.size := by have := HB2.out.size; rw [hW]; simp; omega
      have HNEW := Lib.hid (encL_new (W.drewN 1) x)
      clear hmk
      clear hW hbx hx0 hx1 hx2 hx3 hx4 hx5
      refine wp_region_held_drew (S := fun w' => RowAt w' bx x) (by kernel_rfl) (hBX.out) (fun hS => ?_)
      refine wpAnyH_take (i := 0) (v := (.map (some b))) rfl (by kernel_rfl) (by kernel_rfl) (by kernel_rfl) (fun _ _ _ h => h) (Or.inl ⟨by kernel_rfl, fun w' hS' => by go_simp⟩) hS ?_
      refine wpAnyH_take (i := 1) (v := (.pointer (some ⟨bx, 1, none⟩))) rfl (by kernel_rfl) (by kernel_rfl) (by kernel_rfl) (fun _ _ _ h => h) (Or.inl ⟨by kernel_rfl, fun w' hS' => by go_simp⟩) hS ?_
      refine wpAnyH_take (i := 2) (v := (.string ⟨x.item.toArray⟩)) rfl (by kernel_rfl) (by kernel_rfl) (by kernel_rfl) (fun _ _ _ h => h) (Or.inl ⟨by kernel_rfl, fun w' hS' => by obtain ⟨c0, c1, c2, c3, c4, c5⟩ := hS'; go_simp⟩) hS ?_
      refine wpAnyH_take (i := 3) (v := (.map (some b))) rfl (by kernel_rfl) (by kernel_rfl) (by kernel_rfl) (fun _ _ _ h => h) (Or.inl ⟨by kernel_rfl, fun w' hS' => by go_simp⟩) hS ?_
      refine wpAnyH_take (i := 4) (v := (.pointer (some ⟨bx, 1, none⟩))) rfl (by kernel_rfl) (by kernel_rfl) (by kernel_rfl) (fun _ _ _ h => h) (Or.inl ⟨by kernel_rfl, fun w' hS' => by go_simp⟩) hS ?_
      refine wpAnyH_take (i := 5) (v := (.string ⟨x.item.toArray⟩)) rfl (by kernel_rfl) (by kernel_rfl) (by kernel_rfl) (fun _ _ _ h => h) (Or.inl ⟨by kernel_rfl, fun w' hS' => by obtain ⟨c0, c1, c2, c3, c4, c5⟩ := hS'; go_simp⟩) hS ?_
      refine wpAnyH_take (i := 7) (v := (.agg #[.int .i64 x.id, .string ⟨x.item.toArray⟩, .int .i64 x.fr, .int .i64 x.un, .int .i64 x.qty, .bool x.arr])) rfl (by kernel_rfl) (by kernel_rfl) (by kernel_rfl) (fun _ _ _ h => h) (Or.inl ⟨by kernel_rfl, fun w' hS' => by obtain ⟨c0, c1, c2, c3, c4, c5⟩ := hS'; go_simp⟩) hS ?_
      refine wpAnyH_ready (rs := [6, 8]) (by kernel_rfl) (by simp) ?_
      refine AllReadyH.cons rfl (fun K hK => ?_) (AllReadyH.cons rfl (fun K hK => ?_) AllReadyH.nil)
      · go_simp
        clear hlook hlook2
        refine hK.out _ _ hS (fun hS => ?_)
        clear hK K
        refine wpAnyH_ready (rs := [8]) (by kernel_rfl) (by simp) ?_
        refine AllReadyH.cons rfl (fun K hK => ?_) AllReadyH.nil
        go_simp
        skip
        refine hK.out _ _ (hS.alloc_ hbxl _) (fun hS => ?_)
        clear hK K
        refine wpAnyH_ready (rs := [9]) (by kernel_rfl) (by simp) ?_
        refine AllReadyH.cons rfl (fun K hK => ?_) AllReadyH.nil
        refine step_append_two (by rfl) (.tmp 20) (.tmp 22) 22 (by rfl) B1 42 i0 _ 6 56 Try.underlying22 H1.out H2.out H3.out H4.out rfl (by decide) (sv x.item) (ofItem (S.take k) x.item).length _ (by rfl) (HSh3.out.rows x.item) ⟨W.heap.size, 0, none⟩ 1 1 (encL x) (by rfl) rfl HNEW.out (encL_one x) (by omega) (by unfold maxLen; omega) (by omega) (by simp; omega) ?_
        intro v3 w3 hown3' hgrew3
        have hown3 := Lib.hid hown3'
        clear hown3'
        have hmk3 := Lib.hid ((HMK.out.kept (draws_none W 1) (by simp)).alloc (.cells #[.int .i64 x.id, .string ⟨x.item.toArray⟩, .int .i64 x.fr, .int .i64 x.un, .int .i64 x.qty, .bool x.arr] 42) |>.kept hgrew3.out.row (HSh3.out.offb x.item))
        refine hK.out _ _ (hS.grown (by simp; omega) hgrew3.out.row (fun e => hne.out x.item e.symm)) (fun hS => ?_)
        clear hK K
        refine wpAnyH_ready (rs := [10]) (by kernel_rfl) (by simp) ?_
        refine AllReadyH.cons rfl (fun K hK => ?_) AllReadyH.nil
        refine step_put (by rfl) _ _ _ 53 (by rfl) 9 22 strKeyLits skeyed Try.underlying53 (.slice none 0 0) b n sv Sk (by rfl) hmk3.out (by unfold maxLen; omega) _ _ x.item (by rfl) (by rfl) (skey_of x.item hf.out.2.2.1) ?_
        intro w4 hm4' hg4'
        have hm4 := Lib.hid hm4'
        have hg4 := Lib.hid hg4'
        clear hm4' hg4'
        refine hK.out _ _ (hS.grown (Nat.lt_of_lt_of_le (by simp; omega) hgrew3.out.row.size) hg4.out (by simp; omega)) (fun hS => ?_)
        clear hK K
        refine wpAnyH_done (by kernel_rfl) ?_ _
        have hx1 : Hid (lcells (ofItem (S.take k) x.item) ++ encL x = lcells (ofItem (S.take k) x.item ++ [x])) := Lib.hid (by rw [lcells_append]; simp [lcells])
        have hT := HSh3.out.turn (it := x.item) (l' := ofItem (S.take k) x.item ++ [x]) hgrew3.out.row (by rcases hgrew3.out.where_ with h | h; exact .inl h; exact .inr (.inr h)) (by rw [← hx1.out, List.length_append]; exact hown3.out) hm4.out hg4.out
        rw [← ofItem_step S k x HX.out] at hT
        have HT := Lib.hid hT
        have hO4 : Hid (w4.ownsRow w.heap.size 42 6 (.slice (some ad) S.length c1) S.length (lcells S)) := Lib.hid (rowS_kept HO2.out hOff.out hOb.out hgrew3.out.row hg4.out)
        have hB4 : Hid (Below w.heap.size w w4) := Lib.hid ((((below_draws HB2.out 1).alloc (by have := HB2.out.size; simpa using this) (.cells #[.int .i64 x.id, .string ⟨x.item.toArray⟩, .int .i64 x.fr, .int .i64 x.un, .int .i64 x.qty, .bool x.arr] 42)).grown hgrew3.out.row (by have := HB2.out.size; simp; omega) (fun j hj => by have := (HSh3.out.rows x.item).lt j hj; omega)).grown hg4.out (by have h1 := HB2.out.size; have h2 := hgrew3.out.row.size; simp at h2; omega) (fun j hj => by cases hj; exact hbb))
        have hz4 : B1 ≤ w4.heap.size := by
          have h1 := hg4.out.size
          have h2 := hgrew3.out.row.size
          simp at h2
          omega
        clear hT hS
        go_wp2
        go_roundw
        case rel => exact ⟨k + 1, n + 1, _, by omega, by go_num, by omega, HT, hO4, hB4, hz4⟩
        case measure => simp [intOf]; omega
      · go_simp
        clear hlook
        refine hK.out _ _ (hS.alloc_ hbxl _) (fun hS => ?_)
        clear hK K
        refine wpAnyH_ready (rs := [6]) (by kernel_rfl) (by simp) ?_
        refine AllReadyH.cons rfl (fun K hK => ?_) AllReadyH.nil
        go_simp
        clear hlook2
        refine hK.out _ _ (hS) (fun hS => ?_)
        clear hK K
        refine wpAnyH_ready (rs := [9]) (by kernel_rfl) (by simp) ?_
        refine AllReadyH.cons rfl (fun K hK => ?_) AllReadyH.nil
        refine step_append_two (by rfl) (.tmp 20) (.tmp 22) 22 (by rfl) B1 42 i0 _ 6 56 Try.underlying22 H1.out H2.out H3.out H4.out rfl (by decide) (sv x.item) (ofItem (S.take k) x.item).length _ (by rfl) (HSh3.out.rows x.item) ⟨W.heap.size, 0, none⟩ 1 1 (encL x) (by rfl) rfl HNEW.out (encL_one x) (by omega) (by unfold maxLen; omega) (by omega) (by simp; omega) ?_
        intro v3 w3 hown3' hgrew3
        have hown3 := Lib.hid hown3'
        clear hown3'
        have hmk3 := Lib.hid ((HMK.out.kept (draws_none W 1) (by simp)).alloc (.cells #[.int .i64 x.id, .string ⟨x.item.toArray⟩, .int .i64 x.fr, .int .i64 x.un, .int .i64 x.qty, .bool x.arr] 42) |>.kept hgrew3.out.row (HSh3.out.offb x.item))
        refine hK.out _ _ (hS.grown (by simp; omega) hgrew3.out.row (fun e => hne.out x.item e.symm)) (fun hS => ?_)
        clear hK K
        refine wpAnyH_ready (rs := [10]) (by kernel_rfl) (by simp) ?_
        refine AllReadyH.cons rfl (fun K hK => ?_) AllReadyH.nil
        refine step_put (by rfl) _ _ _ 53 (by rfl) 9 22 strKeyLits skeyed Try.underlying53 (.slice none 0 0) b n sv Sk (by rfl) hmk3.out (by unfold maxLen; omega) _ _ x.item (by rfl) (by rfl) (skey_of x.item hf.out.2.2.1) ?_
        intro w4 hm4' hg4'
        have hm4 := Lib.hid hm4'
        have hg4 := Lib.hid hg4'
        clear hm4' hg4'
        refine hK.out _ _ (hS.grown (Nat.lt_of_lt_of_le (by simp; omega) hgrew3.out.row.size) hg4.out (by simp; omega)) (fun hS => ?_)
        clear hK K
        refine wpAnyH_done (by kernel_rfl) ?_ _
        have hx1 : Hid (lcells (ofItem (S.take k) x.item) ++ encL x = lcells (ofItem (S.take k) x.item ++ [x])) := Lib.hid (by rw [lcells_append]; simp [lcells])
        have hT := HSh3.out.turn (it := x.item) (l' := ofItem (S.take k) x.item ++ [x]) hgrew3.out.row (by rcases hgrew3.out.where_ with h | h; exact .inl h; exact .inr (.inr h)) (by rw [← hx1.out, List.length_append]; exact hown3.out) hm4.out hg4.out
        rw [← ofItem_step S k x HX.out] at hT
        have HT := Lib.hid hT
        have hO4 : Hid (w4.ownsRow w.heap.size 42 6 (.slice (some ad) S.length c1) S.length (lcells S)) := Lib.hid (rowS_kept HO2.out hOff.out hOb.out hgrew3.out.row hg4.out)
        have hB4 : Hid (Below w.heap.size w w4) := Lib.hid ((((below_draws HB2.out 1).alloc (by have := HB2.out.size; simpa using this) (.cells #[.int .i64 x.id, .string ⟨x.item.toArray⟩, .int .i64 x.fr, .int .i64 x.un, .int .i64 x.qty, .bool x.arr] 42)).grown hgrew3.out.row (by have := HB2.out.size; simp; omega) (fun j hj => by have := (HSh3.out.rows x.item).lt j hj; omega)).grown hg4.out (by have h1 := HB2.out.size; have h2 := hgrew3.out.row.size; simp at h2; omega) (fun j hj => by cases hj; exact hbb))
        have hz4 : B1 ≤ w4.heap.size := by
          have h1 := hg4.out.size
          have h2 := hgrew3.out.row.size
          simp at h2
          omega
        clear hT hS
        go_wp2
        go_roundw
        case rel => exact ⟨k + 1, n + 1, _, by omega, by go_num, by omega, HT, hO4, hB4, hz4⟩
        case measure => simp [intOf]; omega
    · obtain rfl : k = S.length := by omega
      go_wp2
      go_ret
      exact ⟨b, n, S, sv, B1, rfl, hS.out, by have := HSh.out; rwa [List.take_of_length_le (Nat.le_refl _)] at this, by have := HSL.out; omega, hbb, HB.out⟩
end Go.Proofs.Ytddnfikjfmfhfaa
end
section
/- slices.Delete of one lot, out of a row of the call's own. -/
namespace Go.Proofs.Ytddnfikjfmfhfaa
open Go.ChangeShapes Go.WideShapes Go.ChangeAt Go.RowKit Go.Maps
set_option linter.unusedVariables false

/-- An append within the room, at a step of a region that draws its order. -/
theorem step_append_fits {P : Program} {w : World} {ops : Array Oper} {o : Oper} {a : Act} {K' : Act → World → Prop} {Q : Exit → Act → World → Prop} {E : Prop} (hgd : o.guard = none) (s x : Operand) (t : TypeId)
    (ho : o.op = .call { callee := .builtin .append, args := #[s, x], argTypes := #[t, t] })
    (base : Nat) (e : TypeId) (i : TypeInfo) (size : Nat) (ht : P.underlying t = some (.slice e)) (hi : P.info? e = some i) (hsize : i.size = size)
    (g n cap : Nat) (xs : List Value) (hs : a.eval s = .slice (some ⟨g, 0, none⟩) n cap) (hown : w.ownsRow base e size (.slice (some ⟨g, 0, none⟩) n cap) n xs)
    (ad : Addr) (m c : Nat) (news : List Value) (hx : a.eval x = .slice (some ad) m c) (hl : news.length = m * size) (hnews : ∀ j u, news[j]? = some u → w.cell? (ad.add j) = some u) (h1 : ∀ u ∈ news, u.oneCell' = true)
    (hroom : n + m ≤ cap)
    (h : ∀ w', w'.ownsRow base e size (.slice (some ⟨g, 0, none⟩) (n + m) cap) (n + m) (xs ++ news) → w.grownBy w' (some g) → K' (a.put o.dst (.slice (some ⟨g, 0, none⟩) (n + m) cap)) w') :
    if Region.wanted o (yielded ops a.tmps) = true then Oper.wp P o a w K' Q else E := by
  have hw : Region.wanted o (yielded ops a.tmps) = true := by simp [Region.wanted, hgd]
  rw [if_pos hw]
  obtain ⟨w', hr, h2, h3⟩ := run_append_fits (P := P) w base t o.type e i size ht hi hsize g n cap xs hown ad m c news hl hnews h1 hroom
  unfold Oper.wp execOp
  simp only [ho, resolve, invoke, builtin, Sem.run_bind, Sem.run_pure, Result.andThen_ok, List.map_toArray, List.map_cons, List.map_nil, hs, hx, hr]
  exact h w' h2 h3
/-- The cells of one lot behind the row's end are cleared. -/
theorem run_clear_own {w : World} {base g m cap c n1 : Nat} {xs : List Value} (h : w.ownsRow base 42 6 (.slice (some ⟨g, 0, none⟩) m cap) m xs) (hm : m + 1 ≤ cap) (h1n : n1 = 1) :
    ∃ w', (∀ ty, (Builtin.clear_ #[22] ty #[.slice (some ⟨g, m * 6, none⟩) n1 c]).run Try.prog w = .ok (.tuple #[]) w') ∧ w'.ownsRow base 42 6 (.slice (some ⟨g, 0, none⟩) m cap) m xs ∧ w.grownBy w' (some g) := by
  subst h1n
  rcases h.2 with ⟨hv, _⟩ | ⟨g', cap', cur, hv, hb, hh, h1, h2, h3, h4⟩
  · cases hv
  · injection hv with e1 e2 e3
    injection e1 with e1
    injection e1 with e1
    subst e1 e3
    have hst := run_storeCells_at Try.prog g (m * 6) 42 (encL zeroL) 0 cur w hh (by rw [encL_length, h3]; omega) (encL_one zeroL)
    simp only [Nat.add_zero] at hst
    have hz : (Builtin.zeroCells (aggL zeroL).cells 1).toList = encL zeroL := by kernel_rfl
    have hzr := zeroLot_run
    obtain ⟨R, hR⟩ : ∃ R : Array Value, R = (List.take (m * 6) cur.toList ++ encL zeroL ++ List.drop (m * 6 + (encL zeroL).length) cur.toList).toArray := ⟨_, rfl⟩
    rw [← hR] at hst
    have hrun : ∀ ty, (Builtin.clear_ #[22] ty #[.slice (some ⟨g, m * 6, none⟩) 1 c]).run Try.prog w = .ok (.tuple #[]) (w.setRow g R) := fun ty => by
      simp [Builtin.clear_, run_underlying Try.underlying22, hzr, hz, hst, Result.andThen]
    have hsz : R.size = cap * 6 := by
      rw [hR]
      simp only [List.size_toArray, List.length_append, List.length_take, List.length_drop, Array.length_toList, encL_length]
      rw [h3]; omega
    have htk : R.toList.take (m * 6) = xs := by
      rw [hR]
      rw [List.append_assoc, List.take_append_of_le_length (by rw [List.length_take, Array.length_toList, h3]; omega), List.take_take, Nat.min_self]
      exact h4
    exact ⟨w.setRow g R, hrun, ⟨h.1, .inr ⟨g, cap, R, rfl, hb, setRow_heap w g cur _ _ _ hh, h1, h2, hsz, htk⟩⟩, ⟨rfl, rfl, rfl, by simp, fun k _ hk => setRow_other w g k _ (fun e => hk (by simp [e]))⟩⟩
theorem grown_any {w w1 : World} (h : w.grownBy w1 none) (row : Option Nat) : w.grownBy w1 row := ⟨h.os, h.tape, h.output, h.size, fun k hk _ => h.block k hk (by simp)⟩
/-- What a deletion leaves. -/
def DeletesTo (base g cap n i : Nat) (l : List Lt) (w : World) (e : Ending) (w' : World) : Prop := e = .returned (.slice (some ⟨g, 0, none⟩) n cap) ∧ w'.ownsRow base 42 6 (.slice (some ⟨g, 0, none⟩) n cap) n (lcells (l.eraseIdx i)) ∧ w.grownBy w' (some g)
set_option maxHeartbeats 2000000 in
set_option maxRecDepth 100000 in
theorem delete_any (base g cap i m : Nat) (l : List Lt) (w : World) (hl : l.length = i + 1 + m) (hlen : l.length ≤ 1099511627776) (h : w.ownsRow base 42 6 (.slice (some ⟨g, 0, none⟩) (i + 1 + m) cap) (i + 1 + m) (lcells l)) :
    Calls Try.prog 63 #[.slice (some ⟨g, 0, none⟩) (i + 1 + m) cap, .int .i64 i, .int .i64 ((i : Int) + 1)] w (DeletesTo base g cap (i + m) i l w) := by
  obtain ⟨i0, hi, hz0, hz1, hz2⟩ := info_parts infoLot
  have H1 := Lib.hid hi
  have H3 := Lib.hid hz1
  have H := Lib.hid h
  have HL := Lib.hid hl
  have hcap : i + 1 + m ≤ cap ∧ cap ≤ maxLen := by
    rcases h.2 with ⟨hv, _⟩ | ⟨g', cap', cur, hv, _, _, h1, h2, _⟩
    · cases hv
    · injection hv with _ _ e3; subst e3; exact ⟨h1, h2⟩
  obtain ⟨hc1, hc2⟩ := hcap
  have hpre := Lib.hid (own_prefix (n := i) (m := 1 + m) (by rw [← Nat.add_assoc]; exact h))
  unfold maxLen at hc2
  clear h hl hi hz0 hz1 hz2
  have hne : ((i : Int) == (i : Int) + 1) = false := by simp; omega
  go_enter Try.func63, Try.ntmps63
  go_wp2
  have hpre2 := Lib.hid (hpre.out.kept (w' := w.drew) (row := none) ⟨rfl, rfl, rfl, Nat.le_refl _, fun _ _ _ => rfl⟩ (by simp [Value.ownBlock]))
  have hdl : Hid ((lcells (l.drop (i + 1))).length = m * 6) := Lib.hid (by have := HL.out; rw [lcells_length, List.length_drop]; omega)
  obtain ⟨AD, hAD, hnews⟩ : ∃ AD : Addr, (if cap = i + 1 then some (⟨g, 0, none⟩ : Addr) else some ⟨g, (i + 1) * 6, none⟩) = some AD ∧ Hid (∀ t u, (lcells (l.drop (i + 1)))[t]? = some u → w.drew.cell? (AD.add t) = some u) := by
    by_cases hcp : cap = i + 1
    · refine ⟨_, if_pos hcp, Lib.hid (fun t u hu => ?_)⟩
      have h0 := hdl.out
      have hm0 : m = 0 := by omega
      subst hm0
      rw [List.eq_nil_of_length_eq_zero (by omega : (lcells (l.drop (i + 1))).length = 0)] at hu
      simp at hu
    · refine ⟨_, if_neg hcp, Lib.hid (fun t u hu => ?_)⟩
      have ht := (List.getElem?_eq_some_iff.1 hu).1
      rw [hdl.out] at ht
      have e : (⟨g, (i + 1) * 6, none⟩ : Addr).add t = ⟨g, (i + 1) * 6 + t, none⟩ := by
        by_cases h0 : t = 0
        · subst h0; simp [Addr.add]
        · unfold Addr.add; rw [if_neg h0]
      rw [e]
      have hc := H.out.cellAt ((i + 1) * 6 + t) (by omega)
      show w.cell? _ = _
      rw [hc]
      have e2 : lcells l = lcells (l.take (i + 1)) ++ lcells (l.drop (i + 1)) := by rw [← lcells_append, List.take_append_drop]
      rw [e2, List.getElem?_append_right (by rw [lcells_length, List.length_take]; have := HL.out; omega), lcells_length, List.length_take, Nat.min_eq_left (by have := HL.out; omega), Nat.add_sub_cancel_left]
      exact hu
  refine wp_region_held_drew (S := fun _ => True) (by kernel_rfl) (trivial) (fun hS => ?_)
  refine wpAnyH_take (i := 0) (v := (.slice (some ⟨g, 0, none⟩) (i + 1 + m) cap)) rfl (by kernel_rfl) (by kernel_rfl) (by kernel_rfl) (fun _ _ _ h => h) (Or.inl ⟨by kernel_rfl, fun w' hS' => by go_simp⟩) hS ?_
  refine wpAnyH_take (i := 1) (v := (.int .i64 (i : Int))) rfl (by kernel_rfl) (by kernel_rfl) (by kernel_rfl) (fun _ _ _ h => h) (Or.inl ⟨by kernel_rfl, fun w' hS' => by go_simp⟩) hS ?_
  refine wpAnyH_take (i := 2) (v := (.slice (some ⟨g, 0, none⟩) i cap)) rfl (by kernel_rfl) (by kernel_rfl) (by kernel_rfl) (fun _ _ _ h => h) (Or.inl ⟨by kernel_rfl, fun w' hS' => by go_simp; intro h; exact absurd h (by omega)⟩) hS ?_
  refine wpAnyH_take (i := 3) (v := (.slice (some ⟨g, 0, none⟩) (i + 1 + m) cap)) rfl (by kernel_rfl) (by kernel_rfl) (by kernel_rfl) (fun _ _ _ h => h) (Or.inl ⟨by kernel_rfl, fun w' hS' => by go_simp⟩) hS ?_
  refine wpAnyH_take (i := 4) (v := (.int .i64 ((i : Int) + 1))) rfl (by kernel_rfl) (by kernel_rfl) (by kernel_rfl) (fun _ _ _ h => h) (Or.inl ⟨by kernel_rfl, fun w' hS' => by go_simp⟩) hS ?_
  refine wpAnyH_take (i := 5) (v := (.slice (some AD) m (cap - (i + 1)))) rfl (by kernel_rfl) (by kernel_rfl) (by kernel_rfl) (fun _ _ _ h => h) (Or.inl ⟨by kernel_rfl, fun w' hS' => by go_simp; intro h; exact absurd (h (by omega)) (by omega)⟩) hS ?_
  refine wpAnyH_ready (rs := [6]) (by kernel_rfl) (by simp) ?_
  refine AllReadyH.cons rfl (fun K hK => ?_) AllReadyH.nil
  refine step_append_fits (by rfl) (.tmp 22) (.tmp 25) 22 (by rfl) base 42 i0 6 Try.underlying22 H1.out H3.out g i cap _ (by rfl) hpre2.out AD m (cap - (i + 1)) (lcells (l.drop (i + 1))) (by rfl) hdl.out hnews.out (lcells_one _) (by omega) ?_
  intro w1 hown1' hg1'
  have hown1 := Lib.hid hown1'
  have hg1 := Lib.hid hg1'
  clear hown1' hg1'
  refine hK.out _ _ (trivial) (fun hS => ?_)
  clear hK K
  refine wpAnyH_take (i := 7) (v := (.slice (some ⟨g, 0, none⟩) (i + m) cap)) rfl (by kernel_rfl) (by kernel_rfl) (by kernel_rfl) (fun _ _ _ h => h) (Or.inl ⟨by kernel_rfl, fun w' hS' => by go_simp⟩) hS ?_
  refine wpAnyH_done (by kernel_rfl) ?_ _
  have hxs : Hid ((lcells l).take (i * 6) ++ lcells (l.drop (i + 1)) = lcells (l.eraseIdx i)) := Lib.hid (by rw [lcells_take _ _ (by have := HL.out; omega), ← lcells_append, List.eraseIdx_eq_take_drop_succ])
  have hown2 : Hid (w1.ownsRow base 42 6 (.slice (some ⟨g, 0, none⟩) (i + m) cap) (i + m) (lcells (l.eraseIdx i))) := Lib.hid (by rw [← hxs.out]; exact hown1.out)
  obtain ⟨w2, hcl, hown3', hg2'⟩ := run_clear_own (c := cap - (i + m)) (n1 := i + 1 + m - (i + m)) hown2.out (by omega) (by omega)
  have hown3 := Lib.hid hown3'
  have hg2 := Lib.hid hg2'
  clear hown3' hg2' hAD hS
  go_wp2
  go_ret
  exact ⟨rfl, hown3.out, ((grown_any (draws_none w 1) (some g)).trans hg1.out).trans hg2.out⟩
end Go.Proofs.Ytddnfikjfmfhfaa
end
section
/- Wants that are served by lots: when any uses do; that taking of what is over first does, too. Lists and integers alone. -/
namespace Go.Proofs.Ytddnfikjfmfhfaa
set_option linter.unusedVariables false

namespace Fl
section
variable {α β : Type} (id : α → Int) (sv : α → β → Bool) (need : β → Int)

/-- What all lots of a list have together. -/
def tot (y : Int → Int) : List α → Int
  | [] => 0
  | l :: r => y (id l) + tot y r
def bmp (q : Int → Int) (a t : Int) (i : Int) : Int := if i = a then q i + t else q i

theorem bmp_same (q : Int → Int) (a t : Int) : bmp q a t a = q a + t := by simp [bmp]
theorem bmp_other (q : Int → Int) (a t i : Int) (h : i ≠ a) : bmp q a t i = q i := by simp [bmp, h]

theorem tot_congr {y y' : Int → Int} : ∀ {ls : List α}, (∀ l ∈ ls, y (id l) = y' (id l)) → tot id y ls = tot id y' ls
  | [], _ => rfl
  | l :: r, h => by
    simp only [tot]
    rw [h l (by simp), tot_congr (ls := r) (fun x hx => h x (by simp [hx]))]
theorem tot_nonneg {y : Int → Int} : ∀ {ls : List α}, (∀ l ∈ ls, 0 ≤ y (id l)) → 0 ≤ tot id y ls
  | [], _ => Int.le_refl _
  | l :: r, h => by
    simp only [tot]
    have h1 := h l (by simp)
    have h2 := tot_nonneg (ls := r) (fun x hx => h x (by simp [hx]))
    omega
theorem tot_le_mem {y : Int → Int} : ∀ {ls : List α}, (∀ l ∈ ls, 0 ≤ y (id l)) → ∀ l ∈ ls, y (id l) ≤ tot id y ls
  | [], _, l, hl => by simp at hl
  | x :: r, h, l, hl => by
    simp only [tot]
    have h1 := h x (by simp)
    have hr : ∀ l ∈ r, 0 ≤ y (id l) := fun z hz => h z (by simp [hz])
    have h2 := tot_nonneg id hr
    rcases List.mem_cons.1 hl with rfl | hl
    · omega
    · have := tot_le_mem hr l hl
      omega
theorem id_inj {ls : List α} (hn : (ls.map id).Nodup) {l b : α} (hl : l ∈ ls) (hb : b ∈ ls) (e : id l = id b) : l = b := by
  have := List.pairwise_iff_getElem.1 hn
  obtain ⟨i, hi, rfl⟩ := List.mem_iff_getElem.1 hl
  obtain ⟨j, hj, rfl⟩ := List.mem_iff_getElem.1 hb
  rcases Nat.lt_trichotomy i j with hij | rfl | hij
  · exact absurd (by rw [List.getElem_map, List.getElem_map]; exact e) (this i j (by simpa using hi) (by simpa using hj) hij)
  · rfl
  · exact absurd (by rw [List.getElem_map, List.getElem_map]; exact e.symm) (this j i (by simpa using hj) (by simpa using hi) hij)
/-- If there is more than some one has, another one has some. -/
theorem tot_more {y : Int → Int} (a : Int) : ∀ {ls : List α}, (ls.map id).Nodup → (∀ l ∈ ls, 0 ≤ y (id l)) → (∀ l ∈ ls, id l ≠ a → y (id l) = 0) → tot id y ls ≤ max 0 (y a)
  | [], _, _, _ => by simp only [tot]; omega
  | x :: r, hn, h, h0 => by
    rw [List.map_cons, List.nodup_cons] at hn
    simp only [tot]
    by_cases e : id x = a
    · have hz : tot id y r = 0 := by
        have h1 : tot id y r = tot id (fun _ => 0) r := tot_congr id (fun l hl => h0 l (by simp [hl]) (fun e' => hn.1 (by rw [e, ← e']; exact List.mem_map_of_mem hl)))
        rw [h1]
        clear h1 h0 h hn
        induction r with
        | nil => rfl
        | cons z r ih => simp only [tot]; omega
      rw [e, hz]; omega
    · have h1 := h0 x (by simp) e
      have h2 := tot_more a hn.2 (fun l hl => h l (by simp [hl])) (fun l hl => h0 l (by simp [hl]))
      omega
theorem tot_pos {y : Int → Int} : ∀ {ls : List α}, 0 < tot id y ls → ∃ l ∈ ls, 0 < y (id l)
  | [], h => by simp [tot] at h
  | x :: r, h => by
    by_cases e : 0 < y (id x)
    · exact ⟨x, by simp, e⟩
    · simp only [tot] at h
      obtain ⟨l, hl, hy⟩ := tot_pos (y := y) (ls := r) (by omega)
      exact ⟨l, by simp [hl], hy⟩
theorem tot_bmp_not {y : Int → Int} (a t : Int) : ∀ {ls : List α}, (∀ l ∈ ls, id l ≠ a) → tot id (bmp y a t) ls = tot id y ls
  | [], _ => rfl
  | x :: r, h => by
    simp only [tot]
    rw [bmp_other _ _ _ _ (h x (by simp)), tot_bmp_not a t (fun l hl => h l (by simp [hl]))]
theorem tot_bmp {y : Int → Int} (t : Int) : ∀ {ls : List α}, (ls.map id).Nodup → ∀ a ∈ ls, tot id (bmp y (id a) t) ls = tot id y ls + t
  | [], _, a, ha => by simp at ha
  | x :: r, hn, a, ha => by
    rw [List.map_cons, List.nodup_cons] at hn
    simp only [tot]
    rcases List.mem_cons.1 ha with rfl | ha
    · rw [bmp_same, tot_bmp_not id _ _ (fun l hl e => hn.1 (by rw [← e]; exact List.mem_map_of_mem hl))]
      omega
    · rw [bmp_other _ _ _ _ (fun e => hn.1 (by rw [e]; exact List.mem_map_of_mem ha)), tot_bmp t hn.2 a ha]
      omega
theorem tot_sub {y z : Int → Int} : ∀ {ls : List α}, tot id (fun i => y i - z i) ls = tot id y ls - tot id z ls
  | [] => rfl
  | x :: r => by simp only [tot]; rw [tot_sub (ls := r)]; omega
theorem tot_zero : ∀ {ls : List α}, tot id (fun _ => 0) ls = 0
  | [] => rfl
  | x :: r => by simp only [tot]; rw [tot_zero (ls := r)]; rfl
theorem tot_perm {y : Int → Int} {ls ls' : List α} (h : ls.Perm ls') : tot id y ls = tot id y ls' := by
  induction h with
  | nil => rfl
  | cons x _ ih => simp only [tot]; omega
  | swap x z l => simp only [tot]; omega
  | trans _ _ ih1 ih2 => omega

/-- What one want takes of each lot. -/
structure Takes (ls : List α) (w : β) (n : Int) (y : Int → Int) : Prop where
  pos : ∀ i, 0 ≤ y i
  may : ∀ l ∈ ls, 0 < y (id l) → sv l w = true
  sum : tot id y ls = n
/-- There are uses that serve the wants. -/
def Feas (ls : List α) : (Int → Int) → List β → Prop
  | q, [] => ∀ l ∈ ls, 0 ≤ q (id l)
  | q, w :: ws => ∃ y, Takes id sv ls w (need w) y ∧ Feas ls (fun i => q i - y i) ws

variable {id sv need}
theorem Feas.nonneg {ls : List α} : ∀ {q : Int → Int} {ws : List β}, Feas id sv need ls q ws → ∀ l ∈ ls, 0 ≤ q (id l)
  | q, [], h, l, hl => h l hl
  | q, w :: ws, ⟨y, hy, h⟩, l, hl => by
    have h1 := h.nonneg l hl
    have h2 := hy.pos (id l)
    try simp only at h1
    omega
theorem Feas.mono {ls : List α} : ∀ {q q' : Int → Int} {ws : List β}, Feas id sv need ls q ws → (∀ l ∈ ls, q (id l) ≤ q' (id l)) → Feas id sv need ls q' ws
  | q, q', [], h, hq => fun l hl => Int.le_trans (h l hl) (hq l hl)
  | q, q', w :: ws, ⟨y, hy, h⟩, hq => ⟨y, hy, h.mono (fun l hl => by have := hq l hl; (try simp only); omega)⟩
theorem Feas.perm {ls : List α} {ws ws' : List β} (hp : ws.Perm ws') : ∀ {q : Int → Int}, Feas id sv need ls q ws → Feas id sv need ls q ws' := by
  induction hp with
  | nil => exact fun h => h
  | cons x _ ih => rintro q ⟨y, hy, h⟩; exact ⟨y, hy, ih h⟩
  | swap x z l =>
    rintro q ⟨y, hy, y', hy', h⟩
    exact ⟨y', hy', y, hy, h.mono (fun l hl => by (try simp only); omega)⟩
  | trans _ _ ih1 ih2 => exact fun h => ih2 (ih1 h)
theorem feas_perm_iff {ls : List α} {ws ws' : List β} (hp : ws.Perm ws') (q : Int → Int) : Feas id sv need ls q ws ↔ Feas id sv need ls q ws' := ⟨fun h => h.perm hp, fun h => h.perm hp.symm⟩
theorem Feas.lots {ls ls' : List α} (hp : ls.Perm ls') : ∀ {q : Int → Int} {ws : List β}, Feas id sv need ls q ws → Feas id sv need ls' q ws
  | q, [], h => fun l hl => h l (hp.mem_iff.2 hl)
  | q, w :: ws, ⟨y, hy, h⟩ => ⟨y, ⟨hy.pos, fun l hl => hy.may l (hp.mem_iff.2 hl), by rw [← tot_perm id hp]; exact hy.sum⟩, h.lots hp⟩
/-- One want less. -/
theorem Feas.less {ls : List α} {w : β} {ws : List β} {q : Int → Int} (h : Feas id sv need ls q (w :: ws)) : Feas id sv need ls q ws := by
  obtain ⟨y, hy, h⟩ := h
  exact h.mono (fun l hl => by have := hy.pos (id l); (try simp only); omega)

/-- A lot in another one's place. -/
theorem Feas.swap {ls : List α} (hn : (ls.map id).Nodup) {a b : α} (ha : a ∈ ls) (hb : b ∈ ls) (hab : id a ≠ id b) :
    ∀ {q : Int → Int} {ws : List β}, Feas id sv need ls q ws → (∀ w ∈ ws, sv a w = true → sv b w = true) → 1 ≤ q (id a) → Feas id sv need ls (bmp (bmp q (id a) (-1)) (id b) 1) ws
  | q, [], h, _, h1 => fun l hl => by
    have h0 := h l hl
    unfold bmp
    split <;> split <;> simp_all <;> omega
  | q, w :: ws, ⟨y, hy, h⟩, hd, h1 => by
    have hnn := h.nonneg a ha
    by_cases hc : 1 ≤ q (id a) - y (id a)
    · have := Feas.swap hn ha hb hab h (fun w hw => hd w (by simp [hw])) hc
      refine ⟨y, hy, this.mono (fun l hl => ?_)⟩
      unfold bmp
      split <;> split <;> simp_all <;> omega
    · have hya : 1 ≤ y (id a) := by (try simp only at hnn); omega
      have hsv := hd w (by simp) (hy.may a ha (by omega))
      refine ⟨bmp (bmp y (id a) (-1)) (id b) 1, ⟨fun i => ?_, fun l hl hp => ?_, ?_⟩, h.mono (fun l hl => ?_)⟩
      · have := hy.pos i
        unfold bmp
        split <;> split <;> simp_all <;> omega
      · by_cases e : id l = id b
        · have : l = b := id_inj id hn hl hb e
          subst this
          exact hsv
        · rw [bmp_other _ _ _ _ e] at hp
          by_cases e' : id l = id a
          · rw [e', bmp_same] at hp
            have : l = a := id_inj id hn hl ha e'
            subst this
            exact hy.may l hl (by omega)
          · rw [bmp_other _ _ _ _ e'] at hp
            exact hy.may l hl hp
      · rw [tot_bmp id 1 hn b hb, tot_bmp id (-1) hn a ha, hy.sum]
        omega
      · unfold bmp
        split <;> split <;> simp_all <;> omega

/-- A want that still wants n. -/
def FeasN (id : α → Int) (sv : α → β → Bool) (need : β → Int) (ls : List α) (q : Int → Int) (n : Int) (w : β) (ws : List β) : Prop := ∃ y, Takes id sv ls w n y ∧ Feas id sv need ls (fun i => q i - y i) ws

theorem FeasN.shift {ls : List α} (hn : (ls.map id).Nodup) {a : α} (ha : a ∈ ls) {w : β} {ws : List β} (hsa : sv a w = true)
    {q : Int → Int} {n t : Int} (ht : t ≤ n) (htq : t ≤ q (id a))
    (hb : ∀ b ∈ ls, sv b w = true → 0 < q (id b) → id b ≠ id a → ∀ w' ∈ ws, sv a w' = true → sv b w' = true) :
    ∀ (k : Nat) {y : Int → Int}, t - y (id a) ≤ k → Takes id sv ls w n y → Feas id sv need ls (fun i => q i - y i) ws → ∃ y, t ≤ y (id a) ∧ Takes id sv ls w n y ∧ Feas id sv need ls (fun i => q i - y i) ws
  | 0, y, hk, hy, h => ⟨y, by omega, hy, h⟩
  | k + 1, y, hk, hy, h => by
    by_cases hc : t ≤ y (id a)
    · exact ⟨y, hc, hy, h⟩
    · have hex : ∃ b ∈ ls, id b ≠ id a ∧ 0 < y (id b) := by
        refine Classical.byContradiction fun hno => ?_
        have := tot_more id (y := y) (id a) hn (fun l _ => hy.pos _) (fun l hl hne => by
          have h1 := hy.pos (id l)
          by_cases h2 : 0 < y (id l)
          · exact absurd ⟨l, hl, hne, h2⟩ hno
          · omega)
        rw [hy.sum] at this
        have := hy.pos (id a)
        omega
      obtain ⟨b, hbl, hne, hyb⟩ := hex
      have hsb := hy.may b hbl hyb
      have hqb := h.nonneg b hbl
      try simp only at hqb
      have hd := hb b hbl hsb (by omega) hne
      have hsw := Feas.swap hn ha hbl (Ne.symm hne) h hd (by (try simp only); omega)
      refine FeasN.shift hn ha hsa ht htq hb k (y := bmp (bmp y (id a) 1) (id b) (-1)) ?_ ⟨fun i => ?_, fun l hl hp => ?_, ?_⟩ (hsw.mono (fun l hl => ?_))
      · rw [bmp_other _ _ _ _ (Ne.symm hne), bmp_same]; omega
      · have := hy.pos i
        unfold bmp
        split <;> split <;> simp_all <;> omega
      · by_cases e : id l = id a
        · have : l = a := id_inj id hn hl ha e
          subst this
          exact hsa
        · refine hy.may l hl ?_
          unfold bmp at hp
          split at hp <;> simp_all <;> omega
      · rw [tot_bmp id (-1) hn b hbl, tot_bmp id 1 hn a ha, hy.sum]
        omega
      · unfold bmp
        split <;> split <;> simp_all <;> omega

/-- A want takes of the lots as they stand, of each all that it has, till it has enough. -/
def takeG (id : α → Int) (sv : α → β → Bool) (p : Int) (w : β) : List α → Int → (Int → Int) → List (Int × Int × Int) × Int × (Int → Int)
  | [], n, q => ([], n, q)
  | l :: r, n, q => if 0 < n ∧ 0 < q (id l) ∧ sv l w = true then
      ((p, id l, min n (q (id l))) :: (takeG id sv p w r (n - min n (q (id l))) (bmp q (id l) (-(min n (q (id l)))))).1, (takeG id sv p w r (n - min n (q (id l))) (bmp q (id l) (-(min n (q (id l)))))).2)
    else takeG id sv p w r n q
/-- One lot ahead of another: whoever is served by both, and all behind that are served by the first, are served by the other one. -/
def Ahead (sv : α → β → Bool) (ls : List α) (w : β) (ws : List β) : Prop := ls.Pairwise (fun a b => sv a w = true → sv b w = true → ∀ w' ∈ ws, sv a w' = true → sv b w' = true)

theorem takeG_rest (p : Int) (w : β) : ∀ (r : List α) (n : Int) (q : Int → Int), 0 ≤ n → 0 ≤ (takeG id sv p w r n q).2.1
  | [], n, q, h => h
  | l :: r, n, q, h => by
    unfold takeG
    split
    · exact takeG_rest p w r _ _ (by omega)
    · exact takeG_rest p w r n q h

theorem takeG_fwd {ls : List α} (hn : (ls.map id).Nodup) (p : Int) {w : β} {ws : List β} (hA : Ahead sv ls w ws) :
    ∀ (r pre : List α) (n : Int) (q : Int → Int), ls = pre ++ r → 0 ≤ n → (0 < n → ∀ l ∈ pre, sv l w = true → q (id l) ≤ 0) → FeasN id sv need ls q n w ws →
      (takeG id sv p w r n q).2.1 = 0 ∧ Feas id sv need ls (takeG id sv p w r n q).2.2 ws
  | [], pre, n, q, e, h0, hpre, ⟨y, hy, h⟩ => by
    rw [List.append_nil] at e
    subst e
    have hz : n ≤ 0 := by
      refine Int.not_lt.1 fun hpos => ?_
      obtain ⟨l, hl, hyl⟩ := tot_pos id (y := y) (ls := ls) (by rw [hy.sum]; exact hpos)
      have h1 := hpre hpos l hl (hy.may l hl hyl)
      have h2 := h.nonneg l hl
      try simp only at h2
      omega
    refine ⟨by simp only [takeG]; omega, h.mono (fun l hl => ?_)⟩
    have := hy.pos (id l)
    simp only [takeG]
    omega
  | l :: r, pre, n, q, e, h0, hpre, hF => by
    have hl : l ∈ ls := by rw [e]; simp
    have e' : ls = (pre ++ [l]) ++ r := by rw [e]; simp
    unfold takeG
    split
    · rename_i hc
      obtain ⟨hn0, hq0, hsv⟩ := hc
      obtain ⟨y, hy, h⟩ := hF
      obtain ⟨t, ht⟩ : ∃ t, min n (q (id l)) = t := ⟨_, rfl⟩
      rw [ht]
      obtain ⟨y1, hy1, hT, hF1⟩ := FeasN.shift (n := n) hn hl hsv (t := t) (by omega) (by omega) (fun b hb hsb hqb hne w' hw' hs' => by
        rw [e] at hb
        rcases List.mem_append.1 hb with hb | hb
        · have := hpre hn0 b hb hsb; omega
        · rcases List.mem_cons.1 hb with rfl | hb
          · exact absurd rfl hne
          · unfold Ahead at hA
            rw [e, List.pairwise_append] at hA
            exact (List.pairwise_cons.1 hA.2.1).1 b hb hsv hsb w' hw' hs') (t - y (id l)).toNat (by omega) hy h
      refine takeG_fwd hn p hA r (pre ++ [l]) (n - t) (bmp q (id l) (-t)) e' (by omega) (fun hpos x hx hsx => ?_) ⟨bmp y1 (id l) (-t), ⟨fun i => ?_, fun x hx hp => ?_, ?_⟩, hF1.mono (fun x hx => ?_)⟩
      · by_cases ex : id x = id l
        · rw [ex, bmp_same]; omega
        · rw [bmp_other _ _ _ _ ex]
          rcases List.mem_append.1 hx with hx | hx
          · exact hpre hn0 x hx hsx
          · exact absurd (by rw [List.mem_singleton.1 hx]) ex
      · have := hT.pos i
        unfold bmp
        split <;> simp_all <;> omega
      · refine hT.may x hx ?_
        unfold bmp at hp
        split at hp <;> simp_all <;> omega
      · rw [tot_bmp id (-t) hn l hl, hT.sum]; omega
      · unfold bmp
        split <;> simp_all <;> omega
    · rename_i hc
      refine takeG_fwd hn p hA r (pre ++ [l]) n q e' h0 (fun hpos x hx hsx => ?_) hF
      rcases List.mem_append.1 hx with hx | hx
      · exact hpre hpos x hx hsx
      · obtain rfl := List.mem_singleton.1 hx
        refine Int.not_lt.1 fun h => hc ⟨hpos, h, hsx⟩

theorem takeG_bwd {ls : List α} (hn : (ls.map id).Nodup) (p : Int) {w : β} {ws : List β} :
    ∀ (r : List α) (n : Int) (q : Int → Int), (∀ l ∈ r, l ∈ ls) → (takeG id sv p w r n q).2.1 = 0 → Feas id sv need ls (takeG id sv p w r n q).2.2 ws → FeasN id sv need ls q n w ws
  | [], n, q, hr, h0, hF => ⟨fun _ => 0, ⟨fun _ => Int.le_refl _, fun l hl h => absurd h (by omega), by rw [tot_zero]; exact h0.symm⟩, hF.mono (fun l hl => by simp only [takeG]; omega)⟩
  | l :: r, n, q, hr, h0, hF => by
    have hl : l ∈ ls := hr l (by simp)
    unfold takeG at h0 hF
    split at h0
    · rename_i hc
      rw [if_pos hc] at hF
      obtain ⟨hn0, hq0, hsv⟩ := hc
      obtain ⟨t, ht⟩ : ∃ t, min n (q (id l)) = t := ⟨_, rfl⟩
      rw [ht] at h0 hF
      obtain ⟨y, hT, hF1⟩ := takeG_bwd hn p r (n - t) (bmp q (id l) (-t)) (fun x hx => hr x (by simp [hx])) h0 hF
      refine ⟨bmp y (id l) t, ⟨fun i => ?_, fun x hx hp => ?_, ?_⟩, hF1.mono (fun x hx => ?_)⟩
      · have := hT.pos i
        unfold bmp
        split <;> simp_all <;> omega
      · by_cases ex : id x = id l
        · rw [id_inj id hn hx hl ex]; exact hsv
        · rw [bmp_other _ _ _ _ ex] at hp
          exact hT.may x hx hp
      · rw [tot_bmp id t hn l hl, hT.sum]; omega
      · unfold bmp
        split <;> simp_all <;> omega
    · rename_i hc
      rw [if_neg hc] at hF
      exact takeG_bwd hn p r n q (fun x hx => hr x (by simp [hx])) h0 hF

/-- All wants, one behind the other. -/
def runG (id : α → Int) (sv : α → β → Bool) (need : β → Int) (ls : List α) : List (Int × β) → (Int → Int) → List (Int × Int × Int) × Bool × (Int → Int)
  | [], q => ([], true, q)
  | (p, w) :: r, q => if (takeG id sv p w ls (need w) q).2.1 = 0 then ((takeG id sv p w ls (need w) q).1 ++ (runG id sv need ls r (takeG id sv p w ls (need w) q).2.2).1, (runG id sv need ls r (takeG id sv p w ls (need w) q).2.2).2) else ([], false, q)
def AllAhead (sv : α → β → Bool) (ls : List α) : List β → Prop
  | [] => True
  | w :: ws => Ahead sv ls w ws ∧ AllAhead sv ls ws

theorem runG_iff {ls : List α} (hn : (ls.map id).Nodup) : ∀ (pws : List (Int × β)) (q : Int → Int), AllAhead sv ls (pws.map Prod.snd) → (∀ x ∈ pws, 0 ≤ need x.2) → (∀ l ∈ ls, 0 ≤ q (id l)) →
    ((runG id sv need ls pws q).2.1 = true ↔ Feas id sv need ls q (pws.map Prod.snd))
  | [], q, _, _, hq => ⟨fun _ => hq, fun _ => rfl⟩
  | (p, w) :: r, q, hA, h0, hq => by
    have hw := h0 (p, w) (by simp)
    constructor
    · intro h
      unfold runG at h
      split at h
      · rename_i hz
        have hb : ∀ l ∈ ls, 0 ≤ (takeG id sv p w ls (need w) q).2.2 (id l) := by
          have key : ∀ (r : List α) (n : Int) (q : Int → Int), (∀ l ∈ ls, 0 ≤ q (id l)) → ∀ l ∈ ls, 0 ≤ (takeG id sv p w r n q).2.2 (id l) := by
            intro r
            induction r with
            | nil => intro n q h l hl; exact h l hl
            | cons x r ih =>
              intro n q h l hl
              unfold takeG
              split
              · rename_i hc
                refine ih _ _ (fun z hz => ?_) l hl
                have := h z hz
                unfold bmp
                split
                · rename_i e; rw [e] at this ⊢; omega
                · exact this
              · exact ih n q h l hl
          exact key ls _ q hq
        exact takeG_bwd hn p ls (need w) q (fun _ h => h) hz ((runG_iff hn r _ hA.2 (fun x hx => h0 x (by simp [hx])) hb).1 h)
      · cases h
    · intro h
      have hf := takeG_fwd hn p hA.1 ls [] (need w) q rfl hw (fun _ l hl => absurd hl (by simp)) h
      unfold runG
      rw [if_pos hf.1]
      exact (runG_iff hn r _ hA.2 (fun x hx => h0 x (by simp [hx])) hf.2.nonneg).2 hf.2
end
end Fl
end Go.Proofs.Ytddnfikjfmfhfaa
end
