/- Texts of this proof, one behind the other. -/
import Derived.Deep.QuietTactic
import Derived.BigQuiet
import Derived.Deep.DeepCutAuto
import Derived.Test.YtddnfikjfmfhfaaW08
import Derived.Test.YtddnfikjfmfhfaaW00
import Derived.Test.YtddnfikjfmfhfaaW09
section
/- storemanlaw05.awake: the chapter's example. -/
namespace Go.Proofs.Ytddnfikjfmfhfaa
open Go.ChangeShapes Go.WideShapes Go.ChangeAt Go.RowKit Go.Maps
set_option linter.unusedVariables false

def fxL : List Lt := [⟨1, [65], 0, 5, 3, false⟩, ⟨2, [65], 0, 9, 4, false⟩]
def fxW : List Wt := [⟨[65], 7, 2⟩, ⟨[65], 2, 5⟩]
def fxV : List Wt := [⟨[65], 4, 6⟩, ⟨[65], 8, 2⟩]
def fxU : List Us := [⟨1, 1, 3⟩, ⟨1, 2, 2⟩, ⟨0, 2, 2⟩]
theorem Days.unique {ws : List Wt} {P Q : List Nat} (h : Days ws P) (k : Days ws Q) : P = Q := by
  refine List.Perm.eq_of_pairwise (le := fun i j => dayAt ws i < dayAt ws j ∨ (dayAt ws i = dayAt ws j ∧ i < j)) (fun a b _ _ hab hba => ?_) h.sorted k.sorted (h.perm.trans k.perm.symm)
  exfalso; omega
theorem fx_stab {S : List Lt} (h : Stab fxL S) : S = fxL := h.unique (stab_self (by decide))
theorem fx_days : Days fxW [1, 0] := ⟨by decide, by decide⟩
theorem fx_days2 : Days fxV [0, 1] := ⟨by decide, by decide⟩
theorem fx_may : mayB fxL fxW = true := by decide
theorem fx_may2 : mayB fxL fxV = true := by decide
theorem useT_inj : ∀ {U V : List Us}, U.map useT = V.map useT → U = V
  | [], [], _ => rfl
  | [], _ :: _, h => by simp at h
  | _ :: _, [], h => by simp at h
  | a :: U, b :: V, h => by
    simp only [List.map_cons, List.cons.injEq, useT, Prod.mk.injEq] at h
    obtain ⟨⟨h1, h2, h3⟩, h4⟩ := h
    have e : a = b := Us.ext_ h1 h2 h3
    subst e
    rw [useT_inj (U := U) (V := V) h4]
theorem fx_run : (serveRun fxL fxW [1, 0] (qtyOf fxL)).2.1 = true ∧ (serveRun fxL fxW [1, 0] (qtyOf fxL)).1 = fxU.map useT := by decide
theorem fx_run2 : (serveRun fxL fxV [0, 1] (qtyOf fxL)).2.1 = false := by decide
theorem fx_sized : Sized fxL := by
  intro x hx
  simp [fxL] at hx
  rcases hx with rfl | rfl <;> (unfold Lt.Fits; decide)
theorem fill_ex (v1 v2 : Value) (w : World) (h1 : LSl w w.heap.size v1 fxL) (h2 : WSl w w.heap.size v2 fxW) :
    Calls Try.prog 13 #[v1, v2] w fun e w' => ∃ g cap, e = .returned (.tuple #[.slice (some ⟨g, 0, none⟩) 3 cap, .bool true]) ∧ 3 ≤ cap ∧ Below w.heap.size w w' ∧ w.heap.size ≤ g ∧ g < w'.heap.size ∧
      w'.cell? ⟨g, 0, none⟩ = some (.int .i64 1) ∧ w'.cell? ⟨g, 1, none⟩ = some (.int .i64 1) ∧ w'.cell? ⟨g, 2, none⟩ = some (.int .i64 3) ∧
      w'.cell? ⟨g, 3, none⟩ = some (.int .i64 1) ∧ w'.cell? ⟨g, 4, none⟩ = some (.int .i64 2) ∧ w'.cell? ⟨g, 5, none⟩ = some (.int .i64 2) ∧
      w'.cell? ⟨g, 6, none⟩ = some (.int .i64 0) ∧ w'.cell? ⟨g, 7, none⟩ = some (.int .i64 2) ∧ w'.cell? ⟨g, 8, none⟩ = some (.int .i64 2) := by
  refine (fill_may v1 v2 fxL fxW w (by decide) (by decide) fx_sized h1 h2 fx_may).mono ?_
  rintro e w' ⟨S, P, hS, hP, hb, h⟩
  rw [fx_stab hS, hP.unique fx_days] at h
  rcases h with ⟨h, _⟩ | ⟨_, uv, U, rfl, hu, ho⟩
  · rw [fx_run.1] at h; cases h
  · have hU : U = fxU := useT_inj (by rw [← hu, fx_run.2])
    subst hU
    obtain ⟨g, cap, rfl, hg1, hg2, hg3, _⟩ := own_some ho (by decide)
    have c : ∀ j, j < 9 → w'.cell? ⟨g, j, none⟩ = (ucells fxU)[j]? := fun j hj => ho.cellAt j hj
    exact ⟨g, cap, rfl, hg3, hb, hg1, hg2, c 0 (by omega), c 1 (by omega), c 2 (by omega), c 3 (by omega), c 4 (by omega), c 5 (by omega), c 6 (by omega), c 7 (by omega), c 8 (by omega)⟩
theorem fits_ex (v1 v2 : Value) (w : World) (h1 : LSl w w.heap.size v1 fxL) (h2 : WSl w w.heap.size v2 fxV) :
    Calls Try.prog 18 #[v1, v2] w fun e w' => e = .returned (.bool false) ∧ Below w.heap.size w w' := by
  refine (fits_may v1 v2 fxL fxV w (by decide) (by decide) fx_sized h1 h2 fx_may2).mono ?_
  rintro e w' ⟨S, P, hS, hP, hb, rfl⟩
  rw [fx_stab hS, hP.unique fx_days2, fx_run2]
  exact ⟨rfl, hb⟩
abbrev fxLo : Obj := .cells #[.int .i64 1, .string ⟨#[65]⟩, .int .i64 0, .int .i64 5, .int .i64 3, .bool false, .int .i64 2, .string ⟨#[65]⟩, .int .i64 0, .int .i64 9, .int .i64 4, .bool false] 42
abbrev fxWo : Obj := .cells #[.string ⟨#[65]⟩, .int .i64 7, .int .i64 2, .string ⟨#[65]⟩, .int .i64 2, .int .i64 5] 47
abbrev fxVo : Obj := .cells #[.string ⟨#[65]⟩, .int .i64 4, .int .i64 6, .string ⟨#[65]⟩, .int .i64 8, .int .i64 2] 47
theorem fx_l (w : World) : LSl ((w.alloc fxLo).alloc fxWo) ((w.alloc fxLo).alloc fxWo).heap.size (.slice (some ⟨w.heap.size, 0, none⟩) 2 2) fxL := by
  have h : LSl (w.alloc fxLo) (w.heap.size + 1) (.slice (some ⟨w.heap.size, 0, none⟩) 2 2) fxL := ⟨_, 2, rfl, Nat.le_refl _, by simp [maxLen], fun h => (by cases h), Lies.fresh w _ 42 _ rfl⟩
  exact (h.alloc_ (by simp) _).mono (by simp)
theorem fx_w (w : World) : WSl ((w.alloc fxLo).alloc fxWo) ((w.alloc fxLo).alloc fxWo).heap.size (.slice (some ⟨w.heap.size + 1, 0, none⟩) 2 2) fxW := by
  have h : WSl ((w.alloc fxLo).alloc fxWo) ((w.alloc fxLo).heap.size + 1) (.slice (some ⟨(w.alloc fxLo).heap.size, 0, none⟩) 2 2) fxW := ⟨_, 2, rfl, Nat.le_refl _, by simp [maxLen], fun h => (by cases h), Lies.fresh _ _ 47 _ rfl⟩
  simp only [World.size_alloc] at h
  exact h.mono (by simp)
theorem fx_v (w : World) : WSl (w.alloc fxVo) (w.alloc fxVo).heap.size (.slice (some ⟨w.heap.size, 0, none⟩) 2 2) fxV := by
  have h : WSl (w.alloc fxVo) (w.heap.size + 1) (.slice (some ⟨w.heap.size, 0, none⟩) 2 2) fxV := ⟨_, 2, rfl, Nat.le_refl _, by simp [maxLen], fun h => (by cases h), Lies.fresh w _ 47 _ rfl⟩
  exact h.mono (by simp)
set_option maxRecDepth 100000 in
set_option maxHeartbeats 2000000 in
theorem awake_any (w : World) : Calls Try.prog 9 #[] w fun e w' => e = .returned (.bool true) ∧ Below w.heap.size w w' := by
  have HL0 := Lib.hid (fx_l w)
  go_enter Try.func9, Try.ntmps9
  go_wp2_with (first
    | (go_at_call 13; ((with_reducible refine (fill_ex _ _ _ HL0.out (fx_w w)).mono ?_); rintro e w1 ⟨g, cap, rfl, hcap, hb1', hg1, hg2, c0, c1, c2, c3, c4, c5, c6, c7, c8⟩; have hb1 := Lib.hid hb1'; have HL1 := Lib.hid ((HL0.out.at_ hb1').alloc_ (Nat.le_refl _) fxVo); clear hb1'))
    | (go_at_call 18; ((with_reducible refine (fits_ex _ _ _ (HL1.out.mono (by simp)) (fx_v _)).mono ?_); rintro e w2 ⟨rfl, hb2'⟩; have hb2 := Lib.hid hb2'; clear hb2')))
  go_ret
  have a := below_two (below_alloc1 w fxLo) (below_alloc1 (w.alloc fxLo) fxWo)
  exact ⟨rfl, below_two (below_two (below_two a hb1.out) (below_alloc1 w1 fxVo)) hb2.out⟩
end Go.Proofs.Ytddnfikjfmfhfaa
end
section
/- storemankit.Pick: any number brought into a range. -/
namespace Go.Proofs.Ytddnfikjfmfhfaa
open Go.ChangeShapes Go.WideShapes Go.ChangeAt Go.RowKit
set_option linter.unusedVariables false

theorem ret_int {a b : Int} (h : a = b) : Ending.returned (.int .i64 a) = .returned (.int .i64 b) := by rw [h]
/-- Some number from 0 on, below n. -/
def SomeBelow (n : Nat) (w : World) (e : Ending) (w' : World) : Prop := ∃ k : Nat, k < n ∧ e = .returned (.int .i64 (k : Int)) ∧ w = w'
theorem pick_any (x : Int) (n : Nat) (w : World) (h1 : 1 ≤ n) (h2 : n ≤ 1099511627776) (h3 : -9223372036854775808 ≤ x) (h4 : x ≤ 9223372036854775807) :
    Calls Try.prog 27 #[.int .i64 x, .int .i64 (n : Int)] w (SomeBelow n w) := by
  have hr1 := Int.tmod_lt_of_pos x (show (0 : Int) < (n : Int) by omega)
  have hr2 := Int.lt_tmod_of_pos x (show (0 : Int) < (n : Int) by omega)
  have hn0 : ((n : Int) == 0) = false := by simp; omega
  by_cases hneg : x.tmod n < 0
  · go_enter Try.func27, Try.ntmps27
    go_wp2
    go_ret
    exact ⟨(x.tmod n + n).toNat, by omega, ret_int (by rw [Int.toNat_of_nonneg (by omega)]), rfl⟩
  · go_enter Try.func27, Try.ntmps27
    go_wp2
    go_ret
    exact ⟨(x.tmod n).toNat, by omega, ret_int (by rw [Int.toNat_of_nonneg (by omega)]), rfl⟩
theorem pick_k (x : Int) (w : World) (h3 : -9223372036854775808 ≤ x) (h4 : x ≤ 9223372036854775807) :
    Calls Try.prog 27 #[.int .i64 x, .int .i64 1000] w (SomeBelow 1000 w) := pick_any x 1000 w (by omega) (by omega) h3 h4
end Go.Proofs.Ytddnfikjfmfhfaa
end
section
/- The law FlowMore: whatever lots and wants; the walk. Written by gen_fmore.py. -/
namespace Go.Proofs.Ytddnfikjfmfhfaa
open Go.ChangeShapes Go.WideShapes Go.ChangeAt Go.RowKit Go.Maps
set_option linter.unusedVariables false

theorem small_any (A1 A2 : Option Addr) (n m c1 c2 : Nat) (w : World) : Calls Try.prog 10 #[.slice A1 n c1, .slice A2 m c2] w fun e w' => e = .returned (.bool (decide (n ≤ 40 ∧ m ≤ 60))) ∧ w = w' := by
  by_cases h1 : n ≤ 40
  · have hd1 : decide ((n : Int) ≤ 40) = true := decide_eq_true (by omega)
    by_cases h2 : m ≤ 60
    · have hd2 : decide ((m : Int) ≤ 60) = true := decide_eq_true (by omega)
      go_enter Try.func10, Try.ntmps10
      go_wp2
      go_ret
      exact ⟨ret_bool (decide_eq_true ⟨h1, h2⟩).symm, rfl⟩
    · have hd2 : decide ((m : Int) ≤ 60) = false := decide_eq_false (by omega)
      go_enter Try.func10, Try.ntmps10
      go_wp2
      go_ret
      exact ⟨ret_bool (decide_eq_false (fun h => h2 h.2)).symm, rfl⟩
  · have hd1 : decide ((n : Int) ≤ 40) = false := decide_eq_false (by omega)
    go_enter Try.func10, Try.ntmps10
    go_wp2
    go_ret
    exact ⟨ret_bool (decide_eq_false (fun h => h1 h.1)).symm, rfl⟩

/-- An append whose source may be nil, at a step of a region that draws its order. -/
theorem step_append_any {P : Program} {w : World} {ops : Array Oper} {o : Oper} {a : Act} {K' : Act → World → Prop} {Q : Exit → Act → World → Prop} {E : Prop} (hgd : o.guard = none) (s x : Operand) (t : TypeId)
    (ho : o.op = .call { callee := .builtin .append, args := #[s, x], argTypes := #[t, t] })
    (base : Nat) (e : TypeId) (i : TypeInfo) (z : Value) (size bytes : Nat) (ht : P.underlying t = some (.slice e)) (hi : P.info? e = some i) (hz : i.zero = some z)
    (hsize : i.size = size) (hby : i.bytes = bytes) (hzs : z.cells.size = size) (hsz : 0 < size)
    (v : Value) (n : Nat) (xs : List Value) (hs : a.eval s = v) (hown : w.ownsRow base e size v n xs)
    (ao : Option Addr) (m c : Nat) (news : List Value) (hx : a.eval x = .slice ao m c) (hl : news.length = m * size) (h0 : ao = none → m = 0 ∧ c = 0) (hnews : ∀ a, ao = some a → ∀ j u, news[j]? = some u → w.cell? (a.add j) = some u) (h1 : ∀ u ∈ news, u.oneCell' = true)
    (h63 : n + m ≤ maxLen) (hbytes : (n + m) * bytes ≤ 140737488355328) (hbase : base ≤ w.heap.size)
    (h : ∀ v' w', w'.ownsRow base e size v' (n + m) (xs ++ news) → Hid (w.grownBy w' v.ownBlock) → Hid (v'.ownBlock = v.ownBlock ∨ v'.ownBlock = some w.heap.size) → K' (a.put o.dst v') w') :
    if Region.wanted o (yielded ops a.tmps) = true then Oper.wp P o a w K' Q else E := by
  have hw : Region.wanted o (yielded ops a.tmps) = true := by simp [Region.wanted, hgd]
  rw [if_pos hw]
  obtain ⟨v', w', hr, h2, h3, h4⟩ := run_append_any (P := P) w base t o.type e i z size bytes ht hi hz hsize hby hzs hsz v n xs hown ao m c news hl h0 hnews h1 h63 hbytes hbase
  unfold Oper.wp execOp
  simp only [ho, resolve, invoke, builtin, Sem.run_bind, Sem.run_pure, Result.andThen_ok, List.map_toArray, List.map_cons, List.map_nil, hs, hx, hr]
  exact h v' w' h2 h3 h4

theorem wcells_drop (l : List Wt) (k : Nat) : (wcells l).drop (k * 3) = wcells (l.drop k) := by
  by_cases hk : k ≤ l.length
  · have h := wcells_append (l.take k) (l.drop k)
    rw [List.take_append_drop] at h
    rw [h, List.drop_append_of_le_length (by rw [wcells_length, List.length_take]; omega), List.drop_of_length_le (by rw [wcells_length, List.length_take]; omega), List.nil_append]
  · rw [List.drop_of_length_le (by rw [wcells_length]; omega), List.drop_of_length_le (by omega)]; rfl
/-- Where a slice from k on begins. -/
def dropAt (ad : Addr) (k c : Nat) : Option Addr := if c = k then some ad else some (ad.add (k * 3))
theorem dropAt_reads {w : World} {B : Nat} {ad : Addr} {l : List Wt} {k c : Nat} (h : Lies w B (some ad) (wcells l)) (hc : l.length ≤ c) : ∀ a, dropAt ad k c = some a → ∀ j u, (wcells (l.drop k))[j]? = some u → w.cell? (a.add j) = some u := by
  intro a ha j u hu
  unfold dropAt at ha
  split at ha
  · rename_i e
    subst e
    rw [List.drop_of_length_le hc] at hu
    simp [wcells] at hu
  · cases ha
    rw [← wcells_drop, List.getElem?_drop] at hu
    obtain ⟨ad', e, _, hcl⟩ := h.get hu
    cases e
    rw [addr_add]; exact hcl
theorem take_reads {w : World} {B : Nat} {ad : Addr} {l : List Wt} {k : Nat} (hk : k ≤ l.length) (h : Lies w B (some ad) (wcells l)) : ∀ a, (some ad : Option Addr) = some a → ∀ j u, (wcells (l.take k))[j]? = some u → w.cell? (a.add j) = some u := by
  intro a ha j u hu
  cases ha
  rw [← wcells_take l k hk] at hu
  rw [List.getElem?_take] at hu
  split at hu
  · obtain ⟨ad', e, _, hcl⟩ := h.get hu
    cases e; exact hcl
  · cases hu
theorem infoWant : (Try.prog.info? 47).map (fun i => (i.zero, i.size, i.bytes)) = some (some (.agg #[.string ⟨#[]⟩, .int .i64 0, .int .i64 0]), 3, 32) := by kernel_rfl
theorem lcells_set (l : List Lt) (k : Nat) (x : Lt) (hk : k < l.length) : lcells (l.set k x) = (lcells l).take (k * 6) ++ encL x ++ (lcells l).drop ((k + 1) * 6) := by
  rw [List.set_eq_take_append_cons_drop, if_pos hk, lcells_append]
  have h := lcells_append (l.take k) (l.drop k)
  rw [List.take_append_drop] at h
  have h2 := lcells_append (l.take (k + 1)) (l.drop (k + 1))
  rw [List.take_append_drop] at h2
  have e1 : (lcells l).take (k * 6) = lcells (l.take k) := by
    rw [h, List.take_append_of_le_length (by rw [lcells_length, List.length_take]; omega), List.take_of_length_le (by rw [lcells_length, List.length_take]; omega)]
  have e2 : (lcells l).drop ((k + 1) * 6) = lcells (l.drop (k + 1)) := by
    rw [h2, List.drop_append_of_le_length (by rw [lcells_length, List.length_take]; omega), List.drop_of_length_le (by rw [lcells_length, List.length_take]; omega), List.nil_append]
  rw [e1, e2, List.append_assoc]
  rfl
/-- A lot with other days, as cells. -/
def withDays (x : Lt) (f u : Int) : Lt := ⟨x.id, x.item, f, u, x.qty, x.arr⟩
theorem days_cells (l : List Lt) (k : Nat) (x : Lt) (f u : Int) (hx : l[k]? = some x) : ((lcells l).set (k * 6 + 3) (.int .i64 u)).set (k * 6 + 2) (.int .i64 f) = lcells (l.set k (withDays x f u)) := by
  have hk := (List.getElem?_eq_some_iff.1 hx).1
  apply List.ext_getElem?
  intro i
  have hlen := lcells_length l
  rw [List.getElem?_set, List.getElem?_set, List.length_set]
  by_cases hi : i / 6 < l.length
  · have hm : i % 6 < 6 := by omega
    have hid : i / 6 * 6 + i % 6 = i := by omega
    by_cases e : i / 6 = k
    · have hs : (l.set k (withDays x f u))[i / 6]? = some (withDays x f u) := by rw [e, List.getElem?_set]; simp [hk]
      have hg := lcells_get _ _ _ hs (i % 6) hm
      rw [hid] at hg
      rw [hg]
      have hg0 := lcells_get _ _ _ (show l[i / 6]? = some x by rw [e]; exact hx) (i % 6) hm
      rw [hid] at hg0
      rcases (by omega : i % 6 = 0 ∨ i % 6 = 1 ∨ i % 6 = 2 ∨ i % 6 = 3 ∨ i % 6 = 4 ∨ i % 6 = 5) with h | h | h | h | h | h
      · rw [if_neg (by omega), if_neg (by omega), hg0, h]; rfl
      · rw [if_neg (by omega), if_neg (by omega), hg0, h]; rfl
      · rw [if_pos (by omega), if_pos (by omega), h]; rfl
      · rw [if_neg (by omega), if_pos (by omega), if_pos (by omega), h]; rfl
      · rw [if_neg (by omega), if_neg (by omega), hg0, h]; rfl
      · rw [if_neg (by omega), if_neg (by omega), hg0, h]; rfl
    · obtain ⟨y, hy⟩ : ∃ y, l[i / 6]? = some y := ⟨_, List.getElem?_eq_getElem hi⟩
      have hs : (l.set k (withDays x f u))[i / 6]? = some y := by rw [List.getElem?_set, if_neg (fun h => e h.symm)]; exact hy
      have hg := lcells_get _ _ _ hs (i % 6) hm
      have hg0 := lcells_get _ _ _ hy (i % 6) hm
      rw [hid] at hg hg0
      rw [hg, hg0, if_neg (by omega), if_neg (by omega)]
  · rw [if_neg (by omega), if_neg (by omega), List.getElem?_eq_none (by omega), List.getElem?_eq_none (by rw [lcells_length, List.length_set]; omega)]
theorem longer_set {l : List Lt} {k : Nat} {x : Lt} {a b : Int} (hn : (l.map Lt.id).Nodup) (hx : l[k]? = some x) : l.set k (withDays x (max (x.fr - b) 0) (min (x.un + a) 4001)) = l.map (longer x.id a b) := by
  obtain ⟨hk, hxe⟩ := List.getElem?_eq_some_iff.1 hx
  apply List.ext_getElem?
  intro i
  rw [List.getElem?_set, List.getElem?_map]
  by_cases e : k = i
  · subst e
    rw [if_pos rfl, if_pos hk, hx]
    simp only [Option.map_some, Option.some.injEq]
    unfold longer withDays
    rw [if_pos rfl]
  · rw [if_neg e]
    cases hy : l[i]? with
    | none => rfl
    | some y =>
      simp only [Option.map_some, Option.some.injEq]
      unfold longer
      rw [if_neg]
      intro hid
      obtain ⟨hi, hye⟩ := List.getElem?_eq_some_iff.1 hy
      have hil : i < (l.map Lt.id).length := by rw [List.length_map]; exact hi
      have hkl : k < (l.map Lt.id).length := by rw [List.length_map]; exact hk
      have h1 : (l.map Lt.id)[i]'hil = (l.map Lt.id)[k]'hkl := by
        rw [List.getElem_map, List.getElem_map, hye, hxe, hid]
      exact e ((List.getElem_inj hn).1 h1).symm
theorem longer_fits {i a b : Int} {x : Lt} (ha : 0 ≤ a) (hb : 0 ≤ b) (hr : lrightB x = true) (h : x.Fits) : (longer i a b x).Fits := by
  unfold longer
  split
  · obtain ⟨h1, h2, h3, h4, h5, h6, h7, h8, h9⟩ := h
    unfold lrightB daysB at hr
    simp only [Bool.and_eq_true, decide_eq_true_eq] at hr
    refine ⟨h1, h2, h3, ?_, ?_, ?_, ?_, h8, h9⟩ <;> simp only <;> omega
  · exact h

theorem pick_50 (x : Int) (w : World) (h3 : -9223372036854775808 ≤ x) (h4 : x ≤ 9223372036854775807) :
    Calls Try.prog 27 #[.int .i64 x, .int .i64 50] w (SomeBelow 50 w) := pick_any x 50 w (by omega) (by omega) h3 h4
theorem pick_7 (x : Int) (w : World) (h3 : -9223372036854775808 ≤ x) (h4 : x ≤ 9223372036854775807) :
    Calls Try.prog 27 #[.int .i64 x, .int .i64 7] w (SomeBelow 7 w) := pick_any x 7 w (by omega) (by omega) h3 h4
theorem fits_days {l : List Lt} {ws : List Wt} (h : fitsP l ws) {x : Lt} (hx : x ∈ l) : 0 ≤ x.fr ∧ x.fr ≤ 4001 ∧ 0 ≤ x.un ∧ x.un ≤ 4001 := by
  obtain ⟨_, _, h3, _, _⟩ := mayB_true h.1
  have := h3 x hx
  unfold lrightB daysB at this
  simp only [Bool.and_eq_true, decide_eq_true_eq] at this
  omega
theorem row_told {w W : World} {B T g n cap bm : Nat} {xs S : List Value} (hR : W.ownsRow B T 6 (.slice (some ⟨g, 0, none⟩) n cap) n xs) (hB : Below B w W) (hM : ∀ j u, S[j]? = some u → W.cell? ⟨bm, j, none⟩ = some u) (hz : bm < W.heap.size) (hg : bm < g) (k : Nat) (u : Value) :
    (W.setCell ⟨g, k, none⟩ u).drew.ownsRow B T 6 (.slice (some ⟨g, 0, none⟩) n cap) n (xs.set k u) ∧ Below B w (W.setCell ⟨g, k, none⟩ u).drew ∧ (∀ j v, S[j]? = some v → (W.setCell ⟨g, k, none⟩ u).drew.cell? ⟨bm, j, none⟩ = some v) ∧ bm < (W.setCell ⟨g, k, none⟩ u).drew.heap.size := by
  refine ⟨(hR.stored k u).1.drew, (hB.setCell (p := ⟨g, k, none⟩) (hR.lt g rfl).1 u).drew, fun j v h => ?_, by simpa using hz⟩
  have := World.cell?_setCell_other W ⟨g, k, none⟩ ⟨bm, j, none⟩ u (by intro e; simp only [Addr.mk.injEq] at e; omega)
  exact this.trans (hM j v h)
theorem own_at {w w' : World} {base e size n : Nat} {v : Value} {xs : List Value} (h : w.ownsRow base e size v n xs) (hb : Below w.heap.size w w') : w'.ownsRow base e size v n xs :=
  h.kept (row := none) ⟨hb.os, hb.tape, hb.output, hb.size, fun k hk _ => hb.block k hk⟩ (by cases hv : v.ownBlock with
    | none => exact .inl rfl
    | some b => exact .inr (by simp))
section
variable {l : List Lt} {ws : List Wt}
theorem fits_yes (h : fitsP l ws) (hs : Sized l) (hl : l.length ≤ 1099511627776) (hw : ws.length ≤ 1099511627776) (v1 v2 : Value) (w : World) (h1 : LSl w w.heap.size v1 l) (h2 : WSl w w.heap.size v2 ws) :
    Calls Try.prog 18 #[v1, v2] w fun e w' => e = .returned (.bool true) ∧ Below w.heap.size w w' := by
  classical
  refine (fits_any v1 v2 l ws w hl hw hs h1 h2).mono ?_
  rintro e w' ⟨rfl, hb⟩
  exact ⟨ret_bool (decide_eq_true h), hb⟩
theorem fits_not (h : ¬ fitsP l ws) (hs : Sized l) (hl : l.length ≤ 1099511627776) (hw : ws.length ≤ 1099511627776) (v1 v2 : Value) (w : World) (h1 : LSl w w.heap.size v1 l) (h2 : WSl w w.heap.size v2 ws) :
    Calls Try.prog 18 #[v1, v2] w fun e w' => e = .returned (.bool false) ∧ Below w.heap.size w w' := by
  classical
  refine (fits_any v1 v2 l ws w hl hw hs h1 h2).mono ?_
  rintro e w' ⟨rfl, hb⟩
  exact ⟨ret_bool (decide_eq_false h), hb⟩
end

set_option maxRecDepth 100000 in
set_option maxHeartbeats 8000000 in
theorem more_any (v1 v2 : Value) (l : List Lt) (ws : List Wt) (m : Lt) (at_ lg : Int) (w : World) (hv1 : LSl w w.heap.size v1 l) (hv2 : WSl w w.heap.size v2 ws) (hs : Sized l) (hm : m.Fits)
    (hn1 : -9223372036854775808 ≤ at_) (hn2 : at_ ≤ 9223372036854775807) (hp1 : -9223372036854775808 ≤ lg) (hp2 : lg ≤ 9223372036854775807) :
    Calls Try.prog 8 #[v1, v2, aggL m, .int .i64 at_, .int .i64 lg] w fun e w' => e = .returned (.bool true) ∧ Below w.heap.size w w' := by
  obtain ⟨A1, c1, rfl, hc11, hc12, hcz1, _⟩ := id hv1
  obtain ⟨A2, c2, rfl, hc21, hc22, hcz2, _⟩ := id hv2
  obtain ⟨bm, hbm⟩ : ∃ b, w.heap.size = b := ⟨_, rfl⟩
  obtain ⟨W0, hW0⟩ : ∃ W0, W0 = w.alloc (.cells #[.int .i64 m.id, .string ⟨m.item.toArray⟩, .int .i64 m.fr, .int .i64 m.un, .int .i64 m.qty, .bool m.arr] 42) := ⟨_, rfl⟩
  have HB0 : Hid (Below w.heap.size w W0) := Lib.hid (by rw [hW0]; exact below_alloc1 _ _)
  have hz0 : W0.heap.size = bm + 1 := by rw [hW0, ← hbm]; simp
  have HM0 : Hid (∀ j u, (encL m)[j]? = some u → W0.cell? ⟨bm, j, none⟩ = some u) := Lib.hid (fun j u hu => by
    have h := six_new w m 42 j u hu
    rw [addr0, hbm, ← hW0] at h; exact h)
  have HV0 := Lib.hid hv2
  have HV1 := Lib.hid (hv1.at_ HB0.out)
  have HV2 := Lib.hid (hv2.at_ HB0.out)
  have HS : Hid (Sized l) := Lib.hid hs
  have HMF := Lib.hid hm
  have HWE := Lib.hid hW0
  have HBM := Lib.hid hbm
  clear hv1 hv2 hs hm hW0 hbm
  go_enter Try.func8, Try.ntmps8
  go_wp2_with fail
  try rw [HBM.out]
  rw [← HWE.out]
  clear HWE
  refine (awake_any W0).mono ?_
  rintro e w1 ⟨rfl, hb1'⟩
  have hz1 : bm < w1.heap.size := by have := hb1'.size; omega
  have HM1 : Hid (∀ j u, (encL m)[j]? = some u → w1.cell? ⟨bm, j, none⟩ = some u) := Lib.hid (fun j u hu => (hb1'.cell (p := ⟨bm, j, none⟩) (by show bm < _; omega)).trans (HM0.out j u hu))
  have HW1 := Lib.hid (HV1.out.at_ hb1')
  have HW2 := Lib.hid (HV2.out.at_ hb1')
  have HB1 := Lib.hid (below_two HB0.out hb1')
  clear hb1' HM0 HV1 HV2 HB0 hz0
  by_cases hS4 : l.length ≤ 40 ∧ ws.length ≤ 60
  · have hsd : decide (l.length ≤ 40 ∧ ws.length ≤ 60) = true := decide_eq_true hS4
    obtain ⟨h40, h60⟩ := hS4
    by_cases hl0 : l = []
    · subst hl0
      have hsd : decide (0 ≤ 40 ∧ ws.length ≤ 60) = true := hsd
      go_wp2_with (go_at_call 10; ((with_reducible refine (small_any _ _ _ _ _ _ _).mono ?_); rintro e w2 ⟨rfl, rfl⟩; rw [hsd]))
      go_ret
      exact ⟨rfl, HB1.out⟩
    · by_cases hw0 : ws = []
      · subst hw0
        have hsd : decide (l.length ≤ 40 ∧ 0 ≤ 60) = true := hsd
        go_wp2_with (go_at_call 10; ((with_reducible refine (small_any _ _ _ _ _ _ _).mono ?_); rintro e w2 ⟨rfl, rfl⟩; rw [hsd]))
        go_ret
        exact ⟨rfl, HB1.out⟩
      · have hlp : 0 < l.length := List.length_pos_iff.2 hl0
        have hwp : 0 < ws.length := List.length_pos_iff.2 hw0
        have hlb : ((l.length : Int) == 0) = false := by rw [beq_eq_false_iff_ne]; omega
        have hwb : ((ws.length : Int) == 0) = false := by rw [beq_eq_false_iff_ne]; omega
        by_cases hF : fitsP l ws
        · have K1 := Lib.hid (fits_yes hF HS.out (by omega) (by omega))
          go_wp2_with (first
            | (go_at_call 10; ((with_reducible refine (small_any _ _ _ _ _ _ _).mono ?_); rintro e w2 ⟨rfl, rfl⟩; rw [hsd]))
            | (go_at_call 18; ((with_reducible refine (K1.out _ _ _ HW1.out HW2.out).mono ?_); rintro e w2 ⟨rfl, hb2'⟩; have hz2 : bm < w2.heap.size := (by have := hb2'.size; omega); have HM2 : Hid (∀ j u, (encL m)[j]? = some u → w2.cell? ⟨bm, j, none⟩ = some u) := Lib.hid (fun j u hu => (hb2'.cell (p := ⟨bm, j, none⟩) hz1).trans (HM1.out j u hu)); have HX1 := Lib.hid (HW1.out.at_ hb2'); have HX2 := Lib.hid (HW2.out.at_ hb2'); have HB2 := Lib.hid (below_two HB1.out hb2'); clear hb2' HM1 HW1 HW2 HB1))
            | (go_at_call 27; fail))
          refine (pick_any at_ ws.length w2 hwp (by omega) hn1 hn2).mono ?_
          rintro e w3 ⟨k, hk, rfl, rfl⟩
          obtain ⟨ad, rfl⟩ : ∃ ad, A2 = some ad := by
            cases A2 with
            | none => have := hcz2 rfl; omega
            | some ad => exact ⟨ad, rfl⟩
          obtain ⟨i0, hi0, hz0', hz1', hz2'⟩ := info_parts infoWant
          have I1 := Lib.hid hi0
          have I2 := Lib.hid hz0'
          have I3 := Lib.hid hz1'
          have I4 := Lib.hid hz2'
          have HLs : Hid (Lies w2 w2.heap.size (some ad) (wcells ws)) := Lib.hid (by obtain ⟨_, _, e, _, _, _, h⟩ := HX2.out; cases e; exact h)
          have hlt1 : decide (k + 1 ≤ ws.length) = true := decide_eq_true (by omega)
          have hc2p : k + 1 ≤ c2 := by omega
          have HWK : Hid (IntKind.i64.wrap ((k : Int) + 1) = (k : Int) + 1) := Lib.hid (by rw [IntKind.wrap_i64]; omega)
          clear hi0 hz0' hz1' hz2' K1
          go_wp2_with fail
          refine wp_region_held_drew (S := fun w' => Below w2.heap.size w2 w') (by kernel_rfl) ((Below.refl _ _).drew) (fun hS => ?_)
          refine wpAnyH_take (i := 1) (v := (.slice (some ad) ws.length c2)) rfl (by kernel_rfl) (by kernel_rfl) (by kernel_rfl) (fun _ _ _ h => h) (Or.inl ⟨by kernel_rfl, fun w' hS' => by go_simp⟩) hS ?_
          refine wpAnyH_take (i := 2) (v := (.int .i64 (k : Int))) rfl (by kernel_rfl) (by kernel_rfl) (by kernel_rfl) (fun _ _ _ h => h) (Or.inl ⟨by kernel_rfl, fun w' hS' => by go_simp⟩) hS ?_
          refine wpAnyH_take (i := 3) (v := (.slice (some ad) k c2)) rfl (by kernel_rfl) (by kernel_rfl) (by kernel_rfl) (fun _ _ _ h => h) (Or.inl ⟨by kernel_rfl, fun w' hS' => by go_simp; exact fun h => absurd h (by omega)⟩) hS ?_
          refine wpAnyH_take (i := 5) (v := (.slice (some ad) ws.length c2)) rfl (by kernel_rfl) (by kernel_rfl) (by kernel_rfl) (fun _ _ _ h => h) (Or.inl ⟨by kernel_rfl, fun w' hS' => by go_simp⟩) hS ?_
          refine wpAnyH_take (i := 6) (v := (.int .i64 (k : Int))) rfl (by kernel_rfl) (by kernel_rfl) (by kernel_rfl) (fun _ _ _ h => h) (Or.inl ⟨by kernel_rfl, fun w' hS' => by go_simp⟩) hS ?_
          refine wpAnyH_take (i := 7) (v := (.int .i64 ((k : Int) + 1))) rfl (by kernel_rfl) (by kernel_rfl) (by kernel_rfl) (fun _ _ _ h => h) (Or.inl ⟨by kernel_rfl, fun w' hS' => by have hwk := HWK.out; go_simp⟩) hS ?_
          refine wpAnyH_take (i := 8) (v := (.slice (dropAt ad (k + 1) c2) (ws.length - (k + 1)) (c2 - (k + 1)))) rfl (by kernel_rfl) (by kernel_rfl) (by kernel_rfl) (fun _ _ _ h => h) (Or.inl ⟨by kernel_rfl, fun w' hS' => by go_simp; rw [if_pos (by omega)]; rfl⟩) hS ?_
          refine wpAnyH_ready (rs := [0]) (by kernel_rfl) (by simp) ?_
          refine AllReadyH.cons rfl (fun K hK => ?_) AllReadyH.nil
          go_simp
          skip
          refine hK.out _ _ (hS.alloc (by simp) _) (fun hS => ?_)
          clear hK K
          have hown0 : ((w2.alloc (Obj.cells #[] 47)).drew).ownsRow w2.heap.size 47 3 (.slice (some ⟨w2.heap.size, 0, none⟩) 0 0) 0 [] := (World.ownsRow_lit w2 #[] 0 (Nat.le_refl _) (by simp [maxLen]) rfl).drew
          refine wpAnyH_ready (rs := [4]) (by kernel_rfl) (by simp) ?_
          refine AllReadyH.cons rfl (fun K hK => ?_) AllReadyH.nil
          refine step_append_any (by rfl) (.tmp 41) (.tmp 44) 23 (by rfl) w2.heap.size 47 i0 _ 3 32 Try.underlying23 I1.out I2.out I3.out I4.out rfl (by decide) _ 0 [] (by simp [Act.eval]) hown0 (some ad) k c2 (wcells (ws.take k)) (by simp [Act.eval]) (by rw [wcells_length, List.length_take, Nat.min_eq_left (by omega)]) (fun h => by cases h) (take_reads (by omega) (HLs.out.below hS)) (wcells_one _) (by unfold maxLen; omega) (by omega) (by simp) ?_
          intro v4 w4 hown4' hg4' hq0
          clear hq0
          rw [Nat.zero_add, List.nil_append] at hown4'
          obtain ⟨A4, c4, rfl, hq1, hq2, hq3⟩ := own_form hown4'
          clear hq1 hq2 hq3
          have hown4 := Lib.hid hown4'
          have hg4 := Lib.hid hg4'.out
          clear hown4' hg4' hown0
          refine hK.out _ _ (hS.grown hg4.out (by simp) (fun j hj => by cases hj; exact Nat.le_refl _)) (fun hS => ?_)
          clear hK K
          refine wpAnyH_ready (rs := [9]) (by kernel_rfl) (by simp) ?_
          refine AllReadyH.cons rfl (fun K hK => ?_) AllReadyH.nil
          refine step_append_any (by rfl) (.tmp 45) (.tmp 49) 23 (by rfl) w2.heap.size 47 i0 _ 3 32 Try.underlying23 I1.out I2.out I3.out I4.out rfl (by decide) _ k _ (by simp [Act.eval, Act.put]) hown4.out (dropAt ad (k + 1) c2) (ws.length - (k + 1)) (c2 - (k + 1)) (wcells (ws.drop (k + 1))) (by simp [Act.eval, Act.put]) (by rw [wcells_length, List.length_drop]) (fun h => by unfold dropAt at h; split at h <;> cases h) (dropAt_reads (HLs.out.below hS) (by omega)) (wcells_one _) (by unfold maxLen; omega) (by omega) (by have := hS.size; omega) ?_
          intro v5 w5 hown5' hg5' hq0
          clear hq0
          have hown5 := Lib.hid hown5'
          have hg5 := Lib.hid hg5'.out
          have hlt4 := hown4.out.lt
          clear hown5' hg5'
          refine hK.out _ _ (hS.grown hg5.out (by have := hS.size; omega) (fun j hj => (hlt4 j hj).1)) (fun hS => ?_)
          clear hK K
          refine wpAnyH_take (i := 10) (v := (v5)) rfl (by kernel_rfl) (by kernel_rfl) (by kernel_rfl) (fun _ _ _ h => h) (Or.inl ⟨by kernel_rfl, fun w' hS' => by go_simp⟩) hS ?_
          refine wpAnyH_done (by kernel_rfl) ?_ _
          go_simp
          first | (rename_i hnext; refine hnext _ _ ?_; clear hnext) | (rename_i hnext _; refine hnext _ _ ?_; clear hnext) | (rename_i hnext _ _; refine hnext _ _ ?_; clear hnext) | (rename_i hnext _ _ _; refine hnext _ _ ?_; clear hnext)
          have hll : (ws.take k ++ ws.drop (k + 1)).length = k + (ws.length - (k + 1)) := by rw [List.length_append, List.length_take, List.length_drop, Nat.min_eq_left (by omega)]
          have HLE : Hid (WSl w5 w5.heap.size v5 (ws.take k ++ ws.drop (k + 1))) := Lib.hid (WSl.own (by rw [hll, wcells_append]; exact hown5.out))
          have HY1 := Lib.hid (HX1.out.at_ hS)
          have HY2 := Lib.hid (HX2.out.at_ hS)
          have HB5 := Lib.hid (below_two HB2.out hS)
          have hz5 : bm < w5.heap.size := by have := hS.size; omega
          have HM5 : Hid (∀ j u, (encL m)[j]? = some u → w5.cell? ⟨bm, j, none⟩ = some u) := Lib.hid (fun j u hu => (hS.cell (p := ⟨bm, j, none⟩) hz2).trans (HM2.out j u hu))
          have K2 := Lib.hid (fits_yes (fits_less hF hk) HS.out (by omega) (by omega))
          clear hS hown4 hown5 hg4 hg5 hlt4 HX1 HX2 HB2 HM2 HLs hz2 hll I1 I2 I3 I4 HWK
          go_wp2_with (first
            | (go_at_call 18; ((with_reducible refine (K2.out _ _ _ HY1.out HLE.out).mono ?_); rintro e w6 ⟨rfl, hb6'⟩; have hz6 : bm < w6.heap.size := (by have := hb6'.size; omega); have HM6 : Hid (∀ j u, (encL m)[j]? = some u → w6.cell? ⟨bm, j, none⟩ = some u) := Lib.hid (fun j u hu => (hb6'.cell (p := ⟨bm, j, none⟩) hz5).trans (HM5.out j u hu)); have HZ1 := Lib.hid (HY1.out.at_ hb6'); have HZ2 := Lib.hid (HY2.out.at_ hb6'); have HB6 := Lib.hid (below_two HB5.out hb6'); clear hb6' HM5 HY1 HY2 HB5 HLE))
            | (go_at_call 29; ((with_reducible refine (copy_any _ l _ (by omega) HZ1.out).mono ?_); rintro e w7 ⟨v7, rfl, hown7', hb7'⟩; obtain ⟨g, cap, rfl, hg1, hg2, hg3, _⟩ := own_some hown7' hlp; have hz7 : bm < w7.heap.size := (by have := hb7'.size; omega); have HM7 : Hid (∀ j u, (encL m)[j]? = some u → w7.cell? ⟨bm, j, none⟩ = some u) := Lib.hid (fun j u hu => (hb7'.cell (p := ⟨bm, j, none⟩) hz6).trans (HM6.out j u hu)); have HT2 := Lib.hid (HZ2.out.at_ hb7'); have HB7 := Lib.hid (below_two HB6.out hb7'); have HR := Lib.hid (base_less hown7' HB6.out.size); have hgb : bm < g := (by omega); clear hb7' HM6 HZ1 HZ2 HB6 hown7'))
            | (go_at_call 27; fail))
          refine (pick_any at_ l.length w7 hlp (by omega) hn1 hn2).mono ?_
          rintro e w8 ⟨j, hj, rfl, rfl⟩
          obtain ⟨x, hx⟩ : ∃ x, l[j]? = some x := ⟨_, List.getElem?_eq_getElem hj⟩
          have HX := Lib.hid hx
          clear hx K2
          go_upto_region 11 with (fail)
          have HD : Hid (0 ≤ x.fr ∧ x.fr ≤ 4001 ∧ 0 ≤ x.un ∧ x.un ≤ 4001) := Lib.hid (fits_days hF (List.mem_of_getElem? HX.out))
          have hjl : decide (j < l.length) = true := decide_eq_true hj
          go_cut [] (fun wx => ∃ a : Int, 0 ≤ a ∧ Hid (wx.ownsRow w.heap.size 42 6 (.slice (some ⟨g, 0, none⟩) l.length cap) l.length ((lcells l).set (j * 6 + 3) (.int .i64 (min (x.un + a) 4001)))) ∧ Hid (Below w.heap.size w wx) ∧ Hid (∀ j u, (encL m)[j]? = some u → wx.cell? ⟨bm, j, none⟩ = some u) ∧ bm < wx.heap.size)
          have hx6 := six_at HR.out HX.out
          have hcS := hx6.2.2.2.1
          have hfS : w7.frozen? ⟨g, j * 6 + 3, none⟩ = false := HR.out.frozenAt _
          clear hx6
          case first =>
            refine wp_region_held_drew (S := fun _ => True) (by kernel_rfl) (trivial) (fun hS => ?_)
            refine wpAnyH_take (i := 0) (v := (.slice (some ⟨g, 0, none⟩) l.length cap)) rfl (by kernel_rfl) (by kernel_rfl) (by kernel_rfl) (fun _ _ _ h => h) (Or.inl ⟨by kernel_rfl, fun w' hS' => by go_simp⟩) hS ?_
            refine wpAnyH_take (i := 1) (v := (.int .i64 (j : Int))) rfl (by kernel_rfl) (by kernel_rfl) (by kernel_rfl) (fun _ _ _ h => h) (Or.inl ⟨by kernel_rfl, fun w' hS' => by go_simp⟩) hS ?_
            refine wpAnyH_take (i := 2) (v := (.slice (some ⟨g, 0, none⟩) l.length cap)) rfl (by kernel_rfl) (by kernel_rfl) (by kernel_rfl) (fun _ _ _ h => h) (Or.inl ⟨by kernel_rfl, fun w' hS' => by go_simp⟩) hS ?_
            refine wpAnyH_take (i := 3) (v := (.int .i64 (j : Int))) rfl (by kernel_rfl) (by kernel_rfl) (by kernel_rfl) (fun _ _ _ h => h) (Or.inl ⟨by kernel_rfl, fun w' hS' => by go_simp⟩) hS ?_
            refine wpAnyH_take (i := 4) (v := (.pointer (some ⟨g, j * 6, none⟩))) rfl (by kernel_rfl) (by kernel_rfl) (by kernel_rfl) (fun _ _ _ h => h) (Or.inl ⟨by kernel_rfl, fun w' hS' => by go_simp⟩) hS ?_
            refine wpAnyH_take (i := 5) (v := (.pointer (some ⟨g, j * 6 + 2, none⟩))) rfl (by kernel_rfl) (by kernel_rfl) (by kernel_rfl) (fun _ _ _ h => h) (Or.inl ⟨by kernel_rfl, fun w' hS' => by go_simp⟩) hS ?_
            refine wpAnyH_take (i := 6) (v := (.pointer (some ⟨g, j * 6 + 3, none⟩))) rfl (by kernel_rfl) (by kernel_rfl) (by kernel_rfl) (fun _ _ _ h => h) (Or.inl ⟨by kernel_rfl, fun w' hS' => by go_simp⟩) hS ?_
            refine wpAnyH_take (i := 8) (v := (.int .i64 lg)) rfl (by kernel_rfl) (by kernel_rfl) (by kernel_rfl) (fun _ _ _ h => h) (Or.inl ⟨by kernel_rfl, fun w' hS' => by go_simp⟩) hS ?_
            refine wpAnyH_ready (rs := [7, 9]) (by kernel_rfl) (by simp) ?_
            refine AllReadyH.cons rfl (fun K hK => ?_) (AllReadyH.cons rfl (fun K hK => ?_) AllReadyH.nil)
            · go_simp
              refine hK.out _ _ trivial (fun hS => ?_)
              clear hK K
              refine wpAnyH_ready (rs := [9]) (by kernel_rfl) (by simp) ?_
              refine AllReadyH.cons rfl (fun K hK => ?_) AllReadyH.nil
              go_simp
              refine (pick_50 lg _ hp1 hp2).mono ?_
              rintro e w9 ⟨p, hp, rfl, rfl⟩
              refine hK.out _ _ (trivial) (fun hS => ?_)
              clear hK K
              obtain ⟨U, hU⟩ : ∃ U : Int, min (x.un + (p : Int)) 4001 = U := ⟨_, rfl⟩
              have HU := Lib.hid hU
              have HWU : Hid (IntKind.i64.wrap (x.un + (p : Int)) = x.un + (p : Int)) := Lib.hid (by have := HD.out; rw [IntKind.wrap_i64]; omega)
              clear hU
              refine wpAnyH_take (i := 10) (v := (.int .i64 (x.un + (p : Int)))) rfl (by kernel_rfl) (by kernel_rfl) (by kernel_rfl) (fun _ _ _ h => h) (Or.inl ⟨by kernel_rfl, fun w' hS' => by have hwu := HWU.out; go_simp⟩) hS ?_
              refine wpAnyH_take (i := 11) (v := (.int .i64 U)) rfl (by kernel_rfl) (by kernel_rfl) (by kernel_rfl) (fun _ _ _ h => h) (Or.inl ⟨by kernel_rfl, fun w' hS' => by have hu := HU.out; go_simp⟩) hS ?_
              refine wpAnyH_take (i := 12) (v := (.pointer (some ⟨g, j * 6, none⟩))) rfl (by kernel_rfl) (by kernel_rfl) (by kernel_rfl) (fun _ _ _ h => h) (Or.inl ⟨by kernel_rfl, fun w' hS' => by go_simp⟩) hS ?_
              refine wpAnyH_take (i := 13) (v := (.pointer (some ⟨g, j * 6 + 2, none⟩))) rfl (by kernel_rfl) (by kernel_rfl) (by kernel_rfl) (fun _ _ _ h => h) (Or.inl ⟨by kernel_rfl, fun w' hS' => by go_simp⟩) hS ?_
              refine wpAnyH_take (i := 14) (v := (.pointer (some ⟨g, j * 6 + 3, none⟩))) rfl (by kernel_rfl) (by kernel_rfl) (by kernel_rfl) (fun _ _ _ h => h) (Or.inl ⟨by kernel_rfl, fun w' hS' => by go_simp⟩) hS ?_
              refine wpAnyH_ready (rs := [15]) (by kernel_rfl) (by simp) ?_
              refine AllReadyH.cons rfl (fun K hK => ?_) AllReadyH.nil
              go_simp
              skip
              refine hK.out _ _ (trivial) (fun hS => ?_)
              clear hK K
              refine wpAnyH_done (by kernel_rfl) ?_ _
              go_simp
              go_wp2_with fail
              go_meet
              exact ⟨p, by omega, by rw [HU.out]; exact Lib.hid (row_told HR.out HB7.out HM7.out hz7 hgb _ _).1, Lib.hid (row_told HR.out HB7.out HM7.out hz7 hgb _ _).2.1, Lib.hid (row_told HR.out HB7.out HM7.out hz7 hgb _ _).2.2.1, (row_told HR.out HB7.out HM7.out hz7 hgb _ _).2.2.2⟩
            · go_simp
              refine (pick_50 lg _ hp1 hp2).mono ?_
              rintro e w9 ⟨p, hp, rfl, rfl⟩
              refine hK.out _ _ trivial (fun hS => ?_)
              clear hK K
              refine wpAnyH_ready (rs := [7]) (by kernel_rfl) (by simp) ?_
              refine AllReadyH.cons rfl (fun K hK => ?_) AllReadyH.nil
              go_simp
              skip
              refine hK.out _ _ (trivial) (fun hS => ?_)
              clear hK K
              obtain ⟨U, hU⟩ : ∃ U : Int, min (x.un + (p : Int)) 4001 = U := ⟨_, rfl⟩
              have HU := Lib.hid hU
              have HWU : Hid (IntKind.i64.wrap (x.un + (p : Int)) = x.un + (p : Int)) := Lib.hid (by have := HD.out; rw [IntKind.wrap_i64]; omega)
              clear hU
              refine wpAnyH_take (i := 10) (v := (.int .i64 (x.un + (p : Int)))) rfl (by kernel_rfl) (by kernel_rfl) (by kernel_rfl) (fun _ _ _ h => h) (Or.inl ⟨by kernel_rfl, fun w' hS' => by have hwu := HWU.out; go_simp⟩) hS ?_
              refine wpAnyH_take (i := 11) (v := (.int .i64 U)) rfl (by kernel_rfl) (by kernel_rfl) (by kernel_rfl) (fun _ _ _ h => h) (Or.inl ⟨by kernel_rfl, fun w' hS' => by have hu := HU.out; go_simp⟩) hS ?_
              refine wpAnyH_take (i := 12) (v := (.pointer (some ⟨g, j * 6, none⟩))) rfl (by kernel_rfl) (by kernel_rfl) (by kernel_rfl) (fun _ _ _ h => h) (Or.inl ⟨by kernel_rfl, fun w' hS' => by go_simp⟩) hS ?_
              refine wpAnyH_take (i := 13) (v := (.pointer (some ⟨g, j * 6 + 2, none⟩))) rfl (by kernel_rfl) (by kernel_rfl) (by kernel_rfl) (fun _ _ _ h => h) (Or.inl ⟨by kernel_rfl, fun w' hS' => by go_simp⟩) hS ?_
              refine wpAnyH_take (i := 14) (v := (.pointer (some ⟨g, j * 6 + 3, none⟩))) rfl (by kernel_rfl) (by kernel_rfl) (by kernel_rfl) (fun _ _ _ h => h) (Or.inl ⟨by kernel_rfl, fun w' hS' => by go_simp⟩) hS ?_
              refine wpAnyH_ready (rs := [15]) (by kernel_rfl) (by simp) ?_
              refine AllReadyH.cons rfl (fun K hK => ?_) AllReadyH.nil
              go_simp
              skip
              refine hK.out _ _ (trivial) (fun hS => ?_)
              clear hK K
              refine wpAnyH_done (by kernel_rfl) ?_ _
              go_simp
              go_wp2_with fail
              go_meet
              exact ⟨p, by omega, by rw [HU.out]; exact Lib.hid (row_told HR.out HB7.out HM7.out hz7 hgb _ _).1, Lib.hid (row_told HR.out HB7.out HM7.out hz7 hgb _ _).2.1, Lib.hid (row_told HR.out HB7.out HM7.out hz7 hgb _ _).2.2.1, (row_told HR.out HB7.out HM7.out hz7 hgb _ _).2.2.2⟩
          case rest =>
            clear HR HB7 HM7 hz7 HT2
            obtain ⟨a, ha, HR, HB7, HM7, hz7⟩ := hcut
            obtain ⟨w7, rfl⟩ : ∃ W, W = wc := ⟨_, rfl⟩
            go_upto_region 12 with (fail)
            go_cut [] (fun wx => ∃ b : Int, 0 ≤ b ∧ Hid (wx.ownsRow w.heap.size 42 6 (.slice (some ⟨g, 0, none⟩) l.length cap) l.length (((lcells l).set (j * 6 + 3) (.int .i64 (min (x.un + a) 4001))).set (j * 6 + 2) (.int .i64 (max (x.fr - b) 0)))) ∧ Hid (Below w.heap.size w wx) ∧ Hid (∀ j u, (encL m)[j]? = some u → wx.cell? ⟨bm, j, none⟩ = some u) ∧ bm < wx.heap.size)
            have hcS : w7.cell? ⟨g, j * 6 + 2, none⟩ = some (.int .i64 x.fr) := by
              rw [HR.out.cellAt _ (by omega), List.getElem?_set, if_neg (by omega)]
              have := lcells_get l j x HX.out 2 (by omega)
              rw [this]; rfl
            have hfS : w7.frozen? ⟨g, j * 6 + 2, none⟩ = false := HR.out.frozenAt _
            case first =>
              refine wp_region_held_drew (S := fun _ => True) (by kernel_rfl) (trivial) (fun hS => ?_)
              refine wpAnyH_take (i := 0) (v := (.slice (some ⟨g, 0, none⟩) l.length cap)) rfl (by kernel_rfl) (by kernel_rfl) (by kernel_rfl) (fun _ _ _ h => h) (Or.inl ⟨by kernel_rfl, fun w' hS' => by go_simp⟩) hS ?_
              refine wpAnyH_take (i := 1) (v := (.int .i64 (j : Int))) rfl (by kernel_rfl) (by kernel_rfl) (by kernel_rfl) (fun _ _ _ h => h) (Or.inl ⟨by kernel_rfl, fun w' hS' => by go_simp⟩) hS ?_
              refine wpAnyH_take (i := 2) (v := (.slice (some ⟨g, 0, none⟩) l.length cap)) rfl (by kernel_rfl) (by kernel_rfl) (by kernel_rfl) (fun _ _ _ h => h) (Or.inl ⟨by kernel_rfl, fun w' hS' => by go_simp⟩) hS ?_
              refine wpAnyH_take (i := 3) (v := (.int .i64 (j : Int))) rfl (by kernel_rfl) (by kernel_rfl) (by kernel_rfl) (fun _ _ _ h => h) (Or.inl ⟨by kernel_rfl, fun w' hS' => by go_simp⟩) hS ?_
              refine wpAnyH_take (i := 4) (v := (.pointer (some ⟨g, j * 6, none⟩))) rfl (by kernel_rfl) (by kernel_rfl) (by kernel_rfl) (fun _ _ _ h => h) (Or.inl ⟨by kernel_rfl, fun w' hS' => by go_simp⟩) hS ?_
              refine wpAnyH_take (i := 5) (v := (.pointer (some ⟨g, j * 6 + 2, none⟩))) rfl (by kernel_rfl) (by kernel_rfl) (by kernel_rfl) (fun _ _ _ h => h) (Or.inl ⟨by kernel_rfl, fun w' hS' => by go_simp⟩) hS ?_
              refine wpAnyH_take (i := 6) (v := (.pointer (some ⟨g, j * 6 + 2, none⟩))) rfl (by kernel_rfl) (by kernel_rfl) (by kernel_rfl) (fun _ _ _ h => h) (Or.inl ⟨by kernel_rfl, fun w' hS' => by go_simp⟩) hS ?_
              refine wpAnyH_take (i := 8) (v := (.int .i64 lg)) rfl (by kernel_rfl) (by kernel_rfl) (by kernel_rfl) (fun _ _ _ h => h) (Or.inl ⟨by kernel_rfl, fun w' hS' => by go_simp⟩) hS ?_
              refine wpAnyH_ready (rs := [7, 9]) (by kernel_rfl) (by simp) ?_
              refine AllReadyH.cons rfl (fun K hK => ?_) (AllReadyH.cons rfl (fun K hK => ?_) AllReadyH.nil)
              · go_simp
                refine hK.out _ _ trivial (fun hS => ?_)
                clear hK K
                refine wpAnyH_ready (rs := [9]) (by kernel_rfl) (by simp) ?_
                refine AllReadyH.cons rfl (fun K hK => ?_) AllReadyH.nil
                go_simp
                refine (pick_7 lg _ hp1 hp2).mono ?_
                rintro e w9 ⟨p, hp, rfl, rfl⟩
                refine hK.out _ _ (trivial) (fun hS => ?_)
                clear hK K
                obtain ⟨U, hU⟩ : ∃ U : Int, max (x.fr - (p : Int)) 0 = U := ⟨_, rfl⟩
                have HU := Lib.hid hU
                have HWU : Hid (IntKind.i64.wrap (x.fr - (p : Int)) = x.fr - (p : Int)) := Lib.hid (by have := HD.out; rw [IntKind.wrap_i64]; omega)
                clear hU
                refine wpAnyH_take (i := 10) (v := (.int .i64 (x.fr - (p : Int)))) rfl (by kernel_rfl) (by kernel_rfl) (by kernel_rfl) (fun _ _ _ h => h) (Or.inl ⟨by kernel_rfl, fun w' hS' => by have hwu := HWU.out; go_simp⟩) hS ?_
                refine wpAnyH_take (i := 11) (v := (.int .i64 U)) rfl (by kernel_rfl) (by kernel_rfl) (by kernel_rfl) (fun _ _ _ h => h) (Or.inl ⟨by kernel_rfl, fun w' hS' => by have hu := HU.out; go_simp⟩) hS ?_
                refine wpAnyH_take (i := 12) (v := (.pointer (some ⟨g, j * 6, none⟩))) rfl (by kernel_rfl) (by kernel_rfl) (by kernel_rfl) (fun _ _ _ h => h) (Or.inl ⟨by kernel_rfl, fun w' hS' => by go_simp⟩) hS ?_
                refine wpAnyH_take (i := 13) (v := (.pointer (some ⟨g, j * 6 + 2, none⟩))) rfl (by kernel_rfl) (by kernel_rfl) (by kernel_rfl) (fun _ _ _ h => h) (Or.inl ⟨by kernel_rfl, fun w' hS' => by go_simp⟩) hS ?_
                refine wpAnyH_take (i := 14) (v := (.pointer (some ⟨g, j * 6 + 2, none⟩))) rfl (by kernel_rfl) (by kernel_rfl) (by kernel_rfl) (fun _ _ _ h => h) (Or.inl ⟨by kernel_rfl, fun w' hS' => by go_simp⟩) hS ?_
                refine wpAnyH_ready (rs := [15]) (by kernel_rfl) (by simp) ?_
                refine AllReadyH.cons rfl (fun K hK => ?_) AllReadyH.nil
                go_simp
                skip
                refine hK.out _ _ (trivial) (fun hS => ?_)
                clear hK K
                refine wpAnyH_done (by kernel_rfl) ?_ _
                go_simp
                go_wp2_with fail
                go_meet
                exact ⟨p, by omega, by rw [HU.out]; exact Lib.hid (row_told HR.out HB7.out HM7.out hz7 hgb _ _).1, Lib.hid (row_told HR.out HB7.out HM7.out hz7 hgb _ _).2.1, Lib.hid (row_told HR.out HB7.out HM7.out hz7 hgb _ _).2.2.1, (row_told HR.out HB7.out HM7.out hz7 hgb _ _).2.2.2⟩
              · go_simp
                refine (pick_7 lg _ hp1 hp2).mono ?_
                rintro e w9 ⟨p, hp, rfl, rfl⟩
                refine hK.out _ _ trivial (fun hS => ?_)
                clear hK K
                refine wpAnyH_ready (rs := [7]) (by kernel_rfl) (by simp) ?_
                refine AllReadyH.cons rfl (fun K hK => ?_) AllReadyH.nil
                go_simp
                skip
                refine hK.out _ _ (trivial) (fun hS => ?_)
                clear hK K
                obtain ⟨U, hU⟩ : ∃ U : Int, max (x.fr - (p : Int)) 0 = U := ⟨_, rfl⟩
                have HU := Lib.hid hU
                have HWU : Hid (IntKind.i64.wrap (x.fr - (p : Int)) = x.fr - (p : Int)) := Lib.hid (by have := HD.out; rw [IntKind.wrap_i64]; omega)
                clear hU
                refine wpAnyH_take (i := 10) (v := (.int .i64 (x.fr - (p : Int)))) rfl (by kernel_rfl) (by kernel_rfl) (by kernel_rfl) (fun _ _ _ h => h) (Or.inl ⟨by kernel_rfl, fun w' hS' => by have hwu := HWU.out; go_simp⟩) hS ?_
                refine wpAnyH_take (i := 11) (v := (.int .i64 U)) rfl (by kernel_rfl) (by kernel_rfl) (by kernel_rfl) (fun _ _ _ h => h) (Or.inl ⟨by kernel_rfl, fun w' hS' => by have hu := HU.out; go_simp⟩) hS ?_
                refine wpAnyH_take (i := 12) (v := (.pointer (some ⟨g, j * 6, none⟩))) rfl (by kernel_rfl) (by kernel_rfl) (by kernel_rfl) (fun _ _ _ h => h) (Or.inl ⟨by kernel_rfl, fun w' hS' => by go_simp⟩) hS ?_
                refine wpAnyH_take (i := 13) (v := (.pointer (some ⟨g, j * 6 + 2, none⟩))) rfl (by kernel_rfl) (by kernel_rfl) (by kernel_rfl) (fun _ _ _ h => h) (Or.inl ⟨by kernel_rfl, fun w' hS' => by go_simp⟩) hS ?_
                refine wpAnyH_take (i := 14) (v := (.pointer (some ⟨g, j * 6 + 2, none⟩))) rfl (by kernel_rfl) (by kernel_rfl) (by kernel_rfl) (fun _ _ _ h => h) (Or.inl ⟨by kernel_rfl, fun w' hS' => by go_simp⟩) hS ?_
                refine wpAnyH_ready (rs := [15]) (by kernel_rfl) (by simp) ?_
                refine AllReadyH.cons rfl (fun K hK => ?_) AllReadyH.nil
                go_simp
                skip
                refine hK.out _ _ (trivial) (fun hS => ?_)
                clear hK K
                refine wpAnyH_done (by kernel_rfl) ?_ _
                go_simp
                go_wp2_with fail
                go_meet
                exact ⟨p, by omega, by rw [HU.out]; exact Lib.hid (row_told HR.out HB7.out HM7.out hz7 hgb _ _).1, Lib.hid (row_told HR.out HB7.out HM7.out hz7 hgb _ _).2.1, Lib.hid (row_told HR.out HB7.out HM7.out hz7 hgb _ _).2.2.1, (row_told HR.out HB7.out HM7.out hz7 hgb _ _).2.2.2⟩
            case rest =>
              clear HR HB7 HM7 hz7
              obtain ⟨b, hb, HR, HB7, HM7, hz7⟩ := hcut
              obtain ⟨w7, rfl⟩ : ∃ W, W = wc := ⟨_, rfl⟩
              have hnd : (l.map Lt.id).Nodup := (mayB_true hF.1).2.2.2.2
              obtain ⟨L', hL', hlen, hfit3, hsz3⟩ : ∃ L' : List Lt, ((lcells l).set (j * 6 + 3) (.int .i64 (min (x.un + a) 4001))).set (j * 6 + 2) (.int .i64 (max (x.fr - b) 0)) = lcells L' ∧ L'.length = l.length ∧ fitsP L' ws ∧ Sized L' := ⟨l.map (longer x.id a b), by rw [days_cells l j x _ _ HX.out, longer_set hnd HX.out], List.length_map _, fits_longer hF ha hb, fun y hy => by obtain ⟨z, hz, rfl⟩ := List.mem_map.1 hy; exact longer_fits ha hb ((mayB_true hF.1).2.2.1 z hz) (HS.out z hz)⟩
              have HR3 : Hid (w7.ownsRow w.heap.size 42 6 (.slice (some ⟨g, 0, none⟩) l.length cap) l.length (lcells L')) := Lib.hid (by rw [← hL']; exact HR.out)
              have HL3 : Hid (LSl w7 w7.heap.size (.slice (some ⟨g, 0, none⟩) l.length cap) L') := Lib.hid (LSl.own (by rw [hlen]; exact HR3.out))
              have HT7 : Hid (WSl w7 w7.heap.size (.slice (some ad) ws.length c2) ws) := Lib.hid ((HV0.out.below HB7.out).mono HB7.out.size)
              have K3 := Lib.hid (fits_yes hfit3 hsz3 (by omega) (by omega))
              have HSZ := Lib.hid hsz3
              have HF3 := Lib.hid hfit3
              clear HR hL' hnd HX HD hsz3 hfit3
              have hsz4 : Sized (L' ++ [m]) := fun y hy => by rcases List.mem_append.1 hy with h | h; exact HSZ.out y h; rw [List.mem_singleton.1 h]; exact HMF.out
              have hlen4 : (L' ++ [m]).length = l.length + 1 := by rw [List.length_append, hlen]; rfl
              have HSM := Lib.hid (World.ownsRow_nil w7 w.heap.size 42 6)
              obtain ⟨i0, hi0, hz0', hz1', hz2'⟩ := info_parts infoLot
              have I1 := Lib.hid hi0
              have I2 := Lib.hid hz0'
              have I3 := Lib.hid hz1'
              have I4 := Lib.hid hz2'
              clear hi0 hz0' hz1' hz2' HSM
              have hn8 : l.length + 1 ≤ 41 := by omega
              go_wp2_with (first
                | (go_at_call 18; ((with_reducible refine (K3.out _ _ _ HL3.out HT7.out).mono ?_); rintro e w8 ⟨rfl, hb8'⟩; have hz8 : bm < w8.heap.size := (by have := hb8'.size; omega); have hm8 : ∀ j u, (encL m)[j]? = some u → w8.cell? ⟨bm, j, none⟩ = some u := (fun j u hu => (hb8'.cell (p := ⟨bm, j, none⟩) hz7).trans (HM7.out j u hu)); have e0 := hm8 0 _ rfl; have e1 := hm8 1 _ rfl; have e2 := hm8 2 _ rfl; have e3 := hm8 3 _ rfl; have e4 := hm8 4 _ rfl; have e5 := hm8 5 _ rfl; have HR8 := Lib.hid (own_at HR3.out hb8'); have HT8 := Lib.hid (HT7.out.at_ hb8'); have HB8 := Lib.hid (below_two HB7.out hb8'); clear hb8' hm8))
                | (at_builtin; refine wpList_append_own _ rfl _ _ 22 rfl w.heap.size 42 i0 _ 6 56 Try.underlying22 I1.out I2.out I3.out I4.out rfl (by decide) _ _ _ rfl (HR8.out.alloc _) ⟨w8.heap.size, 0, none⟩ 1 1 (encL m) rfl rfl (six_new w8 m 42) (encL_one _) (by unfold maxLen; omega) (by omega) (by have := HB8.out.size; simp only [World.size_alloc]; omega) ?_; intro v9 w9 hown9' hg9' hq0; clear hq0; have HB9 := Lib.hid ((HB8.out.alloc HB8.out.size (.cells #[.int .i64 m.id, .string ⟨m.item.toArray⟩, .int .i64 m.fr, .int .i64 m.un, .int .i64 m.qty, .bool m.arr] 42)).grown hg9' (by have := HB8.out.size; simp only [World.size_alloc]; omega) (fun j hj => (HR8.out.lt j hj).1)); have HL9 : Hid (LSl w9 w9.heap.size v9 (L' ++ [m])) := Lib.hid (LSl.own (by rw [hlen4, lcells_append]; simpa [lcells] using hown9')); have HT9 : Hid (WSl w9 w9.heap.size (.slice (some ad) ws.length c2) ws) := Lib.hid ((HV0.out.below HB9.out).mono HB9.out.size); clear hown9' hg9' HR8 HT8 HB8 e0 e1 e2 e3 e4 e5)
                | (go_at_call 18; fail))
              by_cases hf4 : fitsP (L' ++ [m]) ws
              · refine (fits_yes hf4 hsz4 (by omega) (by omega) _ _ _ HL9.out HT9.out).mono ?_
                rintro e w10 ⟨rfl, hb10'⟩
                have HB10 := Lib.hid (below_two HB9.out hb10')
                clear hb10' I1 I2 I3 I4
                go_wp2
                go_ret
                exact ⟨rfl, HB10.out⟩
              · have hcb : checkB (L' ++ [m]) [] [] = false := by
                  rw [check_none]
                  cases hmb : mayB (L' ++ [m]) [] with
                  | false => rfl
                  | true => exact absurd (fits_more HF3.out hmb) hf4
                have HCB := Lib.hid hcb
                refine (fits_not hf4 hsz4 (by omega) (by omega) _ _ _ HL9.out HT9.out).mono ?_
                rintro e w10 ⟨rfl, hb10'⟩
                have HL10 := Lib.hid (HL9.out.at_ hb10')
                have HB10 := Lib.hid (below_two HB9.out hb10')
                have HS4 := Lib.hid hsz4
                clear hb10' I1 I2 I3 I4 hcb hsz4
                have KC : Hid (Calls Try.prog 23 #[v9, .slice none 0 0, .slice none 0 0] w10 fun e w' => e = .returned (.bool false) ∧ Below w10.heap.size w10 w') := Lib.hid (by
                  rw [← HCB.out]
                  exact check_any _ _ _ (L' ++ [m]) [] [] _ (by omega) (by simp) (by simp) HS4.out (fun x hx => by simp at hx) HL10.out WSl.nil USl.nil)
                go_wp2_with (go_at_call 23; ((with_reducible refine (KC.out).mono ?_); rintro e w11 ⟨rfl, hb11'⟩; have HB11 := Lib.hid (below_two HB10.out hb11'); clear hb11'))
                go_ret
                exact ⟨rfl, HB11.out⟩
        · have K1 := Lib.hid (fits_not hF HS.out (by omega) (by omega))
          go_wp2_with (first
            | (go_at_call 10; ((with_reducible refine (small_any _ _ _ _ _ _ _).mono ?_); rintro e w2 ⟨rfl, rfl⟩; rw [hsd]))
            | (go_at_call 18; ((with_reducible refine (K1.out _ _ _ HW1.out HW2.out).mono ?_); rintro e w2 ⟨rfl, hb2'⟩; have HB2 := Lib.hid (below_two HB1.out hb2'); clear hb2')))
          go_ret
          exact ⟨rfl, HB2.out⟩
  · have hsd : decide (l.length ≤ 40 ∧ ws.length ≤ 60) = false := decide_eq_false hS4
    clear hS4
    go_wp2_with (go_at_call 10; ((with_reducible refine (small_any _ _ _ _ _ _ _).mono ?_); rintro e w2 ⟨rfl, rfl⟩; rw [hsd]))
    go_ret
    exact ⟨rfl, HB1.out⟩
end Go.Proofs.Ytddnfikjfmfhfaa
end
