/- Texts of this proof, one behind the other. -/
import Derived.Deep.RegionHeld3
import Derived.Deep.DeepCutAuto
import Derived.Test.YtlgpambbghkffaaR06
section
/- storemankit.CopyItems: the items of a list, in memory of their own. -/
namespace Go.Proofs.Ytlgpambbghkffaa
namespace Kt
open Go.ChangeShapes Go.WideShapes Go.ChangeAt Go.RowKit Go.Maps Go.Shelf
set_option linter.unusedVariables false
set_option linter.constructorNameAsVariable false

theorem pcells_one' (l : List Pt) : ∀ u ∈ pcells l, u.oneCell' = true := by
  induction l with
  | nil => intro u hu; simp [pcells] at hu
  | cons x r ih =>
    intro u hu
    simp only [pcells, List.mem_cons] at hu
    rcases hu with rfl | rfl | h
    · rfl
    · rfl
    · exact ih u h
theorem txtI' : (Try.prog.info? 9).map (fun i => (i.zero, i.size, i.bytes)) = some (some (.string ⟨#[]⟩), 1, 16) := by kernel_rfl
theorem partI' : (Try.prog.info? 39).map (fun i => (i.zero, i.size, i.bytes)) = some (some (.agg #[.string ⟨#[]⟩, .int .i64 0]), 2, 24) := by kernel_rfl
theorem itemI : (Try.prog.info? 32).map (fun i => (i.zero, i.size, i.bytes)) = some (some zI, 4, 72) := by kernel_rfl

set_option maxRecDepth 100000 in
set_option maxHeartbeats 1000000 in
theorem copyP_any (v : Value) (l : List Pt) (w : World) (hlen : l.length ≤ 1048576) (hv : PSl w w.heap.size v l) :
    Calls Try.prog 70 #[v] w fun e w' => ∃ v', e = .returned v' ∧ w'.ownsRow w.heap.size 39 2 v' l.length (pcells l) ∧ Go.RowKit.Below w.heap.size w w' := by
  obtain ⟨i0, hi, hz0, hz1, hz2⟩ := info_parts partI'
  have H1 := Lib.hid hi
  have H2 := Lib.hid hz0
  have H3 := Lib.hid hz1
  have H4 := Lib.hid hz2
  obtain ⟨A, c, rfl, hc1, hc2, hcz, hl⟩ := id hv
  have HL : Hid (∀ a, A = some a → ∀ j u, (pcells l)[j]? = some u → w.cell? (a.add j) = some u) := Lib.hid (fun a ha j u hu => by
    obtain ⟨ad, h1, _, h2⟩ := hl.get hu
    rw [h1] at ha; cases ha; exact h2)
  have HCZ : Hid (A = none → l.length = 0 ∧ c = 0) := Lib.hid (fun h => by have := hcz h; omega)
  have HNIL : Hid (w.ownsRow w.heap.size 39 2 (.slice none 0 0) 0 []) := Lib.hid (World.ownsRow_nil _ _ _ _)
  clear hi hz0 hz1 hz2 hl hv
  go_enter Try.func70, Try.ntmps70
  go_wp2_with (at_builtin; refine wpList_append_any _ rfl _ _ 29 rfl w.heap.size 39 i0 _ 2 24 Try.underlying29 H1.out H2.out H3.out H4.out rfl (by decide) _ 0 [] rfl HNIL.out A l.length c (pcells l) rfl (pcells_length l) HCZ.out HL.out (pcells_one' l) (by unfold maxLen; omega) (by omega) (Nat.le_refl _) ?_; intro v1 w1 hown1 hg1 ha1; have ho1 := Lib.hid hown1; have hG1 := Lib.hid hg1.out; clear hown1 hg1 ha1)
  go_ret
  refine ⟨v1, rfl, ?_, (Below.refl _ _).grown hG1.out (Nat.le_refl _) (fun j hj => by exact absurd hj (by simp [Act.eval, Value.ownBlock]))⟩
  have h := ho1.out
  rw [Nat.zero_add, List.nil_append] at h
  exact h
set_option maxRecDepth 100000 in
set_option maxHeartbeats 1000000 in
theorem copyT_any (v : Value) (l : List (List UInt8)) (w : World) (hlen : l.length ≤ 1048576) (hv : TSl w w.heap.size v l) :
    Calls Try.prog 71 #[v] w fun e w' => ∃ v', e = .returned v' ∧ w'.ownsRow w.heap.size 9 1 v' l.length (tcells l) ∧ Go.RowKit.Below w.heap.size w w' := by
  obtain ⟨i0, hi, hz0, hz1, hz2⟩ := info_parts txtI'
  have H1 := Lib.hid hi
  have H2 := Lib.hid hz0
  have H3 := Lib.hid hz1
  have H4 := Lib.hid hz2
  obtain ⟨A, c, rfl, hc1, hc2, hcz, hl⟩ := id hv
  have HL : Hid (∀ a, A = some a → ∀ j u, (tcells l)[j]? = some u → w.cell? (a.add j) = some u) := Lib.hid (fun a ha j u hu => by
    obtain ⟨ad, h1, _, h2⟩ := hl.get hu
    rw [h1] at ha; cases ha; exact h2)
  have HCZ : Hid (A = none → l.length = 0 ∧ c = 0) := Lib.hid (fun h => by have := hcz h; omega)
  have HNIL : Hid (w.ownsRow w.heap.size 9 1 (.slice none 0 0) 0 []) := Lib.hid (World.ownsRow_nil _ _ _ _)
  clear hi hz0 hz1 hz2 hl hv
  go_enter Try.func71, Try.ntmps71
  go_wp2_with (at_builtin; refine wpList_append_any _ rfl _ _ 30 rfl w.heap.size 9 i0 _ 1 16 Try.underlying30 H1.out H2.out H3.out H4.out rfl (by decide) _ 0 [] rfl HNIL.out A l.length c (tcells l) rfl (by rw [tcells_length, Nat.mul_one]) HCZ.out HL.out (tcells_one l) (by unfold maxLen; omega) (by omega) (Nat.le_refl _) ?_; intro v1 w1 hown1 hg1 ha1; have ho1 := Lib.hid hown1; have hG1 := Lib.hid hg1.out; clear hown1 hg1 ha1)
  go_ret
  refine ⟨v1, rfl, ?_, (Below.refl _ _).grown hG1.out (Nat.le_refl _) (fun j hj => by exact absurd hj (by simp [Act.eval, Value.ownBlock]))⟩
  have h := ho1.out
  rw [Nat.zero_add, List.nil_append] at h
  exact h

/-- An item whose lists lie in rows of its own, at a base or above it. -/
structure OwnI (w : World) (base : Nat) (x : Iv) : Prop where
  parts : w.ownsRow base 39 2 x.pv x.it.parts.length (pcells x.it.parts)
  others : w.ownsRow base 9 1 x.ov x.others.length (tcells x.others)
theorem OwnI.sub {w : World} {base : Nat} {x : Iv} (h : OwnI w base x) : ISub w w.heap.size x := ⟨PSl.own h.parts, TSl.own h.others⟩
theorem ownAt {w w' : World} {base e size n : Nat} {v : Value} {xs : List Value} (h : w.ownsRow base e size v n xs) (hb : Go.RowKit.Below w.heap.size w w') : w'.ownsRow base e size v n xs :=
  h.kept (row := none) ⟨hb.os, hb.tape, hb.output, hb.size, fun k hk _ => hb.block k hk⟩ (by cases hv : v.ownBlock with
    | none => exact .inl rfl
    | some b => exact .inr (by simp))
theorem OwnI.at_ {w w' : World} {base : Nat} {x : Iv} (h : OwnI w base x) (hb : Go.RowKit.Below w.heap.size w w') : OwnI w' base x := ⟨ownAt h.parts hb, ownAt h.others hb⟩
theorem OwnI.less {w : World} {base base' : Nat} {x : Iv} (h : OwnI w base x) (hb : base' ≤ base) : OwnI w base' x := ⟨base_less h.parts hb, base_less h.others hb⟩

theorem ISub.at_ {w W : World} {x : Iv} (h : ISub w w.heap.size x) (hb : Go.RowKit.Below w.heap.size w W) : ISub W W.heap.size x := (h.below hb).mono hb.size
abbrev zBoxO : Obj := .cells #[.string ⟨#[]⟩, .int .i64 0, .slice none 0 0, .slice none 0 0] 32
theorem box_cells {W : World} {B : Nat} {u0 u1 u2 u3 : Value} (h : W.heap[B]? = some (.cells #[u0, u1, u2, u3] 32 (0, 0))) : (W.cell? ⟨B, 0, none⟩ = some u0 ∧ W.cell? ⟨B, 1, none⟩ = some u1 ∧ W.cell? ⟨B, 2, none⟩ = some u2 ∧ W.cell? ⟨B, 3, none⟩ = some u3) ∧
    W.frozen? ⟨B, 0, none⟩ = false ∧ W.frozen? ⟨B, 1, none⟩ = false ∧ W.frozen? ⟨B, 2, none⟩ = false ∧ W.frozen? ⟨B, 3, none⟩ = false := by
  refine ⟨⟨?_, ?_, ?_, ?_⟩, ?_, ?_, ?_, ?_⟩
  · rw [cell_of_row _ _ _ _ _ _ h]; rfl
  · rw [cell_of_row _ _ _ _ _ _ h]; rfl
  · rw [cell_of_row _ _ _ _ _ _ h]; rfl
  · rw [cell_of_row _ _ _ _ _ _ h]; rfl
  all_goals (simp [World.frozen?, h])
/-- A block that holds one item, and stays. -/
theorem box_at {W W' : World} {B n : Nat} {u0 u1 u2 u3 : Value} (h : W.heap[B]? = some (.cells #[u0, u1, u2, u3] 32 (0, 0))) (hb : Go.RowKit.Below n W W') (hB : B < n) : W'.heap[B]? = some (.cells #[u0, u1, u2, u3] 32 (0, 0)) := (hb.block B hB).trans h
set_option maxRecDepth 100000 in
set_option maxHeartbeats 2000000 in
theorem copyI_any (x : Iv) (w : World) (hf : x.Fits) (hs : ISub w w.heap.size x) :
    Calls Try.prog 47 #[aggI x] w fun e w' => ∃ pv ov, e = .returned (aggI ⟨x.it, x.others, pv, ov⟩) ∧ OwnI w' w.heap.size ⟨x.it, x.others, pv, ov⟩ ∧ Go.RowKit.Below w.heap.size w w' := by
  obtain ⟨⟨code, life, ps⟩, os, pv, ov⟩ := x
  obtain ⟨_, _, _, _, hpl, hol⟩ := hf
  have HS := Lib.hid hs
  obtain ⟨Ap, cp, Ao, co, rfl, rfl, hcp, hcq⟩ := hs.form
  simp only at hpl hol
  clear hs
  have hb0 : Go.RowKit.Below w.heap.size w ((w.alloc (.cells #[.string ⟨code.toArray⟩, .int .i64 life, .slice Ap ps.length cp, .slice Ao os.length co] 32)).alloc zBoxO) := ((Below.refl _ _).alloc (Nat.le_refl _) _).alloc (by simp) _
  obtain ⟨b1, hb1⟩ : ∃ b, w.heap.size = b := ⟨_, rfl⟩
  obtain ⟨W2, hW2⟩ : ∃ W, W = (w.alloc (.cells #[.string ⟨code.toArray⟩, .int .i64 life, .slice Ap ps.length cp, .slice Ao os.length co] 32)).alloc zBoxO := ⟨_, rfl⟩
  have hz2 : W2.heap.size = b1 + 2 := by rw [hW2, ← hb1]; simp
  have hx2 : W2.heap[b1]? = some (.cells #[strV code, .int .i64 life, .slice Ap ps.length cp, .slice Ao os.length co] 32 (0, 0)) := by
    rw [hW2, ← hb1]
    have h1 : ∀ (W : World) (o : Obj) (k : Nat), k < W.heap.size → (W.alloc o).heap[k]? = W.heap[k]? := fun W o k hk => ((Below.refl W.heap.size W).alloc (Nat.le_refl _) o).block k hk
    rw [h1 _ _ _ (by simp)]
    exact Go.heap_alloc_new w _
  have hy2 : W2.heap[b1 + 1]? = some zBoxO := by
    rw [hW2, ← hb1]
    have := Go.heap_alloc_new (w.alloc (.cells #[.string ⟨code.toArray⟩, .int .i64 life, .slice Ap ps.length cp, .slice Ao os.length co] 32)) (.cells #[.string ⟨#[]⟩, .int .i64 0, .slice none 0 0, .slice none 0 0] 32)
    simpa using this
  rw [← hW2] at hb0
  have HB0 := Lib.hid hb0
  have HZ2 := Lib.hid hz2
  have HX2 := Lib.hid hx2
  have HY2 := Lib.hid hy2
  have HW2 := Lib.hid hW2
  have HB1 := Lib.hid hb1
  clear hb0 hz2 hx2 hy2 hW2 hb1
  go_enter Try.func47, Try.ntmps47
  go_wp2_with (go_at_call 70; fail)
  rw [HB1.out, ← HW2.out]
  refine (copyP_any _ ps W2 hpl (HS.out.at_ HB0.out).parts).mono ?_
  rintro e w3 ⟨v3, rfl, ho3, hb3⟩
  obtain ⟨A3, k3, rfl, _, _, _⟩ := own_form ho3
  have hbase : b1 < W2.heap.size ∧ b1 + 1 < W2.heap.size := by have := HZ2.out; omega
  have hx3 := box_at HX2.out hb3 hbase.1
  have hy3 := box_at HY2.out hb3 hbase.2
  have hx4 := heap_setCell_same w3 b1 2 _ _ (.slice A3 ps.length k3) hx3
  have hy4 := (heap_setCell_other w3 ⟨b1, 2, none⟩ (b1 + 1) (.slice A3 ps.length k3) (by simp)).trans hy3
  simp only [List.setIfInBounds_toArray, List.set_cons_zero, List.set_cons_succ] at hx4
  obtain ⟨⟨e0, e1, e2, e3⟩, f0, f1, f2, f3⟩ := box_cells hx3
  obtain ⟨⟨g0, g1, g2, g3⟩, _, _, _, _⟩ := box_cells hx4
  have ho4 := ownsRow_setCell_below ho3 (a := ⟨b1, 2, none⟩) hbase.1 (.slice A3 ps.length k3)
  have hb4 : Go.RowKit.Below w.heap.size w (w3.setCell ⟨b1, 2, none⟩ (.slice A3 ps.length k3)) := (HB0.out.trans (hb3.mono HB0.out.size)).setCell (Nat.le_of_eq HB1.out) _
  have HX4 := Lib.hid hx4
  have HY4 := Lib.hid hy4
  have HO4 := Lib.hid ho4
  have HB4 := Lib.hid hb4
  have hs3 := hb3.size
  have HS3 := Lib.hid hs3
  have HT4 := Lib.hid (HS.out.at_ hb4).others
  clear hx3 hy3 hx4 hy4 ho3 ho4 hb4 hb3
  go_wp2_with (go_at_call 71; fail)
  refine (copyT_any _ os _ hol HT4.out).mono ?_
  rintro e w5 ⟨v5, rfl, ho5, hb5⟩
  obtain ⟨A5, k5, rfl, _, _, _⟩ := own_form ho5
  have hx5 := box_at HX4.out hb5 (by rw [World.size_setCell]; omega)
  have hy5 := box_at HY4.out hb5 (by rw [World.size_setCell]; omega)
  have hx6 := heap_setCell_same w5 b1 3 _ _ (.slice A5 os.length k5) hx5
  have hy6 := (heap_setCell_other w5 ⟨b1, 3, none⟩ (b1 + 1) (.slice A5 os.length k5) (by simp)).trans hy5
  simp only [List.setIfInBounds_toArray, List.set_cons_zero, List.set_cons_succ] at hx6
  obtain ⟨⟨p0, p1, p2, p3⟩, q0, q1, q2, q3⟩ := box_cells hx5
  obtain ⟨⟨r0, r1, r2, r3⟩, _, _, _, _⟩ := box_cells hx6
  obtain ⟨⟨z0, z1, z2, z3⟩, y0, y1, y2, y3⟩ := box_cells hy6
  have ho6 := ownsRow_setCell_below (ownAt HO4.out hb5) (a := ⟨b1, 3, none⟩) hbase.1 (.slice A5 os.length k5)
  have hs4 : W2.heap.size ≤ (w3.setCell ⟨b1, 2, none⟩ (.slice A3 ps.length k3)).heap.size := by rw [World.size_setCell]; exact HS3.out
  have ht6 := ownsRow_setCell_below (base_less ho5 hs4) (a := ⟨b1, 3, none⟩) hbase.1 (.slice A5 os.length k5)
  have hb6 := (HB4.out.trans (hb5.mono HB4.out.size)).setCell (p := ⟨b1, 3, none⟩) (Nat.le_of_eq HB1.out) (.slice A5 os.length k5)
  have HO6 := Lib.hid ho6
  have HT6 := Lib.hid ht6
  have HB6 := Lib.hid hb6
  clear hx5 hy5 hx6 hy6 ho5 ho6 ht6 hb5 hb6
  go_wp2
  refine bodyPost_ret (v := .agg #[strV code, .int .i64 life, .slice A3 ps.length k3, .slice A5 os.length k5]) (by rw [results_cell1 rfl]; go_simp) rfl ?_
  have hlb : w.heap.size ≤ b1 + 1 := by have := HB1.out; omega
  refine ⟨_, _, rfl, ⟨?_, ?_⟩, (((HB6.out.setCell (p := ⟨b1 + 1, 0, none⟩) hlb _).setCell (p := ⟨b1 + 1, 1, none⟩) hlb _).setCell (p := ⟨b1 + 1, 2, none⟩) hlb _).setCell (p := ⟨b1 + 1, 3, none⟩) hlb _⟩
  · exact base_less (ownsRow_setCell_below (ownsRow_setCell_below (ownsRow_setCell_below (ownsRow_setCell_below HO6.out (a := ⟨b1 + 1, 0, none⟩) hbase.2 _) (a := ⟨b1 + 1, 1, none⟩) hbase.2 _) (a := ⟨b1 + 1, 2, none⟩) hbase.2 _) (a := ⟨b1 + 1, 3, none⟩) hbase.2 _) (by have := HB1.out; have := HZ2.out; omega)
  · exact base_less (ownsRow_setCell_below (ownsRow_setCell_below (ownsRow_setCell_below (ownsRow_setCell_below HT6.out (a := ⟨b1 + 1, 0, none⟩) hbase.2 _) (a := ⟨b1 + 1, 1, none⟩) hbase.2 _) (a := ⟨b1 + 1, 2, none⟩) hbase.2 _) (a := ⟨b1 + 1, 3, none⟩) hbase.2 _) (by have := HB1.out; have := HZ2.out; omega)

/-- Rows of another kind stay, where a row grows. -/
theorem own_kinds {w w' : World} {base e size n : Nat} {v : Value} {xs : List Value} (h : w.ownsRow base e size v n xs) {base' e' size' n' : Nat} {v' : Value} {xs' : List Value} (h' : w.ownsRow base' e' size' v' n' xs') (he : e ≠ e') (hg : w.grownBy w' v'.ownBlock) : w'.ownsRow base e size v n xs := by
  refine h.kept hg ?_
  rcases h.2 with ⟨rfl, _⟩ | ⟨g, cap, cur, rfl, _, hh, _⟩
  · exact .inl rfl
  · refine .inr (fun hgg => ?_)
    rcases h'.2 with ⟨rfl, _⟩ | ⟨g', cap', cur', rfl, _, hh', _⟩
    · cases hgg
    · simp only [Value.ownBlock, Option.some.injEq] at hgg
      subst hgg
      rw [hh] at hh'
      simp only [Option.some.injEq, Obj.cells.injEq] at hh'
      exact he hh'.2.1
theorem quad_new (w : World) (a b c d : Value) (t : TypeId) : ∀ (j : Nat) (u : Value), [a, b, c, d][j]? = some u → (w.alloc (.cells #[a, b, c, d] t)).cell? ((⟨w.heap.size, 0, none⟩ : Addr).add j) = some u := by
  intro j u h
  rw [fresh_cell]
  simpa using h
theorem quad_one (c : List UInt8) (n : Int) (A A' : Option Addr) (a b a' b' : Nat) : ∀ u ∈ [strV c, Value.int .i64 n, .slice A a b, .slice A' a' b'], u.oneCell' = true := by
  intro u hu
  simp only [List.mem_cons, List.not_mem_nil, or_false] at hu
  rcases hu with rfl | rfl | rfl | rfl <;> rfl
/-- The same items, in memory of their own, their others apart. -/
def ApartO (l : List Iv) : Prop := l.Pairwise (fun x y => y.ov.ownBlock = none ∨ x.ov.ownBlock ≠ y.ov.ownBlock)
structure Copied (l m : List Iv) (base : Nat) (W : World) (v : Value) : Prop where
  its : m.map (·.it) = l.map (·.it)
  oth : m.map (·.others) = l.map (·.others)
  row : W.ownsRow base 32 4 v m.length (icells m)
  own : ∀ x ∈ m, OwnI W base x
  apart : ApartO m
theorem Copied.len {l m : List Iv} {base : Nat} {W : World} {v : Value} (h : Copied l m base W v) : m.length = l.length := by
  have := congrArg List.length h.its
  simpa using this
theorem Copied.isl {l m : List Iv} {base : Nat} {W : World} {v : Value} (h : Copied l m base W v) : ISl W W.heap.size v m := ISl.own h.row (fun x hx => (h.own x hx).sub)
theorem Copied.at_ {l m : List Iv} {base : Nat} {W W' : World} {v : Value} (h : Copied l m base W v) (hb : Go.RowKit.Below W.heap.size W W') : Copied l m base W' v := ⟨h.its, h.oth, ownAt h.row hb, fun x hx => (h.own x hx).at_ hb, h.apart⟩
theorem own_block_lt {w : World} {base e size n : Nat} {v : Value} {xs : List Value} (h : w.ownsRow base e size v n xs) {b : Nat} (hb : v.ownBlock = some b) : base ≤ b ∧ b < w.heap.size := by
  rcases h.2 with ⟨rfl, _⟩ | ⟨g, cap, cur, rfl, h1, hh, _⟩
  · cases hb
  · simp only [Value.ownBlock, Option.some.injEq] at hb
    subst hb
    exact ⟨h1, (Array.getElem?_eq_some_iff.1 hh).1⟩
/-- One more, copied at a world behind. -/
theorem Copied.snoc {l m : List Iv} {base k : Nat} {W W3 W' : World} {o o' : Obj} {v v' : Value} {x : Iv} {pv ov : Value} (h : Copied (l.take k) m base W v) (hx : l[k]? = some x) (hb3 : Go.RowKit.Below W.heap.size W W3) (hi : OwnI W3 W.heap.size ⟨x.it, x.others, pv, ov⟩) (hbase : base ≤ W.heap.size)
    (hG : ((W3.alloc o).alloc o').grownBy W' v.ownBlock) (ho : W'.ownsRow base 32 4 v' (m.length + 1) (icells m ++ encI ⟨x.it, x.others, pv, ov⟩)) : Copied (l.take (k + 1)) (m ++ [⟨x.it, x.others, pv, ov⟩]) base W' v' := by
  have hr := ((ownAt h.row hb3).alloc o).alloc o'
  have hkeep : ∀ {e size n : Nat} {u : Value} {xs : List Value} {B : Nat}, W3.ownsRow B e size u n xs → e ≠ 32 → W'.ownsRow B e size u n xs := fun hu he => own_kinds ((hu.alloc o).alloc o') hr he hG
  refine ⟨?_, ?_, ?_, fun y hy => ?_, ?_⟩
  · rw [List.take_add_one, hx, List.map_append, List.map_append, h.its]; rfl
  · rw [List.take_add_one, hx, List.map_append, List.map_append, h.oth]; rfl
  · rw [icells_append, List.length_append, List.length_singleton]
    simpa [icells] using ho
  · rcases List.mem_append.1 hy with hy | hy
    · have := (h.own y hy).at_ hb3
      exact ⟨hkeep this.parts (by decide), hkeep this.others (by decide)⟩
    · obtain rfl := List.mem_singleton.1 hy
      have := hi.less hbase
      exact ⟨hkeep this.parts (by decide), hkeep this.others (by decide)⟩
  · unfold ApartO
    rw [List.pairwise_append]
    refine ⟨h.apart, by simp, fun y hy z hz => ?_⟩
    obtain rfl := List.mem_singleton.1 hz
    cases hob : ov.ownBlock with
    | none => exact .inl rfl
    | some b =>
      refine .inr (fun e => ?_)
      have h1 := own_block_lt hi.others hob
      try rw [show (Iv.mk x.it x.others pv ov).ov.ownBlock = some b from hob] at e
      have h2 := own_block_lt (h.own y hy).others e
      omega
def CopiesTo (l : List Iv) (w : World) (e : Ending) (w' : World) : Prop := ∃ v m, e = .returned v ∧ Copied l m w.heap.size w' v ∧ Go.RowKit.Below w.heap.size w w'
set_option maxRecDepth 100000 in
set_option maxHeartbeats 2000000 in
theorem copyItems_any (v : Value) (l : List Iv) (w : World) (hv : ISl w w.heap.size v l) (hs : SizedI l) (hlen : l.length ≤ 1048576) : Calls Try.prog 22 #[v] w (CopiesTo l w) := by
  obtain ⟨i0, hi, hz0, hz1, hz2⟩ := info_parts itemI
  have H1 := Lib.hid hi
  have H2 := Lib.hid hz0
  have H3 := Lib.hid hz1
  have H4 := Lib.hid hz2
  obtain ⟨⟨A, c, rfl, hc1, hc2, hcz, hl⟩, hsub⟩ := id hv
  have HV := Lib.hid hv
  have HS : Hid (SizedI l) := Lib.hid hs
  clear hi hz0 hz1 hz2 hl hsub hv hs
  go_enter Try.func22, Try.ntmps22
  go_wp2
  go_loopw [3, 4] (fun o i wr => ∃ (k : Nat) (m : List Iv), k ≤ l.length ∧ i = .int .i64 k ∧ m.length = k ∧ Hid (Copied (l.take k) m w.heap.size wr o) ∧ Hid (Go.RowKit.Below w.heap.size w wr)) (fun _ i _ => l.length - (intOf i).toNat)
  case atStart => exact ⟨0, [], Nat.zero_le _, rfl, rfl, Lib.hid ⟨by simp, by simp, ⟨rfl, .inl ⟨rfl, rfl⟩⟩, by simp, by simp [ApartO]⟩, Lib.hid (Below.refl _ _)⟩
  case round =>
    obtain ⟨k, m, hk, rfl, hm, HC, HB⟩ := hrel
    by_cases hlt : k < l.length
    · obtain ⟨x, hx⟩ : ∃ x, l[k]? = some x := ⟨_, List.getElem?_eq_getElem hlt⟩
      have hxm := List.mem_of_getElem? hx
      have HVr := Lib.hid (HV.out.at_ HB.out)
      have HX := Lib.hid hx
      have HF := Lib.hid (HS.out _ hxm)
      have HSb := Lib.hid (HVr.out.2 _ hxm)
      obtain ⟨⟨code, life, ps⟩, os, pv, ov⟩ := x
      obtain ⟨Ap, cp, Ao, co, rfl, rfl, hcp, hcq⟩ := HSb.out.form
      obtain ⟨ad, rfl, hab, x0, x1, x2, x3⟩ := HVr.out.at_k hx
      simp only at x0 x1 x2 x3
      have hbs := HB.out.size
      clear hx hxm
      go_wp2_with (first
        | (go_at_call 47; ((with_reducible refine (copyI_any ⟨⟨code, life, ps⟩, os, .slice Ap ps.length cp, .slice Ao os.length co⟩ _ HF.out HSb.out).mono ?_); rintro e w3 ⟨pv3, ov3, rfl, hoi, hb3⟩; obtain ⟨Ap3, cp3, Ao3, co3, hp3, ho3, _, _⟩ := (hoi.sub).form; subst hp3 ho3; have HOI := Lib.hid hoi; have HB3 := Lib.hid hb3; have hbs3 := hb3.size; clear hb3 hoi x0 x1 x2 x3; have HX3 := Lib.hid (Box4.new w3 ⟨⟨code, life, ps⟩, os, .slice Ap3 ps.length cp3, .slice Ao3 os.length co3⟩); obtain ⟨e0, e1, e2, e3⟩ := HX3.out.cells; simp only at e0 e1 e2 e3; have HN := Lib.hid (quad_new (w3.alloc (.cells #[.string ⟨code.toArray⟩, .int .i64 life, .slice Ap3 ps.length cp3, .slice Ao3 os.length co3] 32)) (strV code) (.int .i64 life) (.slice Ap3 ps.length cp3) (.slice Ao3 os.length co3) 32); have HRW := Lib.hid (ownAt HC.out.row HB3.out)))
        | (at_builtin; refine wpList_append_own _ rfl _ _ 22 rfl w.heap.size 32 i0 _ 4 72 Try.underlying22 H1.out H2.out H3.out H4.out rfl (by decide) _ _ _ rfl ((HRW.out.alloc _).alloc _) ⟨w3.heap.size + 1, 0, none⟩ 1 1 [strV code, .int .i64 life, .slice Ap3 ps.length cp3, .slice Ao3 os.length co3] rfl rfl (by simpa using HN.out) (quad_one code life Ap3 Ao3 _ _ _ _) (by unfold maxLen; omega) (by omega) (by simp only [World.size_alloc]; omega) ?_; intro v' w9 hown3 hg3 _; have ho9 := Lib.hid hown3; have hG9 := Lib.hid hg3; clear hown3 hg3))
      have hb9 : Hid (Go.RowKit.Below w.heap.size w w9) := Lib.hid ((((HB.out.trans (HB3.out.mono HB.out.size)).alloc (by omega) _).alloc (by simp only [World.size_alloc]; omega) _).grown hG9.out (by simp only [World.size_alloc]; omega) (fun j hj => by have := (HC.out.row.lt j hj).1; omega))
      have hC9 := Copied.snoc HC.out HX.out HB3.out HOI.out HB.out.size hG9.out ho9.out
      have HC9 := Lib.hid hC9
      clear hC9
      go_roundw
      case rel => exact ⟨k + 1, _, by omega, by go_num, by rw [List.length_append, List.length_singleton, hm], HC9, hb9⟩
      case measure => simp [intOf]; omega
    · obtain rfl : k = l.length := by omega
      go_wp2
      go_ret
      exact ⟨_, m, rfl, by have := HC.out; rwa [List.take_of_length_le (Nat.le_refl _)] at this, HB.out⟩
end Kt
end Go.Proofs.Ytlgpambbghkffaa
end
section
/- Rows of items of one's own, with what they hold; a cell of them written. -/
namespace Go.Proofs.Ytlgpambbghkffaa
namespace Kt
open Go.ChangeShapes Go.WideShapes Go.ChangeAt Go.RowKit Go.Maps Go.Shelf
set_option linter.unusedVariables false

/-- A row of its own, with what its items hold either its own or from before. -/
structure Rowed (m : List Iv) (base : Nat) (W : World) (v : Value) : Prop where
  row : W.ownsRow base 32 4 v m.length (icells m)
  sub : ∀ x ∈ m, OwnI W base x ∨ ISub W base x
  base : base ≤ W.heap.size
theorem Rowed.isl {m : List Iv} {base : Nat} {W : World} {v : Value} (h : Rowed m base W v) : ISl W W.heap.size v m :=
  ISl.own h.row (fun x hx => (h.sub x hx).elim (fun h => h.sub) (fun h' => h'.mono h.base))
theorem Rowed.at_ {m : List Iv} {base : Nat} {W W' : World} {v : Value} (h : Rowed m base W v) (hb : Go.RowKit.Below W.heap.size W W') : Rowed m base W' v :=
  ⟨ownAt h.row hb, fun x hx => (h.sub x hx).elim (fun h => .inl (h.at_ hb)) (fun h' => .inr (h'.below ⟨hb.os, hb.tape, hb.output, hb.size, fun k hk => hb.block k (Nat.lt_of_lt_of_le hk h.base)⟩)), Nat.le_trans h.base hb.size⟩
theorem Rowed.snoc {m : List Iv} {base : Nat} {W W' : World} {v v' : Value} {x : Iv} {o : Obj} (h : Rowed m base W v) (hx : ISub W base x) (hG : (W.alloc o).grownBy W' v.ownBlock) (ho : W'.ownsRow base 32 4 v' (m.length + 1) (icells m ++ encI x)) : Rowed (m ++ [x]) base W' v' := by
  have hr := h.row.alloc o
  have hbs : base ≤ (W.alloc o).heap.size := by rw [World.size_alloc]; have := h.base; omega
  have hbel : Go.RowKit.Below base W W' := ((Below.refl base W).alloc h.base o).grown hG hbs (fun j hj => (h.row.lt j hj).1)
  refine ⟨?_, fun y hy => ?_, Nat.le_trans h.base hbel.size⟩
  · rw [icells_append, List.length_append, List.length_singleton]
    simpa [icells] using ho
  · rcases List.mem_append.1 hy with hy | hy
    · rcases h.sub y hy with h1 | h1
      · exact .inl ⟨own_kinds (h1.parts.alloc o) hr (by decide) hG, own_kinds (h1.others.alloc o) hr (by decide) hG⟩
      · exact .inr (h1.below hbel)
    · obtain rfl := List.mem_singleton.1 hy
      exact .inr (hx.below hbel)
theorem Lies.left {w : World} {B : Nat} {A : Option Addr} {xs ys : List Value} (h : Lies w B A (xs ++ ys)) : Lies w B A xs := by
  intro hne
  obtain ⟨ad, hA, hb, hc⟩ := h (by intro e; simp at e; exact hne e.1)
  refine ⟨ad, hA, hb, fun j u hu => hc j u ?_⟩
  have := (List.getElem?_eq_some_iff.1 hu).1
  rw [List.getElem?_append_left this]
  exact hu
theorem ISl.front {w : World} {B : Nat} {A : Option Addr} {n c : Nat} {m r : List Iv} (h : ISl w B (.slice A n c) (m ++ r)) : ISl w B (.slice A m.length c) m := by
  obtain ⟨⟨A', c', e, h1, h2, h3, h4⟩, h5⟩ := h
  cases e
  rw [icells_append] at h4
  rw [List.length_append] at h1
  exact ⟨⟨A, c, rfl, by omega, h2, h3, Lies.left h4⟩, fun x hx => h5 x (List.mem_append_left _ hx)⟩
theorem copied_sized {l m : List Iv} (h : m.map (·.it) = l.map (·.it)) (ho : m.map (·.others) = l.map (·.others)) (hs : SizedI l) : SizedI m := by
  intro x hx
  obtain ⟨i, hi⟩ := List.getElem?_of_mem hx
  have h1 : (l.map (·.it))[i]? = some x.it := by rw [← h, List.getElem?_map, hi]; rfl
  have h2 : (l.map (·.others))[i]? = some x.others := by rw [← ho, List.getElem?_map, hi]; rfl
  rw [List.getElem?_map] at h1 h2
  cases hl : l[i]? with
  | none => rw [hl] at h1; cases h1
  | some y =>
    rw [hl] at h1 h2
    simp only [Option.map_some, Option.some.injEq] at h1 h2
    have := hs y (List.mem_of_getElem? hl)
    unfold Iv.Fits at this ⊢
    rw [h1, h2] at this
    exact this

end Kt
end Go.Proofs.Ytlgpambbghkffaa
end
section
/- slices.Index and Contains at texts; swap.unlike, swap.row, swap.Row. -/
namespace Go.Proofs.Ytlgpambbghkffaa
namespace Kt
open Go.ChangeShapes Go.WideShapes Go.ChangeAt Go.RowKit Go.Maps Go.Shelf
set_option linter.unusedVariables false

theorem ret_intT {a b : Int} (h : a = b) : Ending.returned (.int .i64 a) = .returned (.int .i64 b) := by rw [h]
set_option maxHeartbeats 1000000 in
theorem indexT_q (s : List UInt8) (l : List (List UInt8)) (A : Option Addr) (c : Nat) (w : World) (h1 : Lies w w.heap.size A (tcells l)) (hl : l.length ≤ 1099511627776) (hlc : l.length ≤ c) (hcm : c ≤ maxLen) :
    Calls Try.prog 105 #[.slice A l.length c, .string ⟨s.toArray⟩] w fun e w' => e = .returned (.int .i64 (idxOf (fun t => decide (t = s)) l)) ∧ w' = w := by
  have H1 := Lib.hid h1
  clear h1
  obtain ⟨iv, hiv⟩ : ∃ iv, idxOf (fun t => decide (t = s)) l = iv := ⟨_, rfl⟩
  rw [hiv]
  have HIV := Lib.hid hiv
  clear hiv
  go_enter Try.func105, Try.ntmps105
  go_wp2
  go_loopw [8] (fun i wr => wr = w ∧ ∃ k : Nat, k ≤ l.length ∧ i = .int .i64 k ∧ Hid ((l.take k).any (fun t => decide (t = s)) = false)) (fun i _ => l.length - (intOf i).toNat)
  case atStart => exact ⟨rfl, 0, Nat.zero_le _, rfl, Lib.hid (by simp)⟩
  case round =>
    obtain ⟨rfl, k, hk, rfl, HTK⟩ := hrel
    by_cases hlt : k < l.length
    · obtain ⟨p, hp⟩ : ∃ p, l[k]? = some p := ⟨_, List.getElem?_eq_getElem hlt⟩
      obtain ⟨ap, rfl, _, hp0⟩ := H1.out.get (u := strV p) (j := k) (by unfold tcells; simp [hp])
      have HP := Lib.hid hp
      clear hp
      by_cases hpq : p = s
      · subst hpq
        have hh := idxOf_hit (fun t => decide (t = p)) l k p HP.out (decide_eq_true rfl) HTK.out
        rw [HIV.out] at hh
        have HH := Lib.hid hh
        clear hh
        go_wp2
        go_ret
        exact ⟨ret_intT HH.out.symm, rfl⟩
      · have hbe : (s == p) = false := beq_eq_false_iff_ne.2 (fun e => hpq e.symm)
        have HPQ := Lib.hid hpq
        clear hpq
        go_wp2
        go_roundw
        case rel => exact ⟨trivial, k + 1, by omega, by go_num, Lib.hid (any_take_succ _ HP.out HTK.out (decide_eq_false HPQ.out))⟩
        case measure => simp [intOf]; omega
    · obtain rfl : k = l.length := by omega
      have h := HTK.out
      rw [List.take_of_length_le (Nat.le_refl _)] at h
      have hh := idxOf_none _ _ h
      rw [HIV.out] at hh
      have HH := Lib.hid hh
      clear hh h
      go_wp2
      go_ret
      exact ⟨ret_intT HH.out.symm, rfl⟩
theorem any_mem (s : List UInt8) (l : List (List UInt8)) : l.any (fun t => decide (t = s)) = decide (s ∈ l) := by
  by_cases h : s ∈ l
  · rw [decide_eq_true h, List.any_eq_true]
    exact ⟨s, h, by simp⟩
  · rw [decide_eq_false h, List.any_eq_false]
    intro t ht
    have : t ≠ s := fun e => h (e ▸ ht)
    simp [this]
set_option maxHeartbeats 1000000 in
theorem containsT_q (s : List UInt8) (l : List (List UInt8)) (A : Option Addr) (c : Nat) (w : World) (h1 : Lies w w.heap.size A (tcells l)) (hl : l.length ≤ 1099511627776) (hlc : l.length ≤ c) (hcm : c ≤ maxLen) :
    Calls Try.prog 93 #[.slice A l.length c, .string ⟨s.toArray⟩] w fun e w' => e = .returned (.bool (decide (s ∈ l))) ∧ w' = w := by
  have HC := Lib.hid (indexT_q s l A c w h1 hl hlc hcm)
  have HV := Lib.hid (idxOf_any (fun t => decide (t = s)) l)
  have HM := Lib.hid (any_mem s l)
  clear h1
  obtain ⟨iv, hiv⟩ : ∃ iv, idxOf (fun t => decide (t = s)) l = iv := ⟨_, rfl⟩
  rw [hiv] at HC HV
  clear hiv
  by_cases h0 : 0 ≤ iv
  · have hd : decide (0 ≤ iv) = true := decide_eq_true h0
    go_enter Try.func93, Try.ntmps93
    go_wp2_with (go_at_call 105; ((with_reducible refine HC.out.mono ?_); rintro e w1 ⟨rfl, rfl⟩))
    go_ret
    exact ⟨Cd.ret_bool (by rw [← HM.out, ← HV.out, hd]), rfl⟩
  · have hd : decide (0 ≤ iv) = false := decide_eq_false h0
    go_enter Try.func93, Try.ntmps93
    go_wp2_with (go_at_call 105; ((with_reducible refine HC.out.mono ?_); rintro e w1 ⟨rfl, rfl⟩))
    go_ret
    exact ⟨Cd.ret_bool (by rw [← HM.out, ← HV.out, hd]), rfl⟩

theorem LiesT.front {w : World} {B : Nat} {A : Option Addr} {l : List (List UInt8)} (h : Lies w B A (tcells l)) (k : Nat) : Lies w B A (tcells (l.take k)) := by
  intro hne
  obtain ⟨ad, hA, hb, hc⟩ := h (by intro e; apply hne; have := tcells_length l; rw [e] at this; have : l = [] := List.eq_nil_of_length_eq_zero this.symm; subst this; simp [tcells])
  refine ⟨ad, hA, hb, fun j u hu => hc j u ?_⟩
  unfold tcells at hu ⊢
  rw [List.getElem?_map, List.getElem?_take] at hu
  rw [List.getElem?_map]
  split at hu
  · exact hu
  · cases hu
theorem nodup_take_succ {l : List (List UInt8)} {k : Nat} {s : List UInt8} (hs : l[k]? = some s) (h : (l.take k).Nodup) (hn : s ∉ l.take k) : (l.take (k + 1)).Nodup := by
  rw [List.take_add_one, hs]
  simp only [Option.toList]
  rw [List.nodup_append]
  exact ⟨h, by simp, fun a ha b hb => by simp at hb; subst hb; exact fun e => hn (e ▸ ha)⟩
set_option maxHeartbeats 1000000 in
theorem unlike_q (l : List (List UInt8)) (A : Option Addr) (c : Nat) (w : World) (h1 : Lies w w.heap.size A (tcells l)) (hl : l.length ≤ 1048577) (hlc : l.length ≤ c) (hcm : c ≤ maxLen) :
    Calls Try.prog 72 #[.slice A l.length c] w fun e w' => e = .returned (.bool (decide l.Nodup)) ∧ w' = w := by
  have H1 := Lib.hid h1
  clear h1
  go_enter Try.func72, Try.ntmps72
  go_wp2
  go_loopw [7] (fun i wr => wr = w ∧ ∃ k : Nat, k ≤ l.length ∧ i = .int .i64 k ∧ Hid ((l.take k).Nodup)) (fun i _ => l.length - (intOf i).toNat)
  case atStart => exact ⟨rfl, 0, Nat.zero_le _, rfl, Lib.hid (by simp)⟩
  case round =>
    obtain ⟨rfl, k, hk, rfl, HTK⟩ := hrel
    by_cases hlt : k < l.length
    · obtain ⟨p, hp⟩ : ∃ p, l[k]? = some p := ⟨_, List.getElem?_eq_getElem hlt⟩
      obtain ⟨ap, rfl, _, hp0⟩ := H1.out.get (u := strV p) (j := k) (by unfold tcells; simp [hp])
      have HP := Lib.hid hp
      have hlk : (l.take k).length = k := by rw [List.length_take]; omega
      have HC : Hid (Calls Try.prog 93 #[.slice (some ap) k c, .string ⟨p.toArray⟩] wr fun e w' => e = .returned (.bool (decide (p ∈ l.take k))) ∧ w' = wr) := Lib.hid (by
        have := containsT_q p (l.take k) (some ap) c wr (LiesT.front H1.out k) (by omega) (by omega) hcm
        rwa [hlk] at this)
      clear hp hlk
      by_cases hm : p ∈ l.take k
      · have hd : decide (p ∈ l.take k) = true := decide_eq_true hm
        have HN : Hid (¬ l.Nodup) := Lib.hid (fun h => by
          have := h.sublist (List.take_sublist (k + 1) l)
          rw [List.take_add_one, HP.out] at this
          simp only [Option.toList] at this
          rw [List.nodup_append] at this
          exact this.2.2 p hm p (by simp) rfl)
        clear hm
        go_wp2_with (go_at_call 93; ((with_reducible refine HC.out.mono ?_); rintro e w1 ⟨rfl, rfl⟩; rw [hd]))
        go_ret
        exact ⟨Cd.ret_bool (decide_eq_false HN.out).symm, rfl⟩
      · have hd : decide (p ∈ l.take k) = false := decide_eq_false hm
        have HN := Lib.hid (nodup_take_succ HP.out HTK.out hm)
        clear hm
        go_wp2_with (go_at_call 93; ((with_reducible refine HC.out.mono ?_); rintro e w1 ⟨rfl, rfl⟩; rw [hd]))
        go_roundw
        case rel => exact ⟨trivial, k + 1, by omega, by go_num, HN⟩
        case measure => simp [intOf]; omega
    · obtain rfl : k = l.length := by omega
      have h := HTK.out
      rw [List.take_of_length_le (Nat.le_refl _)] at h
      have HH := Lib.hid h
      clear h
      go_wp2
      go_ret
      exact ⟨Cd.ret_bool (decide_eq_true HH.out).symm, rfl⟩

set_option maxRecDepth 100000 in
set_option maxHeartbeats 1000000 in
/-- What row answers: a code, and others behind it, in a row of its own. -/
theorem srow_any (c : List UInt8) (os : List (List UInt8)) (v : Value) (w : World) (hv : TSl w w.heap.size v os) (hl : os.length ≤ 1048576) :
    Calls Try.prog 53 #[.string ⟨c.toArray⟩, v] w fun e w' => ∃ v', e = .returned v' ∧ w'.ownsRow w.heap.size 9 1 v' (os.length + 1) (tcells (c :: os)) ∧ Go.RowKit.Below w.heap.size w w' := by
  obtain ⟨i0, hi, hz0, hz1, hz2⟩ := info_parts txtI'
  have H1 := Lib.hid hi
  have H2 := Lib.hid hz0
  have H3 := Lib.hid hz1
  have H4 := Lib.hid hz2
  have hb0 := below_alloc1 w (.cells #[.string ⟨c.toArray⟩] 9)
  have hv1 := (hv.at_ hb0)
  obtain ⟨A, k, rfl, hc1, hc2, hcz, hl1⟩ := id hv1
  have HL : Hid (∀ a, A = some a → ∀ j u, (tcells os)[j]? = some u → (w.alloc (.cells #[.string ⟨c.toArray⟩] 9)).cell? (a.add j) = some u) := Lib.hid (fun a ha j u hu => by
    obtain ⟨ad, h1, _, h2⟩ := hl1.get hu
    rw [h1] at ha; cases ha; exact h2)
  have HCZ : Hid (A = none → os.length = 0 ∧ k = 0) := Lib.hid (fun h => by have := hcz h; omega)
  have HO : Hid ((w.alloc (.cells #[.string ⟨c.toArray⟩] 9)).ownsRow w.heap.size 9 1 (.slice (some ⟨w.heap.size, 0, none⟩) 1 1) 1 [.string ⟨c.toArray⟩]) := Lib.hid (World.ownsRow_lit (base := w.heap.size) (e := 9) (size := 1) w #[.string ⟨c.toArray⟩] 1 (Nat.le_refl _) (by simp [maxLen]) rfl)
  have HB0 := Lib.hid hb0
  clear hi hz0 hz1 hz2 hl1 hv hv1 hb0
  go_enter Try.func53, Try.ntmps53
  go_wp2_with (at_builtin; refine wpList_append_any _ rfl _ _ 30 rfl w.heap.size 9 i0 _ 1 16 Try.underlying30 H1.out H2.out H3.out H4.out rfl (by decide) _ 1 [.string ⟨c.toArray⟩] rfl HO.out A os.length k (tcells os) rfl (by rw [tcells_length, Nat.mul_one]) HCZ.out HL.out (tcells_one os) (by unfold maxLen; omega) (by omega) HB0.out.size ?_; intro v1 w1 hown1 hg1 ha1; have ho1 := Lib.hid hown1; have hG1 := Lib.hid hg1.out; clear hown1 hg1 ha1)
  go_ret
  refine ⟨v1, rfl, ?_, HB0.out.grown hG1.out HB0.out.size (fun j hj => ?_)⟩
  · have h := ho1.out
    rw [Nat.add_comm 1] at h
    exact h
  · simp [Act.eval, Value.ownBlock] at hj
    omega
end Kt
end Go.Proofs.Ytlgpambbghkffaa
end
section
/- swap.Row, swap.shaped, swap.closed, swap.Check. -/
namespace Go.Proofs.Ytlgpambbghkffaa
namespace Kt
open Go.ChangeShapes Go.WideShapes Go.ChangeAt Go.RowKit Go.Maps Go.Shelf
set_option linter.unusedVariables false

theorem enters_row : ∀ args w, (callFunc 52 args).run Try.prog w = .ok (.enter 52 args) w := enters_of Try.func52 (by kernel_rfl) rfl
theorem row_gives (c : List UInt8) (bb n₀ : Nat) (w : World) (hb : bb < n₀) (hc : w.cell? ⟨bb, 0, none⟩ = some (strV c)) :
    ∀ (x : Iv) (W : World), Go.RowKit.Below n₀ w W → (∃ Ap lp cp Ao lo co, x.pv = .slice Ap lp cp ∧ x.ov = .slice Ao lo co) →
    Calls Try.prog 52 #[.agg #[.string ⟨x.it.code.toArray⟩, .int .i64 x.it.life, x.pv, x.ov], .pointer (some ⟨bb, 0, none⟩)] W fun e w' => e = .returned (.bool (decide (x.it.code = c))) ∧ Go.RowKit.Below W.heap.size W w' := by
  intro x W hW hform
  obtain ⟨⟨code, life, ps⟩, os, pv, ov⟩ := x
  simp only at hform
  obtain ⟨Ap, lp, cp, Ao, lo, co, rfl, rfl⟩ := hform
  have hb0 : Go.RowKit.Below W.heap.size W (W.alloc (.cells #[.string ⟨code.toArray⟩, .int .i64 life, .slice Ap lp cp, .slice Ao lo co] 32)) := below_alloc1 _ _
  have hcW : W.cell? ⟨bb, 0, none⟩ = some (strV c) := (hW.cell (p := ⟨bb, 0, none⟩) hb).trans hc
  have hbW : bb < W.heap.size := by
    have := cell_lt hcW
    exact this
  have hcA : (W.alloc (.cells #[.string ⟨code.toArray⟩, .int .i64 life, .slice Ap lp cp, .slice Ao lo co] 32)).cell? ⟨bb, 0, none⟩ = some (strV c) := (hb0.cell (p := ⟨bb, 0, none⟩) hbW).trans hcW
  clear hW hc hcW
  show Calls Try.prog 52 #[.agg #[.string ⟨code.toArray⟩, .int .i64 life, .slice Ap lp cp, .slice Ao lo co], .pointer (some ⟨bb, 0, none⟩)] W fun e w' => e = .returned (.bool (decide (code = c))) ∧ _
  by_cases h8 : code = c
  · subst h8
    go_enter Try.func52, Try.ntmps52
    go_wp2
    go_ret
    exact ⟨Cd.ret_bool (by simp), hb0⟩
  · have hbe : (code == c) = false := beq_eq_false_iff_ne.2 h8
    have H8 := Lib.hid h8
    clear h8
    go_enter Try.func52, Try.ntmps52
    go_wp2
    go_ret
    exact ⟨Cd.ret_bool (by rw [decide_eq_false H8.out]), hb0⟩

/-- What may stand for an item. -/
def rowS (l : List Iv) (c : List UInt8) : List (List UInt8) := match firstC l c with
  | some x => c :: x.others
  | none => []
theorem idx_first {l : List Iv} {c : List UInt8} : (firstC l c = none ∧ idxOf (fun x : Iv => decide (x.it.code = c)) l = -1) ∨ ∃ (k : Nat) (x : Iv), firstC l c = some x ∧ l[k]? = some x ∧ x.it.code = c ∧ idxOf (fun x : Iv => decide (x.it.code = c)) l = k := by
  cases hf : firstC l c with
  | none =>
    refine .inl ⟨rfl, idxOf_none _ _ ?_⟩
    unfold firstC at hf
    rw [List.find?_eq_none] at hf
    rw [List.any_eq_false]
    exact fun x hx => by simpa using hf x hx
  | some x =>
    refine .inr ?_
    unfold firstC at hf
    obtain ⟨h1, a, b, rfl, hn⟩ := List.find?_eq_some_iff_append.1 hf
    have hl : (a ++ x :: b)[a.length]? = some x := by rw [List.getElem?_append_right (Nat.le_refl _)]; simp
    refine ⟨a.length, x, rfl, hl, by simpa using h1, idxOf_hit _ _ _ _ hl h1 ?_⟩
    rw [List.take_left']
    · rw [List.any_eq_false]
      exact fun y hy => by simpa using hn y hy
    · rfl
def SRowTo (l : List Iv) (c : List UInt8) (w : World) (e : Ending) (w' : World) : Prop := ∃ v, e = .returned v ∧ w'.ownsRow w.heap.size 9 1 v (rowS l c).length (tcells (rowS l c)) ∧ Go.RowKit.Below w.heap.size w w'
set_option maxRecDepth 100000 in
set_option maxHeartbeats 2000000 in
theorem sRow_any (v : Value) (l : List Iv) (c : List UInt8) (w : World) (hv : ISl w w.heap.size v l) (hs : SizedI l) (hlen : l.length ≤ 1048576) :
    Calls Try.prog 26 #[v, .string ⟨c.toArray⟩] w (SRowTo l c w) := by
  obtain ⟨⟨A, k0, rfl, hc1, hc2, hcz, _⟩, _⟩ := id hv
  have HV := Lib.hid hv
  have HS : Hid (SizedI l) := Lib.hid hs
  clear hv hs
  have hb0 := below_alloc1 w (.cells #[.string ⟨c.toArray⟩] 9)
  have HV1 := Lib.hid (HV.out.at_ hb0)
  have HB0 := Lib.hid hb0
  have hcell : (w.alloc (.cells #[.string ⟨c.toArray⟩] 9)).cell? ⟨w.heap.size, 0, none⟩ = some (strV c) := by
    have := fresh_cell w #[.string ⟨c.toArray⟩] 9 0
    rwa [addr0] at this
  have HCE := Lib.hid hcell
  clear hb0 hcell
  go_enter Try.func26, Try.ntmps26
  go_wp2_with (go_at_call 51; fail)
  refine (indexI_any 52 _ enters_row (fun x => decide (x.it.code = c)) _ l _ _ (Nat.le_refl _) (by omega) HV1.out (fun x W hx hW => ?_)).mono ?_
  · have hxs := (HV1.out.2 x hx)
    obtain ⟨⟨code, life, ps⟩, os, pv, ov⟩ := x
    obtain ⟨Ap, cp, Ao, co, rfl, rfl, _, _⟩ := hxs.form
    exact row_gives c w.heap.size _ _ (by simp) HCE.out _ W hW ⟨_, _, _, _, _, _, rfl, rfl⟩
  rintro e w1 ⟨rfl, hb1⟩
  have HB1 := Lib.hid (HB0.out.trans (hb1.mono HB0.out.size))
  have HV2 := Lib.hid (HV1.out.at_ hb1)
  have hce := (hb1.cell (p := ⟨w.heap.size, 0, none⟩) (by simp)).trans HCE.out
  have hbx : w.heap.size < w1.heap.size := by have := hb1.size; simp at this; omega
  clear hb1
  rcases idx_first (l := l) (c := c) with ⟨hf, hi⟩ | ⟨k, x, hf, hx, hxc, hi⟩
  · rw [hi]
    have hr : Hid (rowS l c = []) := Lib.hid (by unfold rowS; rw [hf])
    clear hf hi
    go_wp2
    go_ret
    refine ⟨_, rfl, ?_, HB1.out⟩
    rw [hr.out]
    exact ⟨rfl, .inl ⟨rfl, rfl⟩⟩
  · rw [hi]
    have hr : Hid (rowS l c = c :: x.others) := Lib.hid (by unfold rowS; rw [hf])
    have hkl := (List.getElem?_eq_some_iff.1 hx).1
    have hxm := List.mem_of_getElem? hx
    have hol := (HS.out x hxm).2.2.2.2.2
    have HT := Lib.hid (HV2.out.2 x hxm).others
    obtain ⟨ad, rfl, hab, x0, x1, x2, x3⟩ := ISl.at_k HV2.out hx
    have hk0 : decide ((k : Int) < 0) = false := decide_eq_false (by omega)
    have HSR : Hid (∀ W, Go.RowKit.Below w1.heap.size w1 W → Calls Try.prog 53 #[.string ⟨c.toArray⟩, x.ov] W fun e w' => ∃ v', e = .returned v' ∧ w'.ownsRow W.heap.size 9 1 v' (x.others.length + 1) (tcells (c :: x.others)) ∧ Go.RowKit.Below W.heap.size W w') := Lib.hid (fun W hW => srow_any c x.others x.ov W (HT.out.at_ hW) hol)
    have HWR := Lib.hid (Below.refl w1.heap.size w1)
    clear hf hi hx hxm
    go_upto_region 4 with (fail)
    go_region_held3 (fun w' => w'.cell? ⟨w.heap.size, 0, none⟩ = some (strV c) ∧ w'.cell? ⟨(ad.add (k * 4)).block, (ad.add (k * 4)).off + 3, none⟩ = some x.ov) (go_keep)
      (first
        | (go_at_call 53; ((with_reducible refine (HSR.out _ HWR.out.drew).mono ?_); rintro e w2 ⟨v2, rfl, ho2, hb2⟩; have hk1 := (hb2.cell (p := ⟨w.heap.size, 0, none⟩) hbx).trans hce; have hk2 := (hb2.cell (p := ⟨(ad.add (k * 4)).block, (ad.add (k * 4)).off + 3, none⟩) (by show (ad.add (k * 4)).block < _; rw [addr_block]; exact hab)).trans x3)))
    go_wp2
    go_ret
    refine ⟨_, rfl, ?_, HB1.out.trans ((HWR.out.drew.trans hb2).mono HB1.out.size)⟩
    rw [hr.out]
    exact base_less ho2 HB1.out.size
end Kt
end Go.Proofs.Ytlgpambbghkffaa
end
section
/- swap.shaped, swap.closed, swap.Check. -/
namespace Go.Proofs.Ytlgpambbghkffaa
namespace Kt
open Go.ChangeShapes Go.WideShapes Go.ChangeAt Go.RowKit Go.Maps Go.Shelf
set_option linter.unusedVariables false

theorem unlike_n (l : List (List UInt8)) (n : Nat) (A : Option Addr) (c : Nat) (w : World) (hn : l.length = n) (h1 : Lies w w.heap.size A (tcells l)) (hl : n ≤ 1048577) (hlc : n ≤ c) (hcm : c ≤ maxLen) :
    Calls Try.prog 72 #[.slice A n c] w fun e w' => e = .returned (.bool (decide l.Nodup)) ∧ w' = w := by
  subst hn
  exact unlike_q l A c w h1 hl hlc hcm
def othB (x : Iv) : Bool := decide (x.others.length ≤ 4) && decide ((x.it.code :: x.others).Nodup)
theorem all_take_succ {α : Type} (p : α → Bool) {l : List α} {k : Nat} {x : α} (h : l[k]? = some x) (h0 : (l.take k).all p = true) (hx : p x = true) : (l.take (k + 1)).all p = true := by
  rw [List.take_add_one, h, List.all_append, h0]; simp [hx]
theorem all_hit {α : Type} (p : α → Bool) {l : List α} {k : Nat} {x : α} (h : l[k]? = some x) (hx : p x = false) : l.all p = false := by
  rw [List.all_eq_false]
  exact ⟨x, List.mem_of_getElem? h, by rw [hx]; simp⟩
set_option maxRecDepth 100000 in
set_option maxHeartbeats 2000000 in
theorem shapedS_any (v : Value) (l : List Iv) (w : World) (hv : ISl w w.heap.size v l) (hs : SizedI l) (hlen : l.length ≤ 1048576) :
    Calls Try.prog 49 #[v] w fun e w' => e = .returned (.bool (l.all othB)) ∧ Go.RowKit.Below w.heap.size w w' := by
  obtain ⟨⟨A, c, rfl, hc1, hc2, hcz, _⟩, _⟩ := id hv
  have HV := Lib.hid hv
  have HS : Hid (SizedI l) := Lib.hid hs
  clear hv hs
  go_enter Try.func49, Try.ntmps49
  go_wp2
  go_loopw [7] (fun i wr => ∃ k : Nat, k ≤ l.length ∧ i = .int .i64 k ∧ Hid ((l.take k).all othB = true) ∧ Hid (Go.RowKit.Below w.heap.size w wr)) (fun i _ => l.length - (intOf i).toNat)
  case atStart => exact ⟨0, Nat.zero_le _, rfl, Lib.hid (by simp), Lib.hid (Below.refl _ _)⟩
  case round =>
    obtain ⟨k, hk, rfl, HA, HB⟩ := hrel
    by_cases hlt : k < l.length
    · obtain ⟨x, hx⟩ : ∃ x, l[k]? = some x := ⟨_, List.getElem?_eq_getElem hlt⟩
      have hxm := List.mem_of_getElem? hx
      have HVr := Lib.hid (HV.out.at_ HB.out)
      have HX := Lib.hid hx
      have HSb := Lib.hid (HVr.out.2 _ hxm)
      have hol := (HS.out x hxm).2.2.2.2.2
      obtain ⟨⟨code, life, ps⟩, os, pv, ov⟩ := x
      obtain ⟨Ap, cp, Ao, co, rfl, rfl, hcp, hcq⟩ := HSb.out.form
      obtain ⟨ad, rfl, hab, x0, x1, x2, x3⟩ := ISl.at_k HVr.out hx
      simp only at x0 x1 x2 x3 hol
      have HBX := Lib.hid (Box4.new wr ⟨⟨code, life, ps⟩, os, .slice Ap ps.length cp, .slice Ao os.length co⟩)
      obtain ⟨e0, e1, e2, e3⟩ := HBX.out.cells
      simp only at e0 e1 e2 e3
      have hb1 := below_alloc1 wr (.cells #[.string ⟨code.toArray⟩, .int .i64 life, .slice Ap ps.length cp, .slice Ao os.length co] 32)
      have HT1 := Lib.hid (HSb.out.others.at_ hb1)
      have HB1 := Lib.hid (below_two HB.out hb1)
      have hoe : othB ⟨⟨code, life, ps⟩, os, .slice Ap ps.length cp, .slice Ao os.length co⟩ = (decide (os.length ≤ 4) && decide ((code :: os).Nodup)) := rfl
      have HOE := Lib.hid hoe
      clear hx hxm hb1 hoe
      by_cases h4 : 4 < os.length
      · have hd : decide ((4 : Int) < (os.length : Int)) = true := decide_eq_true (by omega)
        have hd' : decide (4 < os.length) = true := decide_eq_true h4
        have HN : Hid (l.all othB = false) := Lib.hid (all_hit _ HX.out (by rw [HOE.out, decide_eq_false (by omega : ¬ os.length ≤ 4)]; rfl))
        go_wp2
        go_ret
        exact ⟨Cd.ret_bool HN.out.symm, HB1.out⟩
      · have hd : decide ((4 : Int) < (os.length : Int)) = false := decide_eq_false (by omega)
        have hd' : decide (4 < os.length) = false := decide_eq_false h4
        have hd4 : decide (os.length ≤ 4) = true := decide_eq_true (by omega)
        obtain ⟨nb, hnb⟩ : ∃ nb, decide ((code :: os).Nodup) = nb := ⟨_, rfl⟩
        have HNB := Lib.hid hnb
        clear hnb
        cases nb
        · have HN : Hid (l.all othB = false) := Lib.hid (all_hit _ HX.out (by rw [HOE.out, hd4, HNB.out]; rfl))
          go_wp2_with (first
            | (go_at_call 53; ((with_reducible refine (srow_any code os _ _ HT1.out hol).mono ?_); rintro e w2 ⟨v2, rfl, ho2, hb2⟩; obtain ⟨A2, c2, rfl, hq1, hq2, _⟩ := own_form ho2; have HO2 := Lib.hid (Lies.own ho2); have HB2 := Lib.hid (below_two HB1.out hb2); clear ho2 hb2))
            | (go_at_call 72; ((with_reducible refine (unlike_n (code :: os) _ A2 c2 _ (List.length_cons) HO2.out (by omega) hq1 hq2).mono ?_); rintro e w3 ⟨rfl, rfl⟩; rw [HNB.out])))
          go_ret
          exact ⟨Cd.ret_bool HN.out.symm, HB2.out⟩
        · have HN := Lib.hid (all_take_succ othB HX.out HA.out (by rw [HOE.out, hd4, HNB.out]; rfl))
          go_wp2_with (first
            | (go_at_call 53; ((with_reducible refine (srow_any code os _ _ HT1.out hol).mono ?_); rintro e w2 ⟨v2, rfl, ho2, hb2⟩; obtain ⟨A2, c2, rfl, hq1, hq2, _⟩ := own_form ho2; have HO2 := Lib.hid (Lies.own ho2); have HB2 := Lib.hid (below_two HB1.out hb2); clear ho2 hb2))
            | (go_at_call 72; ((with_reducible refine (unlike_n (code :: os) _ A2 c2 _ (List.length_cons) HO2.out (by omega) hq1 hq2).mono ?_); rintro e w3 ⟨rfl, rfl⟩; rw [HNB.out])))
          go_roundw
          case rel => exact ⟨k + 1, by omega, by go_num, HN, HB2⟩
          case measure => simp [intOf]; omega
    · obtain rfl : k = l.length := by omega
      have h := HA.out
      rw [List.take_of_length_le (Nat.le_refl _)] at h
      have HH := Lib.hid h
      clear h
      go_wp2
      go_ret
      exact ⟨Cd.ret_bool HH.out.symm, HB.out⟩

/-! ### closed -/
abbrev zU : Value := .agg #[]
def codesI (l : List Iv) : List (List UInt8) := l.map (·.it.code)
def thereB (l : List Iv) (x : Iv) : Bool := x.others.all (fun s => decide (s ∈ codesI l))
set_option maxRecDepth 100000 in
set_option maxHeartbeats 2000000 in
theorem closedS_any (v : Value) (l : List Iv) (w : World) (hv : ISl w w.heap.size v l) (hs : SizedI l) (hlen : l.length ≤ 1048576) :
    Calls Try.prog 50 #[v] w fun e w' => e = .returned (.bool (l.all (thereB l))) ∧ Go.RowKit.Below w.heap.size w w' := by
  obtain ⟨⟨A, c, rfl, hc1, hc2, hcz, _⟩, _⟩ := id hv
  have hmm := @run_makeMap Try.prog
  have HV := Lib.hid hv
  have HS : Hid (SizedI l) := Lib.hid hs
  clear hv hs
  go_enter Try.func50, Try.ntmps50
  go_wp2
  clear hmm
  go_loopw [15] (fun i wr => ∃ k : Nat, k ≤ l.length ∧ i = .int .i64 k ∧ Hid (SMap zU wr w.heap.size k (fun c => zU) (fun c => c ∈ codesI (l.take k))) ∧ Hid (Go.RowKit.Below w.heap.size w wr) ∧ w.heap.size < wr.heap.size) (fun i _ => l.length - (intOf i).toNat)
  case atStart => exact ⟨0, Nat.zero_le _, rfl, Lib.hid ((mapOf_made (fun s : List UInt8 => Lit.string s) Try.prog 9 zU w).congr (fun c => rfl) (fun c => by simp [codesI])), Lib.hid (below_alloc1 _ _), by simp⟩
  case round =>
    obtain ⟨k, hk, rfl, HM, HB, hz⟩ := hrel
    by_cases hlt : k < l.length
    · obtain ⟨x, hx⟩ : ∃ x, l[k]? = some x := ⟨_, List.getElem?_eq_getElem hlt⟩
      have hxm := List.mem_of_getElem? hx
      have HX := Lib.hid hx
      have HVr := Lib.hid (HV.out.at_ HB.out)
      have hcs : x.it.code.length ≤ maxLen := (HS.out _ hxm).1
      obtain ⟨⟨code, life, ps⟩, os, pv, ov⟩ := x
      obtain ⟨Ap, cp, Ao, co, rfl, rfl, hcp, hcq⟩ := (HVr.out.2 _ hxm).form
      obtain ⟨ad, rfl, hab, x0, x1, x2, x3⟩ := ISl.at_k HVr.out hx
      simp only at x0 x1 x2 x3 hcs
      have HBX := Lib.hid (Box4.new wr ⟨⟨code, life, ps⟩, os, .slice Ap ps.length cp, .slice Ao os.length co⟩)
      obtain ⟨e0, e1, e2, e3⟩ := HBX.out.cells
      simp only at e0 e1 e2 e3
      clear hx hxm
      go_wp2_with (at_mapUpdate; refine wpList_put _ rfl _ _ _ 95 rfl 9 96 strKeyLits skeyed Try.underlying95 zU w.heap.size k _ _ rfl (HM.out.alloc _) (by unfold maxLen; omega) _ _ code rfl rfl (skey_of code hcs) ?_; intro w2 hown2' hg2')
      have hown2 := Lib.hid (hown2'.congr (f' := fun _ => zU) (S' := fun c => c ∈ codesI (l.take (k + 1))) (fun c => by unfold updK; split <;> rfl) (fun c => by unfold codesI; rw [List.take_add_one, HX.out]; simp [or_comm, eq_comm]))
      have hg2 := Lib.hid hg2'
      clear hown2' hg2'
      have hb2 : Hid (Go.RowKit.Below w.heap.size w w2) := Lib.hid ((HB.out.alloc HB.out.size _).grown hg2.out (by simp only [World.size_alloc]; omega) (fun j hj => by cases hj; exact Nat.le_refl _))
      have hz2 := hg2.out.size
      simp only [World.size_alloc] at hz2
      go_roundw
      case rel => exact ⟨k + 1, by omega, by go_num, hown2, hb2, by omega⟩
      case measure => simp [intOf]; omega
    · obtain rfl : k = l.length := by omega
      have hm := HM.out
      rw [List.take_of_length_le (Nat.le_refl _)] at hm
      obtain ⟨wo, hwo⟩ : ∃ W : World, W = wr := ⟨_, rfl⟩
      rw [← hwo] at hm HB hz ⊢
      clear hwo HM
      have HM := Lib.hid hm
      clear hm
      have hlk : ∀ (s : List UInt8) (W : World), s.length ≤ maxLen → Go.RowKit.Below wo.heap.size wo W → (Instr.lookup 95 (.map (some w.heap.size)) (.string ⟨s.toArray⟩) true).run Try.prog W = .ok (.tuple #[zU, .bool (decide (s ∈ codesI l))]) W := fun s W hs hW =>
        (HM.out.at_block (hW.block _ hz)).look2 skeyed Try.underlying95 (by kernel_rfl) (skey_of s hs) (by simp)
      have HLK := Lib.hid hlk
      clear hlk
      go_wp2
      go_loopw [26] (fun i wr => ∃ k : Nat, k ≤ l.length ∧ i = .int .i64 k ∧ Hid ((l.take k).all (thereB l) = true) ∧ Hid (Go.RowKit.Below wo.heap.size wo wr)) (fun i _ => l.length - (intOf i).toNat)
      case atStart => exact ⟨0, Nat.zero_le _, rfl, Lib.hid (by simp), Lib.hid (Below.refl _ _)⟩
      case round =>
        obtain ⟨k, hk, rfl, HA, HBk⟩ := hrel
        by_cases hlt : k < l.length
        · obtain ⟨x, hx⟩ : ∃ x, l[k]? = some x := ⟨_, List.getElem?_eq_getElem hlt⟩
          have hxm := List.mem_of_getElem? hx
          have HX := Lib.hid hx
          have HB2 := Lib.hid (HB.out.trans (HBk.out.mono HB.out.size))
          have HVr := Lib.hid (HV.out.at_ HB2.out)
          have hol := (HS.out x hxm).2.2.2.2.2
          have HOL := Lib.hid (HS.out x hxm).2.2.2.1
          have HSb := Lib.hid (HVr.out.2 _ hxm)
          obtain ⟨⟨code, life, ps⟩, os, pv, ov⟩ := x
          obtain ⟨Ap, cp, Ao, co, rfl, rfl, hcp, hcq⟩ := HSb.out.form
          obtain ⟨ad, rfl, hab, x0, x1, x2, x3⟩ := ISl.at_k HVr.out hx
          simp only at x0 x1 x2 x3 hol
          have HBX := Lib.hid (Box4.new wr ⟨⟨code, life, ps⟩, os, .slice Ap ps.length cp, .slice Ao os.length co⟩)
          obtain ⟨e0, e1, e2, e3⟩ := HBX.out.cells
          simp only at e0 e1 e2 e3
          have hb1 := below_alloc1 wr (.cells #[.string ⟨code.toArray⟩, .int .i64 life, .slice Ap ps.length cp, .slice Ao os.length co] 32)
          have HT1 := Lib.hid (HSb.out.others.at_ hb1)
          have HB1 := Lib.hid (HBk.out.trans (hb1.mono HBk.out.size))
          obtain ⟨W1, hW1⟩ : ∃ W, W = wr.alloc (.cells #[.string ⟨code.toArray⟩, .int .i64 life, .slice Ap ps.length cp, .slice Ao os.length co] 32) := ⟨_, rfl⟩
          rw [← hW1] at HT1 HB1 e3
          have HW1 := Lib.hid hW1
          clear hx hxm hb1 hW1 e0 e1 e2
          go_upto_region 10 with (fail)
          try rw [← HW1.out]
          go_wp2
          go_loopw [33] (fun i wr => ∃ m : Nat, m ≤ os.length ∧ i = .int .i64 m ∧ Hid ((os.take m).all (fun s => decide (s ∈ codesI l)) = true) ∧ Hid (Go.RowKit.Below W1.heap.size W1 wr)) (fun i _ => os.length - (intOf i).toNat)
          case atStart => exact ⟨0, Nat.zero_le _, rfl, Lib.hid (by simp), Lib.hid (Below.refl _ _)⟩
          case round =>
            obtain ⟨m, hm, rfl, HAm, HBm⟩ := hrel
            have HBo := Lib.hid (HB1.out.trans (HBm.out.mono HB1.out.size))
            by_cases hmt : m < os.length
            · obtain ⟨s, hs⟩ : ∃ s, os[m]? = some s := ⟨_, List.getElem?_eq_getElem hmt⟩
              obtain ⟨ao, rfl, _, t0⟩ := TSl.at_k (HT1.out.at_ HBm.out) hs
              have hsl : s.length ≤ maxLen := HOL.out s (List.mem_of_getElem? hs)
              have HSS := Lib.hid hs
              have hlk := HLK.out s _ hsl HBo.out
              obtain ⟨tb, htb⟩ : ∃ tb, decide (s ∈ codesI l) = tb := ⟨_, rfl⟩
              rw [htb] at hlk
              have HTB := Lib.hid htb
              clear hs htb
              cases tb
              · have HN : Hid (l.all (thereB l) = false) := Lib.hid (all_hit _ HX.out (all_hit _ HSS.out HTB.out))
                go_wp2
                go_ret
                exact ⟨Cd.ret_bool HN.out.symm, HB.out.trans ((HBo.out.alloc HBo.out.size _).mono HB.out.size)⟩
              · have HN := Lib.hid (all_take_succ _ HSS.out HAm.out HTB.out)
                go_wp2
                go_roundw
                case rel => exact ⟨m + 1, by omega, by go_num, HN, Lib.hid (HBm.out.alloc HBm.out.size _)⟩
                case measure => simp [intOf]; omega
            · obtain rfl : m = os.length := by omega
              have h := HAm.out
              rw [List.take_of_length_le (Nat.le_refl _)] at h
              have HN := Lib.hid (all_take_succ (thereB l) HX.out HA.out h)
              clear h
              go_wp2
              go_roundw
              case rel => exact ⟨k + 1, by omega, by go_num, HN, HBo⟩
              case measure => simp [intOf]; omega
        · obtain rfl : k = l.length := by omega
          have h := HA.out
          rw [List.take_of_length_le (Nat.le_refl _)] at h
          have HH := Lib.hid h
          clear h
          go_wp2
          go_ret
          exact ⟨Cd.ret_bool HH.out.symm, HB.out.trans (HBk.out.mono HB.out.size)⟩
/-- What is wrong with items, or with what may stand for them. -/
def checkS (l : List Iv) : Int := if checkM (l.map (·.it)) ≠ 0 then checkM (l.map (·.it)) else if l.all othB = false then 4 else if l.all (thereB l) = false then 150 else 0
set_option maxHeartbeats 1000000 in
theorem checkS_any (v : Value) (l : List Iv) (w : World) (hv : ISl w w.heap.size v l) (hs : SizedI l) (hlen : l.length ≤ 1048576) :
    Calls Try.prog 25 #[v] w fun e w' => e = .returned (.int .i64 (checkS l)) ∧ Go.RowKit.Below w.heap.size w w' := by
  obtain ⟨⟨A, c, rfl, hc1, hc2, hcz, _⟩, _⟩ := id hv
  have HV := Lib.hid hv
  have HS : Hid (SizedI l) := Lib.hid hs
  clear hv hs
  obtain ⟨cm, hcm⟩ : ∃ cm, checkM (l.map (·.it)) = cm := ⟨_, rfl⟩
  obtain ⟨sb, hsb⟩ : ∃ sb, l.all othB = sb := ⟨_, rfl⟩
  obtain ⟨tb, htb⟩ : ∃ tb, l.all (thereB l) = tb := ⟨_, rfl⟩
  have hck : checkS l = if cm ≠ 0 then cm else if sb = false then 4 else if tb = false then 150 else 0 := by unfold checkS; rw [hcm, hsb, htb]
  have HCK := Lib.hid hck
  have HCM := Lib.hid hcm
  have HSB := Lib.hid hsb
  have HTB := Lib.hid htb
  clear hck hcm hsb htb
  by_cases h0 : cm = 0
  · subst h0
    cases sb
    · go_enter Try.func25, Try.ntmps25
      go_wp2_with (first
        | (go_at_call 10; ((with_reducible refine (check_any _ l _ HV.out HS.out hlen).mono ?_); rintro e w1 ⟨rfl, hb1⟩; rw [HCM.out]; have HV1 := Lib.hid (HV.out.at_ hb1); have HB1 := Lib.hid hb1; clear hb1))
        | (go_at_call 49; ((with_reducible refine (shapedS_any _ l _ HV1.out HS.out hlen).mono ?_); rintro e w2 ⟨rfl, hb2⟩; rw [HSB.out]; have HB2 := Lib.hid (below_two HB1.out hb2); clear hb2)))
      go_ret
      exact ⟨ret_intT (by rw [HCK.out]; rfl), HB2.out⟩
    · cases tb
      · go_enter Try.func25, Try.ntmps25
        go_wp2_with (first
          | (go_at_call 10; ((with_reducible refine (check_any _ l _ HV.out HS.out hlen).mono ?_); rintro e w1 ⟨rfl, hb1⟩; rw [HCM.out]; have HV1 := Lib.hid (HV.out.at_ hb1); have HB1 := Lib.hid hb1; clear hb1))
          | (go_at_call 49; ((with_reducible refine (shapedS_any _ l _ HV1.out HS.out hlen).mono ?_); rintro e w2 ⟨rfl, hb2⟩; rw [HSB.out]; have HV2 := Lib.hid (HV1.out.at_ hb2); have HB2 := Lib.hid (below_two HB1.out hb2); clear hb2))
          | (go_at_call 50; ((with_reducible refine (closedS_any _ l _ HV2.out HS.out hlen).mono ?_); rintro e w3 ⟨rfl, hb3⟩; rw [HTB.out]; have HB3 := Lib.hid (below_two HB2.out hb3); clear hb3)))
        go_ret
        exact ⟨ret_intT (by rw [HCK.out]; rfl), HB3.out⟩
      · go_enter Try.func25, Try.ntmps25
        go_wp2_with (first
          | (go_at_call 10; ((with_reducible refine (check_any _ l _ HV.out HS.out hlen).mono ?_); rintro e w1 ⟨rfl, hb1⟩; rw [HCM.out]; have HV1 := Lib.hid (HV.out.at_ hb1); have HB1 := Lib.hid hb1; clear hb1))
          | (go_at_call 49; ((with_reducible refine (shapedS_any _ l _ HV1.out HS.out hlen).mono ?_); rintro e w2 ⟨rfl, hb2⟩; rw [HSB.out]; have HV2 := Lib.hid (HV1.out.at_ hb2); have HB2 := Lib.hid (below_two HB1.out hb2); clear hb2))
          | (go_at_call 50; ((with_reducible refine (closedS_any _ l _ HV2.out HS.out hlen).mono ?_); rintro e w3 ⟨rfl, hb3⟩; rw [HTB.out]; have HB3 := Lib.hid (below_two HB2.out hb3); clear hb3)))
        go_ret
        exact ⟨ret_intT (by rw [HCK.out]; rfl), HB3.out⟩
  · have hz : (cm == 0) = false := beq_eq_false_iff_ne.2 h0
    have HZ := Lib.hid h0
    clear h0
    go_enter Try.func25, Try.ntmps25
    go_wp2_with (go_at_call 10; ((with_reducible refine (check_any _ l _ HV.out HS.out hlen).mono ?_); rintro e w1 ⟨rfl, hb1⟩; rw [HCM.out]; have HB1 := Lib.hid hb1; clear hb1))
    go_ret
    exact ⟨ret_intT (by rw [HCK.out, if_pos HZ.out]), HB1.out⟩
end Kt
end Go.Proofs.Ytlgpambbghkffaa
end
section
/- storemanlaw08.great, three, awake. -/
namespace Go.Proofs.Ytlgpambbghkffaa
namespace Kt
open Go.ChangeShapes Go.WideShapes Go.ChangeAt Go.RowKit Go.Maps Go.Shelf
set_option linter.unusedVariables false
/-- Others that a call can hand. -/
def BigO (l : List Iv) : Prop := ∀ x ∈ l, ∀ s ∈ x.others, s.length ≤ maxLen
theorem div20 (n : Nat) : (0 : Int) ≤ (n : Int) / 20 ∧ (n : Int) / 20 ≤ n := by omega
set_option maxHeartbeats 4000000 in
set_option maxRecDepth 100000 in
theorem great8_any (v : Value) (l : List Iv) (w : World) (hv : ISl w w.heap.size v l) (hs : BigI l) (hso : BigO l) (hlen : l.length ≤ 140737488355328) :
    Calls Try.prog 24 #[v] w (Few l w) := by
  obtain ⟨⟨A, c, rfl, hc1, hc2, hcz, hl⟩, hsub⟩ := id hv
  have HV := Lib.hid hv
  have HS : Hid (BigI l) := Lib.hid hs
  have HSO : Hid (BigO l) := Lib.hid hso
  clear hl hsub hv hs hso
  go_enter Try.func24, Try.ntmps24
  go_wp2
  go_loopw [3, 4] (fun t i wr => ∃ (k : Nat) (n : Int), k ≤ l.length ∧ i = .int .i64 k ∧ t = .int .i64 n ∧ 0 ≤ n ∧ n ≤ 6917529027641081856 ∧ Hid (Go.RowKit.Below w.heap.size w wr) ∧ Hid (n ≤ 4000 → FewI (l.take k))) (fun _ i _ => l.length - (intOf i).toNat)
  case atStart => exact ⟨0, 0, Nat.zero_le _, rfl, rfl, by omega, by omega, Lib.hid (Below.refl _ _), Lib.hid (fun _ x hx => by simp at hx)⟩
  case round =>
    obtain ⟨k, n, hk, rfl, rfl, hn0, hn1, HB, HFW⟩ := hrel
    by_cases hlt : k < l.length
    · have hd1 : decide (k < l.length) = true := decide_eq_true hlt
      by_cases hmo : n ≤ 4000
      · have hd2 : decide (n ≤ 4000) = true := decide_eq_true hmo
        obtain ⟨x, hx⟩ : ∃ x, l[k]? = some x := ⟨_, List.getElem?_eq_getElem hlt⟩
        have hxm := List.mem_of_getElem? hx
        have HVr := Lib.hid (HV.out.at_ HB.out)
        have HPL := Lib.hid (HV.out.2 _ hxm).parts
        have HOL := Lib.hid (HV.out.2 _ hxm).others
        obtain ⟨f1, f3, f5, f6⟩ := HS.out _ hxm
        have HF := Lib.hid f3
        have HFO := Lib.hid (HSO.out _ hxm)
        clear f3
        obtain ⟨⟨code, life, ps⟩, os, pv, ov⟩ := x
        obtain ⟨Ap, cp, Ao, co, rfl, rfl, hcp, hcq⟩ := (HV.out.2 _ hxm).form
        obtain ⟨ad, rfl, hab, x0, x1, x2, x3⟩ := ISl.at_k HVr.out hx
        simp only at f1 f5 f6 x0 x1 x2 x3 hcp hcq HPL HOL HF HFO
        have HXX := Lib.hid hx
        clear hx hxm
        have hss : (ByteArray.mk code.toArray).size = code.length := str_size f1
        unfold maxLen at f1
        go_wp2
        go_quiet (fail)
        go_wp2
        obtain ⟨wq, hwq⟩ : ∃ wq, wr.drewN nq = wq := ⟨_, rfl⟩
        rw [hwq]
        have HBQ : Hid (Go.RowKit.Below w.heap.size w wq) := Lib.hid (by rw [← hwq]; exact below_draws HB.out _)
        clear hwq x0 x1 x2 x3
        obtain ⟨nz, hnz⟩ : ∃ nz : Int, n + 1 + (code.length : Int) / 20 + ps.length + os.length = nz := ⟨_, rfl⟩
        have hz0 : 0 ≤ nz := by omega
        have HFN : Hid (nz ≤ 4000 → FewI (l.take (k + 1))) := Lib.hid (few_succ HXX.out (fun h => HFW.out (by omega)) (by simp only; omega))
        have hz1 : nz ≤ 6917529027641081856 := by omega
        go_loopw [3, 5] (fun t i wr => ∃ (j : Nat) (n : Int), j ≤ ps.length ∧ i = .int .i64 j ∧ t = .int .i64 n ∧ nz ≤ n ∧ n ≤ 6917529027641081856 ∧ Hid (Go.RowKit.Below w.heap.size w wr)) (fun _ i _ => ps.length - (intOf i).toNat)
        case atStart => exact ⟨0, nz, Nat.zero_le _, rfl, by rw [← hnz], Int.le_refl _, hz1, HBQ⟩
        case round =>
          clear HBQ
          obtain ⟨j, m, hj, rfl, rfl, hm0, hm1, HBJ⟩ := hrel
          obtain ⟨_, hae, _, y0, y1, y2, y3⟩ := ISl.at_k (HV.out.at_ HBJ.out) HXX.out
          cases hae
          simp only at y0 y1 y2 y3
          go_upto_region 7 with (fail)
          go_cut [52] (fun v wx => v = .bool (decide (j < ps.length) && decide (m ≤ 4000)) ∧ wx = wr)
          case first =>
            by_cases hjt : j < ps.length
            · have s1 : decide (j < ps.length) = true := decide_eq_true hjt
              go_wp2
              go_meet
              exact ⟨by rw [s1]; rfl, rfl⟩
            · have s1 : decide (j < ps.length) = false := decide_eq_false hjt
              go_wp2
              go_meet
              exact ⟨by rw [s1]; rfl, rfl⟩
          case rest =>
            obtain ⟨rfl, hwx⟩ := hcut
            rw [hwx]
            clear hwx
            by_cases hc : j < ps.length ∧ m ≤ 4000
            · obtain ⟨hjt, hmm⟩ := hc
              rw [decide_eq_true hjt, decide_eq_true hmm, Bool.true_and]
              obtain ⟨p, hp⟩ : ∃ p, ps[j]? = some p := ⟨_, List.getElem?_eq_getElem hjt⟩
              obtain ⟨ap, rfl, hapb, z0, z1⟩ := PSl.at_k (PSl_at HPL.out HBJ.out) hp
              have hpl1 := (HF.out p (List.mem_of_getElem? hp)).1
              have hps : (ByteArray.mk p.1.toArray).size = p.1.length := str_size hpl1
              unfold maxLen at hpl1
              clear hp
              go_wp2
              go_roundw
              case rel => exact ⟨j + 1, m + (p.1.length : Int) / 20, by omega, by go_num, rfl, by omega, by omega, HBJ⟩
              case measure => simp [intOf]; omega
            · have hcf : (decide (j < ps.length) && decide (m ≤ 4000)) = false := by
                rcases Decidable.not_and_iff_or_not.1 hc with h | h
                · rw [decide_eq_false h]; rfl
                · rw [decide_eq_false h, Bool.and_false]
              rw [hcf]
              clear hcf hc
              obtain ⟨wo, hwo⟩ : ∃ W : World, W = wr := ⟨_, rfl⟩
              rw [← hwo] at HBJ ⊢
              clear hwo y0 y1 y2 y3
              obtain ⟨ny, hny⟩ : ∃ ny : Int, m = ny := ⟨_, rfl⟩
              go_wp2
              go_loopw [3, 6] (fun t i wr => ∃ (j : Nat) (n : Int), j ≤ os.length ∧ i = .int .i64 j ∧ t = .int .i64 n ∧ nz ≤ n ∧ n ≤ 6917529027641081856 ∧ Hid (Go.RowKit.Below w.heap.size w wr)) (fun _ i _ => os.length - (intOf i).toNat)
              case atStart => exact ⟨0, m, Nat.zero_le _, rfl, rfl, hm0, hm1, HBJ⟩
              case round =>
                clear HBJ
                obtain ⟨i, t, hi, rfl, rfl, ht0, ht1, HBI⟩ := hrel
                obtain ⟨_, hae, _, y0, y1, y2, y3⟩ := ISl.at_k (HV.out.at_ HBI.out) HXX.out
                cases hae
                simp only at y0 y1 y2 y3
                go_upto_region 11 with (fail)
                go_cut [79] (fun v wx => v = .bool (decide (i < os.length) && decide (t ≤ 4000)) ∧ wx = wr)
                case first =>
                  by_cases hjt : i < os.length
                  · have s1 : decide (i < os.length) = true := decide_eq_true hjt
                    go_wp2
                    go_meet
                    exact ⟨by rw [s1]; rfl, rfl⟩
                  · have s1 : decide (i < os.length) = false := decide_eq_false hjt
                    go_wp2
                    go_meet
                    exact ⟨by rw [s1]; rfl, rfl⟩
                case rest =>
                  obtain ⟨rfl, hwx⟩ := hcut
                  rw [hwx]
                  clear hwx
                  by_cases hc : i < os.length ∧ t ≤ 4000
                  · obtain ⟨hjt, hmm⟩ := hc
                    rw [decide_eq_true hjt, decide_eq_true hmm, Bool.true_and]
                    obtain ⟨s, hs⟩ : ∃ s, os[i]? = some s := ⟨_, List.getElem?_eq_getElem hjt⟩
                    obtain ⟨ao, rfl, _, z0⟩ := TSl.at_k (HOL.out.at_ HBI.out) hs
                    have hpl1 := HFO.out s (List.mem_of_getElem? hs)
                    have hps : (ByteArray.mk s.toArray).size = s.length := str_size hpl1
                    unfold maxLen at hpl1
                    clear hs
                    go_wp2
                    go_roundw
                    case rel => exact ⟨i + 1, t + (s.length : Int) / 20, by omega, by go_num, rfl, by omega, by omega, HBI⟩
                    case measure => simp [intOf]; omega
                  · have hcf : (decide (i < os.length) && decide (t ≤ 4000)) = false := by
                      rcases Decidable.not_and_iff_or_not.1 hc with h | h
                      · rw [decide_eq_false h]; rfl
                      · rw [decide_eq_false h, Bool.and_false]
                    rw [hcf]
                    clear hcf hc
                    go_wp2
                    go_roundw
                    case rel => exact ⟨k + 1, t, by omega, by go_num, rfl, by omega, ht1, HBI, Lib.hid (fun h => HFN.out (by omega))⟩
                    case measure => simp [intOf]; omega
      · have hd2 : decide (n ≤ 4000) = false := decide_eq_false hmo
        have hd3 : decide (4000 < n) = true := decide_eq_true (by omega)
        go_wp2
        go_ret
        exact ⟨true, rfl, HB.out, fun h => by cases h⟩
    · obtain rfl : k = l.length := by omega
      have hd1 : decide (l.length < l.length) = false := decide_eq_false (by omega)
      by_cases hmo : n ≤ 4000
      · have hd3 : decide (4000 < n) = false := decide_eq_false (by omega)
        by_cases h70 : l.length ≤ 70
        · have hd4 : decide (70 < l.length) = false := decide_eq_false (by omega)
          have hd5 : decide (70 < (l.length : Int)) = false := decide_eq_false (by omega)
          go_wp2
          go_ret
          exact ⟨false, rfl, HB.out, fun _ => ⟨h70, by have := HFW.out hmo; rwa [List.take_of_length_le (Nat.le_refl _)] at this⟩⟩
        · have hd4 : decide (70 < l.length) = true := decide_eq_true (by omega)
          have hd5 : decide (70 < (l.length : Int)) = true := decide_eq_true (by omega)
          go_wp2
          go_ret
          exact ⟨true, rfl, HB.out, fun h => by cases h⟩
      · have hd3 : decide (4000 < n) = true := decide_eq_true (by omega)
        go_wp2
        go_ret
        exact ⟨true, rfl, HB.out, fun h => by cases h⟩
end Kt
end Go.Proofs.Ytlgpambbghkffaa
end
