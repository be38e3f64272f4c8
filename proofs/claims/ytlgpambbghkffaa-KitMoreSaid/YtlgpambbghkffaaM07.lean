/- Texts of this proof, one behind the other. -/
import Derived.Deep.RegionHeld3
import Derived.Deep.DeepCutAuto
import Derived.Test.YtlgpambbghkffaaM06
section
/- storemankit.CopyItems: the items of a list, in memory of their own. -/
namespace Go.Proofs.Ytlgpambbghkffaa
namespace Kt
open Go.ChangeShapes Go.WideShapes Go.ChangeAt Go.RowKit Go.Maps Go.Shelf
set_option linter.unusedVariables false
set_option linter.constructorNameAsVariable false

theorem pcells_one' (l : List Pt) : ∀ u ∈ pcells l, u.oneCell' = true := by
  induction l with
  | nil => intro u hu; simp [pcells] at hu
  | cons x r ih =>
    intro u hu
    simp only [pcells, List.mem_cons] at hu
    rcases hu with rfl | rfl | h
    · rfl
    · rfl
    · exact ih u h
theorem txtI' : (Try.prog.info? 9).map (fun i => (i.zero, i.size, i.bytes)) = some (some (.string ⟨#[]⟩), 1, 16) := by kernel_rfl
theorem partI' : (Try.prog.info? 39).map (fun i => (i.zero, i.size, i.bytes)) = some (some (.agg #[.string ⟨#[]⟩, .int .i64 0]), 2, 24) := by kernel_rfl
theorem itemI : (Try.prog.info? 32).map (fun i => (i.zero, i.size, i.bytes)) = some (some zI, 4, 72) := by kernel_rfl

set_option maxRecDepth 100000 in
set_option maxHeartbeats 1000000 in
theorem copyP_any (v : Value) (l : List Pt) (w : World) (hlen : l.length ≤ 1048576) (hv : PSl w w.heap.size v l) :
    Calls Try.prog 70 #[v] w fun e w' => ∃ v', e = .returned v' ∧ w'.ownsRow w.heap.size 39 2 v' l.length (pcells l) ∧ Go.RowKit.Below w.heap.size w w' := by
  obtain ⟨i0, hi, hz0, hz1, hz2⟩ := info_parts partI'
  have H1 := Lib.hid hi
  have H2 := Lib.hid hz0
  have H3 := Lib.hid hz1
  have H4 := Lib.hid hz2
  obtain ⟨A, c, rfl, hc1, hc2, hcz, hl⟩ := id hv
  have HL : Hid (∀ a, A = some a → ∀ j u, (pcells l)[j]? = some u → w.cell? (a.add j) = some u) := Lib.hid (fun a ha j u hu => by
    obtain ⟨ad, h1, _, h2⟩ := hl.get hu
    rw [h1] at ha; cases ha; exact h2)
  have HCZ : Hid (A = none → l.length = 0 ∧ c = 0) := Lib.hid (fun h => by have := hcz h; omega)
  have HNIL : Hid (w.ownsRow w.heap.size 39 2 (.slice none 0 0) 0 []) := Lib.hid (World.ownsRow_nil _ _ _ _)
  clear hi hz0 hz1 hz2 hl hv
  go_enter Try.func70, Try.ntmps70
  go_wp2_with (at_builtin; refine wpList_append_any _ rfl _ _ 29 rfl w.heap.size 39 i0 _ 2 24 Try.underlying29 H1.out H2.out H3.out H4.out rfl (by decide) _ 0 [] rfl HNIL.out A l.length c (pcells l) rfl (pcells_length l) HCZ.out HL.out (pcells_one' l) (by unfold maxLen; omega) (by omega) (Nat.le_refl _) ?_; intro v1 w1 hown1 hg1 ha1; have ho1 := Lib.hid hown1; have hG1 := Lib.hid hg1.out; clear hown1 hg1 ha1)
  go_ret
  refine ⟨v1, rfl, ?_, (Below.refl _ _).grown hG1.out (Nat.le_refl _) (fun j hj => by exact absurd hj (by simp [Act.eval, Value.ownBlock]))⟩
  have h := ho1.out
  rw [Nat.zero_add, List.nil_append] at h
  exact h
set_option maxRecDepth 100000 in
set_option maxHeartbeats 1000000 in
theorem copyT_any (v : Value) (l : List (List UInt8)) (w : World) (hlen : l.length ≤ 1048576) (hv : TSl w w.heap.size v l) :
    Calls Try.prog 71 #[v] w fun e w' => ∃ v', e = .returned v' ∧ w'.ownsRow w.heap.size 9 1 v' l.length (tcells l) ∧ Go.RowKit.Below w.heap.size w w' := by
  obtain ⟨i0, hi, hz0, hz1, hz2⟩ := info_parts txtI'
  have H1 := Lib.hid hi
  have H2 := Lib.hid hz0
  have H3 := Lib.hid hz1
  have H4 := Lib.hid hz2
  obtain ⟨A, c, rfl, hc1, hc2, hcz, hl⟩ := id hv
  have HL : Hid (∀ a, A = some a → ∀ j u, (tcells l)[j]? = some u → w.cell? (a.add j) = some u) := Lib.hid (fun a ha j u hu => by
    obtain ⟨ad, h1, _, h2⟩ := hl.get hu
    rw [h1] at ha; cases ha; exact h2)
  have HCZ : Hid (A = none → l.length = 0 ∧ c = 0) := Lib.hid (fun h => by have := hcz h; omega)
  have HNIL : Hid (w.ownsRow w.heap.size 9 1 (.slice none 0 0) 0 []) := Lib.hid (World.ownsRow_nil _ _ _ _)
  clear hi hz0 hz1 hz2 hl hv
  go_enter Try.func71, Try.ntmps71
  go_wp2_with (at_builtin; refine wpList_append_any _ rfl _ _ 30 rfl w.heap.size 9 i0 _ 1 16 Try.underlying30 H1.out H2.out H3.out H4.out rfl (by decide) _ 0 [] rfl HNIL.out A l.length c (tcells l) rfl (by rw [tcells_length, Nat.mul_one]) HCZ.out HL.out (tcells_one l) (by unfold maxLen; omega) (by omega) (Nat.le_refl _) ?_; intro v1 w1 hown1 hg1 ha1; have ho1 := Lib.hid hown1; have hG1 := Lib.hid hg1.out; clear hown1 hg1 ha1)
  go_ret
  refine ⟨v1, rfl, ?_, (Below.refl _ _).grown hG1.out (Nat.le_refl _) (fun j hj => by exact absurd hj (by simp [Act.eval, Value.ownBlock]))⟩
  have h := ho1.out
  rw [Nat.zero_add, List.nil_append] at h
  exact h

/-- An item whose lists lie in rows of its own, at a base or above it. -/
structure OwnI (w : World) (base : Nat) (x : Iv) : Prop where
  parts : w.ownsRow base 39 2 x.pv x.it.parts.length (pcells x.it.parts)
  others : w.ownsRow base 9 1 x.ov x.others.length (tcells x.others)
theorem OwnI.sub {w : World} {base : Nat} {x : Iv} (h : OwnI w base x) : ISub w w.heap.size x := ⟨PSl.own h.parts, TSl.own h.others⟩
theorem ownAt {w w' : World} {base e size n : Nat} {v : Value} {xs : List Value} (h : w.ownsRow base e size v n xs) (hb : Go.RowKit.Below w.heap.size w w') : w'.ownsRow base e size v n xs :=
  h.kept (row := none) ⟨hb.os, hb.tape, hb.output, hb.size, fun k hk _ => hb.block k hk⟩ (by cases hv : v.ownBlock with
    | none => exact .inl rfl
    | some b => exact .inr (by simp))
theorem OwnI.at_ {w w' : World} {base : Nat} {x : Iv} (h : OwnI w base x) (hb : Go.RowKit.Below w.heap.size w w') : OwnI w' base x := ⟨ownAt h.parts hb, ownAt h.others hb⟩
theorem OwnI.less {w : World} {base base' : Nat} {x : Iv} (h : OwnI w base x) (hb : base' ≤ base) : OwnI w base' x := ⟨base_less h.parts hb, base_less h.others hb⟩

theorem ISub.at_ {w W : World} {x : Iv} (h : ISub w w.heap.size x) (hb : Go.RowKit.Below w.heap.size w W) : ISub W W.heap.size x := (h.below hb).mono hb.size
abbrev zBoxO : Obj := .cells #[.string ⟨#[]⟩, .int .i64 0, .slice none 0 0, .slice none 0 0] 32
theorem box_cells {W : World} {B : Nat} {u0 u1 u2 u3 : Value} (h : W.heap[B]? = some (.cells #[u0, u1, u2, u3] 32 (0, 0))) : (W.cell? ⟨B, 0, none⟩ = some u0 ∧ W.cell? ⟨B, 1, none⟩ = some u1 ∧ W.cell? ⟨B, 2, none⟩ = some u2 ∧ W.cell? ⟨B, 3, none⟩ = some u3) ∧
    W.frozen? ⟨B, 0, none⟩ = false ∧ W.frozen? ⟨B, 1, none⟩ = false ∧ W.frozen? ⟨B, 2, none⟩ = false ∧ W.frozen? ⟨B, 3, none⟩ = false := by
  refine ⟨⟨?_, ?_, ?_, ?_⟩, ?_, ?_, ?_, ?_⟩
  · rw [cell_of_row _ _ _ _ _ _ h]; rfl
  · rw [cell_of_row _ _ _ _ _ _ h]; rfl
  · rw [cell_of_row _ _ _ _ _ _ h]; rfl
  · rw [cell_of_row _ _ _ _ _ _ h]; rfl
  all_goals (simp [World.frozen?, h])
/-- A block that holds one item, and stays. -/
theorem box_at {W W' : World} {B n : Nat} {u0 u1 u2 u3 : Value} (h : W.heap[B]? = some (.cells #[u0, u1, u2, u3] 32 (0, 0))) (hb : Go.RowKit.Below n W W') (hB : B < n) : W'.heap[B]? = some (.cells #[u0, u1, u2, u3] 32 (0, 0)) := (hb.block B hB).trans h
set_option maxRecDepth 100000 in
set_option maxHeartbeats 2000000 in
theorem copyI_any (x : Iv) (w : World) (hf : x.Fits) (hs : ISub w w.heap.size x) :
    Calls Try.prog 47 #[aggI x] w fun e w' => ∃ pv ov, e = .returned (aggI ⟨x.it, x.others, pv, ov⟩) ∧ OwnI w' w.heap.size ⟨x.it, x.others, pv, ov⟩ ∧ Go.RowKit.Below w.heap.size w w' := by
  obtain ⟨⟨code, life, ps⟩, os, pv, ov⟩ := x
  obtain ⟨_, _, _, _, hpl, hol⟩ := hf
  have HS := Lib.hid hs
  obtain ⟨Ap, cp, Ao, co, rfl, rfl, hcp, hcq⟩ := hs.form
  simp only at hpl hol
  clear hs
  have hb0 : Go.RowKit.Below w.heap.size w ((w.alloc (.cells #[.string ⟨code.toArray⟩, .int .i64 life, .slice Ap ps.length cp, .slice Ao os.length co] 32)).alloc zBoxO) := ((Below.refl _ _).alloc (Nat.le_refl _) _).alloc (by simp) _
  obtain ⟨b1, hb1⟩ : ∃ b, w.heap.size = b := ⟨_, rfl⟩
  obtain ⟨W2, hW2⟩ : ∃ W, W = (w.alloc (.cells #[.string ⟨code.toArray⟩, .int .i64 life, .slice Ap ps.length cp, .slice Ao os.length co] 32)).alloc zBoxO := ⟨_, rfl⟩
  have hz2 : W2.heap.size = b1 + 2 := by rw [hW2, ← hb1]; simp
  have hx2 : W2.heap[b1]? = some (.cells #[strV code, .int .i64 life, .slice Ap ps.length cp, .slice Ao os.length co] 32 (0, 0)) := by
    rw [hW2, ← hb1]
    have h1 : ∀ (W : World) (o : Obj) (k : Nat), k < W.heap.size → (W.alloc o).heap[k]? = W.heap[k]? := fun W o k hk => ((Below.refl W.heap.size W).alloc (Nat.le_refl _) o).block k hk
    rw [h1 _ _ _ (by simp)]
    exact Go.heap_alloc_new w _
  have hy2 : W2.heap[b1 + 1]? = some zBoxO := by
    rw [hW2, ← hb1]
    have := Go.heap_alloc_new (w.alloc (.cells #[.string ⟨code.toArray⟩, .int .i64 life, .slice Ap ps.length cp, .slice Ao os.length co] 32)) (.cells #[.string ⟨#[]⟩, .int .i64 0, .slice none 0 0, .slice none 0 0] 32)
    simpa using this
  rw [← hW2] at hb0
  have HB0 := Lib.hid hb0
  have HZ2 := Lib.hid hz2
  have HX2 := Lib.hid hx2
  have HY2 := Lib.hid hy2
  have HW2 := Lib.hid hW2
  have HB1 := Lib.hid hb1
  clear hb0 hz2 hx2 hy2 hW2 hb1
  go_enter Try.func47, Try.ntmps47
  go_wp2_with (go_at_call 70; fail)
  rw [HB1.out, ← HW2.out]
  refine (copyP_any _ ps W2 hpl (HS.out.at_ HB0.out).parts).mono ?_
  rintro e w3 ⟨v3, rfl, ho3, hb3⟩
  obtain ⟨A3, k3, rfl, _, _, _⟩ := own_form ho3
  have hbase : b1 < W2.heap.size ∧ b1 + 1 < W2.heap.size := by have := HZ2.out; omega
  have hx3 := box_at HX2.out hb3 hbase.1
  have hy3 := box_at HY2.out hb3 hbase.2
  have hx4 := heap_setCell_same w3 b1 2 _ _ (.slice A3 ps.length k3) hx3
  have hy4 := (heap_setCell_other w3 ⟨b1, 2, none⟩ (b1 + 1) (.slice A3 ps.length k3) (by simp)).trans hy3
  simp only [List.setIfInBounds_toArray, List.set_cons_zero, List.set_cons_succ] at hx4
  obtain ⟨⟨e0, e1, e2, e3⟩, f0, f1, f2, f3⟩ := box_cells hx3
  obtain ⟨⟨g0, g1, g2, g3⟩, _, _, _, _⟩ := box_cells hx4
  have ho4 := ownsRow_setCell_below ho3 (a := ⟨b1, 2, none⟩) hbase.1 (.slice A3 ps.length k3)
  have hb4 : Go.RowKit.Below w.heap.size w (w3.setCell ⟨b1, 2, none⟩ (.slice A3 ps.length k3)) := (HB0.out.trans (hb3.mono HB0.out.size)).setCell (Nat.le_of_eq HB1.out) _
  have HX4 := Lib.hid hx4
  have HY4 := Lib.hid hy4
  have HO4 := Lib.hid ho4
  have HB4 := Lib.hid hb4
  have hs3 := hb3.size
  have HS3 := Lib.hid hs3
  have HT4 := Lib.hid (HS.out.at_ hb4).others
  clear hx3 hy3 hx4 hy4 ho3 ho4 hb4 hb3
  go_wp2_with (go_at_call 71; fail)
  refine (copyT_any _ os _ hol HT4.out).mono ?_
  rintro e w5 ⟨v5, rfl, ho5, hb5⟩
  obtain ⟨A5, k5, rfl, _, _, _⟩ := own_form ho5
  have hx5 := box_at HX4.out hb5 (by rw [World.size_setCell]; omega)
  have hy5 := box_at HY4.out hb5 (by rw [World.size_setCell]; omega)
  have hx6 := heap_setCell_same w5 b1 3 _ _ (.slice A5 os.length k5) hx5
  have hy6 := (heap_setCell_other w5 ⟨b1, 3, none⟩ (b1 + 1) (.slice A5 os.length k5) (by simp)).trans hy5
  simp only [List.setIfInBounds_toArray, List.set_cons_zero, List.set_cons_succ] at hx6
  obtain ⟨⟨p0, p1, p2, p3⟩, q0, q1, q2, q3⟩ := box_cells hx5
  obtain ⟨⟨r0, r1, r2, r3⟩, _, _, _, _⟩ := box_cells hx6
  obtain ⟨⟨z0, z1, z2, z3⟩, y0, y1, y2, y3⟩ := box_cells hy6
  have ho6 := ownsRow_setCell_below (ownAt HO4.out hb5) (a := ⟨b1, 3, none⟩) hbase.1 (.slice A5 os.length k5)
  have hs4 : W2.heap.size ≤ (w3.setCell ⟨b1, 2, none⟩ (.slice A3 ps.length k3)).heap.size := by rw [World.size_setCell]; exact HS3.out
  have ht6 := ownsRow_setCell_below (base_less ho5 hs4) (a := ⟨b1, 3, none⟩) hbase.1 (.slice A5 os.length k5)
  have hb6 := (HB4.out.trans (hb5.mono HB4.out.size)).setCell (p := ⟨b1, 3, none⟩) (Nat.le_of_eq HB1.out) (.slice A5 os.length k5)
  have HO6 := Lib.hid ho6
  have HT6 := Lib.hid ht6
  have HB6 := Lib.hid hb6
  clear hx5 hy5 hx6 hy6 ho5 ho6 ht6 hb5 hb6
  go_wp2
  refine bodyPost_ret (v := .agg #[strV code, .int .i64 life, .slice A3 ps.length k3, .slice A5 os.length k5]) (by rw [results_cell1 rfl]; go_simp) rfl ?_
  have hlb : w.heap.size ≤ b1 + 1 := by have := HB1.out; omega
  refine ⟨_, _, rfl, ⟨?_, ?_⟩, (((HB6.out.setCell (p := ⟨b1 + 1, 0, none⟩) hlb _).setCell (p := ⟨b1 + 1, 1, none⟩) hlb _).setCell (p := ⟨b1 + 1, 2, none⟩) hlb _).setCell (p := ⟨b1 + 1, 3, none⟩) hlb _⟩
  · exact base_less (ownsRow_setCell_below (ownsRow_setCell_below (ownsRow_setCell_below (ownsRow_setCell_below HO6.out (a := ⟨b1 + 1, 0, none⟩) hbase.2 _) (a := ⟨b1 + 1, 1, none⟩) hbase.2 _) (a := ⟨b1 + 1, 2, none⟩) hbase.2 _) (a := ⟨b1 + 1, 3, none⟩) hbase.2 _) (by have := HB1.out; have := HZ2.out; omega)
  · exact base_less (ownsRow_setCell_below (ownsRow_setCell_below (ownsRow_setCell_below (ownsRow_setCell_below HT6.out (a := ⟨b1 + 1, 0, none⟩) hbase.2 _) (a := ⟨b1 + 1, 1, none⟩) hbase.2 _) (a := ⟨b1 + 1, 2, none⟩) hbase.2 _) (a := ⟨b1 + 1, 3, none⟩) hbase.2 _) (by have := HB1.out; have := HZ2.out; omega)

/-- Rows of another kind stay, where a row grows. -/
theorem own_kinds {w w' : World} {base e size n : Nat} {v : Value} {xs : List Value} (h : w.ownsRow base e size v n xs) {base' e' size' n' : Nat} {v' : Value} {xs' : List Value} (h' : w.ownsRow base' e' size' v' n' xs') (he : e ≠ e') (hg : w.grownBy w' v'.ownBlock) : w'.ownsRow base e size v n xs := by
  refine h.kept hg ?_
  rcases h.2 with ⟨rfl, _⟩ | ⟨g, cap, cur, rfl, _, hh, _⟩
  · exact .inl rfl
  · refine .inr (fun hgg => ?_)
    rcases h'.2 with ⟨rfl, _⟩ | ⟨g', cap', cur', rfl, _, hh', _⟩
    · cases hgg
    · simp only [Value.ownBlock, Option.some.injEq] at hgg
      subst hgg
      rw [hh] at hh'
      simp only [Option.some.injEq, Obj.cells.injEq] at hh'
      exact he hh'.2.1
theorem quad_new (w : World) (a b c d : Value) (t : TypeId) : ∀ (j : Nat) (u : Value), [a, b, c, d][j]? = some u → (w.alloc (.cells #[a, b, c, d] t)).cell? ((⟨w.heap.size, 0, none⟩ : Addr).add j) = some u := by
  intro j u h
  rw [fresh_cell]
  simpa using h
theorem quad_one (c : List UInt8) (n : Int) (A A' : Option Addr) (a b a' b' : Nat) : ∀ u ∈ [strV c, Value.int .i64 n, .slice A a b, .slice A' a' b'], u.oneCell' = true := by
  intro u hu
  simp only [List.mem_cons, List.not_mem_nil, or_false] at hu
  rcases hu with rfl | rfl | rfl | rfl <;> rfl
/-- The same items, in memory of their own, their others apart. -/
def ApartO (l : List Iv) : Prop := l.Pairwise (fun x y => y.ov.ownBlock = none ∨ x.ov.ownBlock ≠ y.ov.ownBlock)
structure Copied (l m : List Iv) (base : Nat) (W : World) (v : Value) : Prop where
  its : m.map (·.it) = l.map (·.it)
  oth : m.map (·.others) = l.map (·.others)
  row : W.ownsRow base 32 4 v m.length (icells m)
  own : ∀ x ∈ m, OwnI W base x
  apart : ApartO m
theorem Copied.len {l m : List Iv} {base : Nat} {W : World} {v : Value} (h : Copied l m base W v) : m.length = l.length := by
  have := congrArg List.length h.its
  simpa using this
theorem Copied.isl {l m : List Iv} {base : Nat} {W : World} {v : Value} (h : Copied l m base W v) : ISl W W.heap.size v m := ISl.own h.row (fun x hx => (h.own x hx).sub)
theorem Copied.at_ {l m : List Iv} {base : Nat} {W W' : World} {v : Value} (h : Copied l m base W v) (hb : Go.RowKit.Below W.heap.size W W') : Copied l m base W' v := ⟨h.its, h.oth, ownAt h.row hb, fun x hx => (h.own x hx).at_ hb, h.apart⟩
theorem own_block_lt {w : World} {base e size n : Nat} {v : Value} {xs : List Value} (h : w.ownsRow base e size v n xs) {b : Nat} (hb : v.ownBlock = some b) : base ≤ b ∧ b < w.heap.size := by
  rcases h.2 with ⟨rfl, _⟩ | ⟨g, cap, cur, rfl, h1, hh, _⟩
  · cases hb
  · simp only [Value.ownBlock, Option.some.injEq] at hb
    subst hb
    exact ⟨h1, (Array.getElem?_eq_some_iff.1 hh).1⟩
/-- One more, copied at a world behind. -/
theorem Copied.snoc {l m : List Iv} {base k : Nat} {W W3 W' : World} {o o' : Obj} {v v' : Value} {x : Iv} {pv ov : Value} (h : Copied (l.take k) m base W v) (hx : l[k]? = some x) (hb3 : Go.RowKit.Below W.heap.size W W3) (hi : OwnI W3 W.heap.size ⟨x.it, x.others, pv, ov⟩) (hbase : base ≤ W.heap.size)
    (hG : ((W3.alloc o).alloc o').grownBy W' v.ownBlock) (ho : W'.ownsRow base 32 4 v' (m.length + 1) (icells m ++ encI ⟨x.it, x.others, pv, ov⟩)) : Copied (l.take (k + 1)) (m ++ [⟨x.it, x.others, pv, ov⟩]) base W' v' := by
  have hr := ((ownAt h.row hb3).alloc o).alloc o'
  have hkeep : ∀ {e size n : Nat} {u : Value} {xs : List Value} {B : Nat}, W3.ownsRow B e size u n xs → e ≠ 32 → W'.ownsRow B e size u n xs := fun hu he => own_kinds ((hu.alloc o).alloc o') hr he hG
  refine ⟨?_, ?_, ?_, fun y hy => ?_, ?_⟩
  · rw [List.take_add_one, hx, List.map_append, List.map_append, h.its]; rfl
  · rw [List.take_add_one, hx, List.map_append, List.map_append, h.oth]; rfl
  · rw [icells_append, List.length_append, List.length_singleton]
    simpa [icells] using ho
  · rcases List.mem_append.1 hy with hy | hy
    · have := (h.own y hy).at_ hb3
      exact ⟨hkeep this.parts (by decide), hkeep this.others (by decide)⟩
    · obtain rfl := List.mem_singleton.1 hy
      have := hi.less hbase
      exact ⟨hkeep this.parts (by decide), hkeep this.others (by decide)⟩
  · unfold ApartO
    rw [List.pairwise_append]
    refine ⟨h.apart, by simp, fun y hy z hz => ?_⟩
    obtain rfl := List.mem_singleton.1 hz
    cases hob : ov.ownBlock with
    | none => exact .inl rfl
    | some b =>
      refine .inr (fun e => ?_)
      have h1 := own_block_lt hi.others hob
      try rw [show (Iv.mk x.it x.others pv ov).ov.ownBlock = some b from hob] at e
      have h2 := own_block_lt (h.own y hy).others e
      omega
def CopiesTo (l : List Iv) (w : World) (e : Ending) (w' : World) : Prop := ∃ v m, e = .returned v ∧ Copied l m w.heap.size w' v ∧ Go.RowKit.Below w.heap.size w w'
set_option maxRecDepth 100000 in
set_option maxHeartbeats 2000000 in
theorem copyItems_any (v : Value) (l : List Iv) (w : World) (hv : ISl w w.heap.size v l) (hs : SizedI l) (hlen : l.length ≤ 1048576) : Calls Try.prog 22 #[v] w (CopiesTo l w) := by
  obtain ⟨i0, hi, hz0, hz1, hz2⟩ := info_parts itemI
  have H1 := Lib.hid hi
  have H2 := Lib.hid hz0
  have H3 := Lib.hid hz1
  have H4 := Lib.hid hz2
  obtain ⟨⟨A, c, rfl, hc1, hc2, hcz, hl⟩, hsub⟩ := id hv
  have HV := Lib.hid hv
  have HS : Hid (SizedI l) := Lib.hid hs
  clear hi hz0 hz1 hz2 hl hsub hv hs
  go_enter Try.func22, Try.ntmps22
  go_wp2
  go_loopw [3, 4] (fun o i wr => ∃ (k : Nat) (m : List Iv), k ≤ l.length ∧ i = .int .i64 k ∧ m.length = k ∧ Hid (Copied (l.take k) m w.heap.size wr o) ∧ Hid (Go.RowKit.Below w.heap.size w wr)) (fun _ i _ => l.length - (intOf i).toNat)
  case atStart => exact ⟨0, [], Nat.zero_le _, rfl, rfl, Lib.hid ⟨by simp, by simp, ⟨rfl, .inl ⟨rfl, rfl⟩⟩, by simp, by simp [ApartO]⟩, Lib.hid (Below.refl _ _)⟩
  case round =>
    obtain ⟨k, m, hk, rfl, hm, HC, HB⟩ := hrel
    by_cases hlt : k < l.length
    · obtain ⟨x, hx⟩ : ∃ x, l[k]? = some x := ⟨_, List.getElem?_eq_getElem hlt⟩
      have hxm := List.mem_of_getElem? hx
      have HVr := Lib.hid (HV.out.at_ HB.out)
      have HX := Lib.hid hx
      have HF := Lib.hid (HS.out _ hxm)
      have HSb := Lib.hid (HVr.out.2 _ hxm)
      obtain ⟨⟨code, life, ps⟩, os, pv, ov⟩ := x
      obtain ⟨Ap, cp, Ao, co, rfl, rfl, hcp, hcq⟩ := HSb.out.form
      obtain ⟨ad, rfl, hab, x0, x1, x2, x3⟩ := HVr.out.at_k hx
      simp only at x0 x1 x2 x3
      have hbs := HB.out.size
      clear hx hxm
      go_wp2_with (first
        | (go_at_call 47; ((with_reducible refine (copyI_any ⟨⟨code, life, ps⟩, os, .slice Ap ps.length cp, .slice Ao os.length co⟩ _ HF.out HSb.out).mono ?_); rintro e w3 ⟨pv3, ov3, rfl, hoi, hb3⟩; obtain ⟨Ap3, cp3, Ao3, co3, hp3, ho3, _, _⟩ := (hoi.sub).form; subst hp3 ho3; have HOI := Lib.hid hoi; have HB3 := Lib.hid hb3; have hbs3 := hb3.size; clear hb3 hoi x0 x1 x2 x3; have HX3 := Lib.hid (Box4.new w3 ⟨⟨code, life, ps⟩, os, .slice Ap3 ps.length cp3, .slice Ao3 os.length co3⟩); obtain ⟨e0, e1, e2, e3⟩ := HX3.out.cells; simp only at e0 e1 e2 e3; have HN := Lib.hid (quad_new (w3.alloc (.cells #[.string ⟨code.toArray⟩, .int .i64 life, .slice Ap3 ps.length cp3, .slice Ao3 os.length co3] 32)) (strV code) (.int .i64 life) (.slice Ap3 ps.length cp3) (.slice Ao3 os.length co3) 32); have HRW := Lib.hid (ownAt HC.out.row HB3.out)))
        | (at_builtin; refine wpList_append_own _ rfl _ _ 22 rfl w.heap.size 32 i0 _ 4 72 Try.underlying22 H1.out H2.out H3.out H4.out rfl (by decide) _ _ _ rfl ((HRW.out.alloc _).alloc _) ⟨w3.heap.size + 1, 0, none⟩ 1 1 [strV code, .int .i64 life, .slice Ap3 ps.length cp3, .slice Ao3 os.length co3] rfl rfl (by simpa using HN.out) (quad_one code life Ap3 Ao3 _ _ _ _) (by unfold maxLen; omega) (by omega) (by simp only [World.size_alloc]; omega) ?_; intro v' w9 hown3 hg3 _; have ho9 := Lib.hid hown3; have hG9 := Lib.hid hg3; clear hown3 hg3))
      have hb9 : Hid (Go.RowKit.Below w.heap.size w w9) := Lib.hid ((((HB.out.trans (HB3.out.mono HB.out.size)).alloc (by omega) _).alloc (by simp only [World.size_alloc]; omega) _).grown hG9.out (by simp only [World.size_alloc]; omega) (fun j hj => by have := (HC.out.row.lt j hj).1; omega))
      have hC9 := Copied.snoc HC.out HX.out HB3.out HOI.out HB.out.size hG9.out ho9.out
      have HC9 := Lib.hid hC9
      clear hC9
      go_roundw
      case rel => exact ⟨k + 1, _, by omega, by go_num, by rw [List.length_append, List.length_singleton, hm], HC9, hb9⟩
      case measure => simp [intOf]; omega
    · obtain rfl : k = l.length := by omega
      go_wp2
      go_ret
      exact ⟨_, m, rfl, by have := HC.out; rwa [List.take_of_length_le (Nat.le_refl _)] at this, HB.out⟩
end Kt
end Go.Proofs.Ytlgpambbghkffaa
end
section
/- What KitMore says, in words of lists alone: one more that is kept, one more kit. -/
namespace Go.Proofs.Ytlgpambbghkffaa
namespace Kt
open Go.RowKit Go.Maps
set_option linter.unusedVariables false

def z8 : It := ⟨[90, 56], 7, []⟩
def z9 (ps : List Pt) : It := ⟨[90, 57], 0, ps⟩
theorem z8_right : Cd.rightL z8.code = true := by decide +kernel
theorem z9_right : Cd.rightL [90, 57] = true := by decide +kernel
theorem check_z8 {L : List It} (h0 : checkM L = 0) (hn : L.length ≤ 58) (hlt : ∀ y ∈ L, y.code < [90, 56]) : checkM (L ++ [z8]) = 0 :=
  (checkM_snoc (checkM_sd h0) (by omega) z8_right (by decide) hlt).2 ⟨by decide, by simp [z8]⟩
theorem lt_z9 {L : List It} (hlt : ∀ y ∈ L, y.code < [90, 56]) : ∀ y ∈ L ++ [z8], y.code < ([90, 57] : List UInt8) := by
  intro y hy
  rcases List.mem_append.1 hy with hy | hy
  · exact List.lt_trans (hlt y hy) (by decide)
  · obtain rfl := List.mem_singleton.1 hy
    decide
def okAt (M : List It) (ps : List Pt) (j : Nat) : Bool := match ps[j]? with
  | some p => decide (0 < deepM M p.1) && (decide (1 ≤ p.2) && decide (p.2 ≤ 1073741824)) && !(ps.take j).any (fun o => decide (o.1 = p.1))
  | none => true
def fineAt (M : List It) (ps : List Pt) (j : Nat) : Bool := (decide (1 ≤ ps.length) && decide (ps.length ≤ 8)) && (List.range j).all (okAt M ps)
def deepAt (M : List It) (ps : List Pt) (j : Nat) : Nat := (ps.take j).foldl (fun m p => max m (deepM M p.1 + 1)) 0
theorem fineAt_zero (M : List It) (ps : List Pt) : fineAt M ps 0 = (decide (1 ≤ ps.length) && decide (ps.length ≤ 8)) := by simp [fineAt]
theorem fineAt_succ (M : List It) (ps : List Pt) (j : Nat) : fineAt M ps (j + 1) = (fineAt M ps j && okAt M ps j) := by
  unfold fineAt
  rw [List.range_succ, List.all_append]
  simp [Bool.and_assoc]
theorem deepAt_zero (M : List It) (ps : List Pt) : deepAt M ps 0 = 0 := by simp [deepAt]
theorem deepAt_succ {M : List It} {ps : List Pt} {j : Nat} {p : Pt} (h : ps[j]? = some p) : deepAt M ps (j + 1) = max (deepAt M ps j) (deepM M p.1 + 1) := by
  unfold deepAt
  rw [List.take_add_one, h, List.foldl_append]
  rfl
theorem fold_le (f : Pt → Nat) (n : Nat) : ∀ (l : List Pt) (a : Nat), l.foldl (fun m p => max m (f p)) a ≤ n ↔ a ≤ n ∧ ∀ p ∈ l, f p ≤ n
  | [], a => by simp
  | q :: l, a => by
    rw [List.foldl_cons, fold_le f n l]
    simp only [List.mem_cons, forall_eq_or_imp]
    constructor
    · rintro ⟨h1, h2⟩
      exact ⟨by omega, by omega, h2⟩
    · rintro ⟨h1, h2, h3⟩
      exact ⟨by omega, h3⟩
theorem deepAt_le (M : List It) (ps : List Pt) (n : Nat) (j : Nat) : deepAt M ps j ≤ n ↔ ∀ p ∈ ps.take j, deepM M p.1 + 1 ≤ n := by
  unfold deepAt
  rw [fold_le (fun p => deepM M p.1 + 1)]
  simp
theorem deepM_60 (M : List It) (c : List UInt8) : deepM M c ≤ 8 := by
  unfold deepM
  by_cases h0 : checkM M = 0
  · rw [if_pos h0]
    cases hd : depI M c with
    | none => simp
    | some d =>
      obtain ⟨x, hx⟩ := (depI_dp hd).found
      obtain ⟨h1, h2⟩ := lastI_some M hx
      obtain ⟨e, he, h8⟩ := (checkM_sd h0).deep x h1
      rw [h2] at he
      have := he.uniq (depI_dp hd)
      simp only [Option.getD_some]
      omega
  · rw [if_neg h0]; omega
theorem deepAt_8 (M : List It) (ps : List Pt) (j : Nat) : deepAt M ps j ≤ 9 := (deepAt_le M ps 9 j).2 (fun p _ => by have := deepM_60 M p.1; omega)
/-- One more kit is sound just if what is looked at is fine, and not too deep. -/
theorem more_iff {L : List It} {ps : List Pt} {j : Nat} (h0 : checkM L = 0) (hn : L.length ≤ 59) (hlt : ∀ y ∈ L, y.code < ([90, 57] : List UInt8)) (hj : j ≤ ps.length) (hex : ¬ (j < ps.length ∧ fineAt L ps j = true)) :
    checkM (L ++ [z9 ps]) = 0 ↔ (fineAt L ps j = true ∧ deepAt L ps j ≤ 8) := by
  rw [checkM_snoc (checkM_sd h0) hn z9_right (by simp [z9]) hlt]
  have hk : keptB (z9 ps) = false := by simp [keptB, z9]
  have hkit : kitB (z9 ps) = (decide (1 ≤ ps.length) && (decide (ps.length ≤ 8) && partsB ps)) := by unfold kitB z9; simp only [decide_true, Bool.true_and]
  have hp : (z9 ps).parts = ps := rfl
  rw [hk, hkit, hp, Bool.false_or]
  by_cases hf : fineAt L ps j = true
  · obtain rfl : j = ps.length := by
      rcases Nat.lt_or_ge j ps.length with h | h
      · exact absurd ⟨h, hf⟩ hex
      · omega
    rw [deepAt_le, List.take_of_length_le (Nat.le_refl _)]
    have hf' := hf
    unfold fineAt at hf'
    simp only [Bool.and_eq_true, decide_eq_true_eq, List.all_eq_true, List.mem_range] at hf'
    obtain ⟨⟨a1, a2⟩, a3⟩ := hf'
    have hfresh : partsB ps = true := by
      unfold partsB
      rw [List.all_eq_true]
      intro i hi
      have hi' := List.mem_range.1 hi
      have h1 := a3 i hi'
      obtain ⟨p, hp⟩ : ∃ p, ps[i]? = some p := ⟨_, List.getElem?_eq_getElem hi'⟩
      unfold okAt at h1
      unfold freshB
      rw [hp] at h1 ⊢
      simp only [Bool.and_eq_true, decide_eq_true_eq, Bool.not_eq_true'] at h1 ⊢
      exact ⟨h1.1.2.1, h1.1.2.2, h1.2⟩
    have hpos : ∀ p ∈ ps, 1 ≤ deepM L p.1 := by
      intro p hpm
      obtain ⟨i, hi⟩ := List.getElem?_of_mem hpm
      have h1 := a3 i (List.getElem?_eq_some_iff.1 hi).1
      unfold okAt at h1
      rw [hi] at h1
      simp only [Bool.and_eq_true, decide_eq_true_eq] at h1
      exact h1.1.1
    constructor
    · rintro ⟨_, h2⟩
      exact ⟨hf, fun p hpm => by have := h2 p hpm; omega⟩
    · rintro ⟨_, h2⟩
      exact ⟨by rw [decide_eq_true a1, decide_eq_true a2, hfresh]; rfl, fun p hpm => ⟨hpos p hpm, by have := h2 p hpm; omega⟩⟩
  · constructor
    · rintro ⟨h1, h2⟩
      exfalso
      apply hf
      simp only [Bool.and_eq_true, decide_eq_true_eq] at h1
      obtain ⟨a1, a2, a3⟩ := h1
      unfold fineAt
      simp only [Bool.and_eq_true, decide_eq_true_eq, List.all_eq_true, List.mem_range]
      refine ⟨⟨a1, a2⟩, fun i hi => ?_⟩
      obtain ⟨p, hp⟩ : ∃ p, ps[i]? = some p := ⟨_, List.getElem?_eq_getElem (by omega)⟩
      unfold partsB at a3
      rw [List.all_eq_true] at a3
      have h3 := a3 i (List.mem_range.2 (by omega))
      unfold freshB at h3
      unfold okAt
      rw [hp] at h3 ⊢
      simp only [Bool.and_eq_true, decide_eq_true_eq, Bool.not_eq_true'] at h3 ⊢
      exact ⟨⟨(h2 p (List.mem_of_getElem? hp)).1, h3.1, h3.2.1⟩, h3.2.2⟩
    · rintro ⟨h1, _⟩
      exact absurd h1 hf
/-- What was in an item stays in it. -/
theorem deep_stays {L : List It} {ps : List Pt} (h0 : checkM L = 0) (hn : L.length ≤ 58) (hlt : ∀ y ∈ L, y.code < [90, 56]) (h2 : checkM (L ++ [z8] ++ [z9 ps]) = 0) {y : It} (hy : y ∈ L) : deepM (L ++ [z8] ++ [z9 ps]) y.code = deepM L y.code := by
  have h1 := check_z8 h0 hn hlt
  rw [deepM_snoc (checkM_sd h1) h2 (not_in_of_lt (x := z9 ps) (lt_z9 hlt)) (List.mem_map_of_mem (List.mem_append_left _ hy)), deepM_snoc (checkM_sd h0) h1 (not_in_of_lt (x := z8) hlt) (List.mem_map_of_mem hy)]
end Kt
end Go.Proofs.Ytlgpambbghkffaa
end
section
/- A single region of the law KitMore. Written by gen_kregm.py. -/
namespace Go.Proofs.Ytlgpambbghkffaa
namespace Kt
open Go.ChangeShapes Go.WideShapes Go.ChangeAt Go.RowKit Go.Maps Go.Shelf
set_option linter.unusedVariables false
set_option linter.constructorNameAsVariable false

def regionM (n : Nat) : Code → Option Code
  | .region id ops d => if id = n then some (.region id ops d) else none
  | .loop c => regionM n c
  | .seq a b => match regionM n a with
    | some c => some c
    | none => regionM n b
  | .block _ c => regionM n c
  | .scope c => regionM n c
  | .cond _ a b => match regionM n a with
    | some c => some c
    | none => regionM n b
  | _ => none
noncomputable def moreR26 : Code := ((Try.f5.body.bind (regionM 26)).getD .skip)

set_option maxRecDepth 100000 in
set_option maxHeartbeats 4000000 in
theorem rm_no {Q : Exit → Act → World → Prop} {W : World} {c : Code} (hc : c = moreR26) {u1 u2 u3 u4 u6 u7 u8 u9 u10 u12 u13 u14 u15 u16 u17 u18 u19 u20 u21 u22 u23 u24 u25 u26 u27 u28 u29 u30 u31 u32 u33 u34 u35 u36 u37 u38 u39 u40 u41 u42 u43 u44 u45 u46 u47 u48 u49 u50 u51 u52 u53 u54 u55 u56 u57 u58 u59 u60 u61 u62 u63 u64 u65 u66 u67 u68 u69 u70 u71 u72 u73 u74 u75 u76 u77 u78 u79 u80 u81 u82 u83 u84 u85 u86 u87 u88 u89 u90 u91 u92 u93 u94 u95 u96 u97 u98 u99 u100 u101 u102 u103 u104 u105 u106 u107 u108 u109 u110 u111 u112 u113 u114 u115 u116 u117 u118 u119 u120 u121 u122 u123 u124 u125 u126 u127 u128 u129 u130 u131 u132 u133 u134 u135 u136 u137 u138 u139 u140 u141 u142 u143 u144 u145 u146 u147 u148 u149 u150 u151 u152 u153 u154 u155 u156 u157 u158 u159 u160 u161 u162 u163 u164 u165 u166 : Value} {ad : Addr} {A10 : Option Addr} {nl c0 n10 c10 i : Nat} {cm : Int} {code : List UInt8}
    (hapc : ad.block < W.heap.size)
    (hil : i < nl)
    (f0 : W.cell? (ad.add (i * 4)) = some (strV code))
    (hcm : (cm == 0) = false)
    (hcm2 : decide (cm = 0) = false)
    (KC : ∀ W', Go.RowKit.Below W.heap.size W W' → Calls Try.prog 10 #[.slice A10 n10 c10] W' fun e w' => e = .returned (.int .i64 cm) ∧ Go.RowKit.Below W'.heap.size W' w')
    (hQ : ∀ (W' : World) (c147 c148 c149 c150 c151 c152 c153 c154 c155 c156 c157 c158 c159 c160 c161 c162 c163 c164 c165 : Value), Go.RowKit.Below W.heap.size W W' → Q .normal ⟨List.toArray (.slice (some ad) nl c0 :: u1 :: u2 :: u3 :: u4 :: .slice A10 n10 c10 :: u6 :: u7 :: u8 :: u9 :: u10 :: .int .i64 (i : Nat) :: u12 :: u13 :: u14 :: u15 :: u16 :: u17 :: u18 :: u19 :: u20 :: u21 :: u22 :: u23 :: u24 :: u25 :: u26 :: u27 :: u28 :: u29 :: u30 :: u31 :: u32 :: u33 :: u34 :: u35 :: u36 :: u37 :: u38 :: u39 :: u40 :: u41 :: u42 :: u43 :: u44 :: u45 :: u46 :: u47 :: u48 :: u49 :: u50 :: u51 :: u52 :: u53 :: u54 :: u55 :: u56 :: u57 :: u58 :: u59 :: u60 :: u61 :: u62 :: u63 :: u64 :: u65 :: u66 :: u67 :: u68 :: u69 :: u70 :: u71 :: u72 :: u73 :: u74 :: u75 :: u76 :: u77 :: u78 :: u79 :: u80 :: u81 :: u82 :: u83 :: u84 :: u85 :: u86 :: u87 :: u88 :: u89 :: u90 :: u91 :: u92 :: u93 :: u94 :: u95 :: u96 :: u97 :: u98 :: u99 :: u100 :: u101 :: u102 :: u103 :: u104 :: u105 :: u106 :: u107 :: u108 :: u109 :: u110 :: u111 :: u112 :: u113 :: u114 :: u115 :: u116 :: u117 :: u118 :: u119 :: u120 :: u121 :: u122 :: u123 :: u124 :: u125 :: u126 :: u127 :: u128 :: u129 :: u130 :: u131 :: u132 :: u133 :: u134 :: u135 :: u136 :: u137 :: u138 :: u139 :: u140 :: u141 :: u142 :: u143 :: u144 :: u145 :: u146 :: c147 :: c148 :: c149 :: c150 :: c151 :: c152 :: c153 :: c154 :: c155 :: c156 :: c157 :: c158 :: c159 :: c160 :: c161 :: c162 :: c163 :: c164 :: c165 :: .bool false :: []), []⟩ W') :
    Code.wp Try.prog c Q ⟨List.toArray (.slice (some ad) nl c0 :: u1 :: u2 :: u3 :: u4 :: .slice A10 n10 c10 :: u6 :: u7 :: u8 :: u9 :: u10 :: .int .i64 (i : Nat) :: u12 :: u13 :: u14 :: u15 :: u16 :: u17 :: u18 :: u19 :: u20 :: u21 :: u22 :: u23 :: u24 :: u25 :: u26 :: u27 :: u28 :: u29 :: u30 :: u31 :: u32 :: u33 :: u34 :: u35 :: u36 :: u37 :: u38 :: u39 :: u40 :: u41 :: u42 :: u43 :: u44 :: u45 :: u46 :: u47 :: u48 :: u49 :: u50 :: u51 :: u52 :: u53 :: u54 :: u55 :: u56 :: u57 :: u58 :: u59 :: u60 :: u61 :: u62 :: u63 :: u64 :: u65 :: u66 :: u67 :: u68 :: u69 :: u70 :: u71 :: u72 :: u73 :: u74 :: u75 :: u76 :: u77 :: u78 :: u79 :: u80 :: u81 :: u82 :: u83 :: u84 :: u85 :: u86 :: u87 :: u88 :: u89 :: u90 :: u91 :: u92 :: u93 :: u94 :: u95 :: u96 :: u97 :: u98 :: u99 :: u100 :: u101 :: u102 :: u103 :: u104 :: u105 :: u106 :: u107 :: u108 :: u109 :: u110 :: u111 :: u112 :: u113 :: u114 :: u115 :: u116 :: u117 :: u118 :: u119 :: u120 :: u121 :: u122 :: u123 :: u124 :: u125 :: u126 :: u127 :: u128 :: u129 :: u130 :: u131 :: u132 :: u133 :: u134 :: u135 :: u136 :: u137 :: u138 :: u139 :: u140 :: u141 :: u142 :: u143 :: u144 :: u145 :: u146 :: u147 :: u148 :: u149 :: u150 :: u151 :: u152 :: u153 :: u154 :: u155 :: u156 :: u157 :: u158 :: u159 :: u160 :: u161 :: u162 :: u163 :: u164 :: u165 :: u166 :: []), []⟩ W := by
  subst hc
  conv => arg 2; whnf
  have HKC := Lib.hid KC
  have HQ := Lib.hid hQ
  have HWC := Lib.hid (Below.refl W.heap.size W)
  clear hQ KC
  refine wp_region_noPanic ?_
  refine wp_region_any (by kernel_rfl) ?_
  change wpAny _ _ _ _ _ _ _ (World.drew _)
  refine wpAny_take (i := 0) (v := (.slice A10 n10 c10)) rfl (by kernel_rfl) (by kernel_rfl) (by kernel_rfl) (fun _ _ _ h => h) (Or.inl ⟨by kernel_rfl, fun w => by go_simp⟩) ?_
  refine wpAny_ready (rs := [1]) (by kernel_rfl) (by simp) ?_
  refine AllReady.cons rfl (fun K hK => ?_) AllReady.nil
  go_simp
  refine (HKC.out _ HWC.out.drew).mono ?_
  rintro e w8 ⟨rfl, hb8⟩
  have hbq := HWC.out.drew.trans hb8
  go_wp2_with fail
  refine wpAny_take (i := 2) (v := (.bool false)) rfl (by kernel_rfl) (by kernel_rfl) (by kernel_rfl) (fun _ _ _ h => h) (Or.inl ⟨by kernel_rfl, fun w => by go_simp⟩) ?_
  refine wpAny_take (i := 3) (v := (.bool false)) rfl (by kernel_rfl) (by kernel_rfl) (by kernel_rfl) (fun _ _ _ h => h) (Or.inl ⟨by kernel_rfl, fun w => by go_simp⟩) ?_
  refine wpAny_take (i := 4) (v := (undef)) rfl (by kernel_rfl) (by kernel_rfl) (by kernel_rfl) (fun _ _ _ h => h) (Or.inr ⟨by kernel_rfl, rfl⟩) ?_
  refine wpAny_take (i := 5) (v := (undef)) rfl (by kernel_rfl) (by kernel_rfl) (by kernel_rfl) (fun _ _ _ h => h) (Or.inr ⟨by kernel_rfl, rfl⟩) ?_
  refine wpAny_take (i := 6) (v := (undef)) rfl (by kernel_rfl) (by kernel_rfl) (by kernel_rfl) (fun _ _ _ h => h) (Or.inr ⟨by kernel_rfl, rfl⟩) ?_
  refine wpAny_take (i := 7) (v := (undef)) rfl (by kernel_rfl) (by kernel_rfl) (by kernel_rfl) (fun _ _ _ h => h) (Or.inr ⟨by kernel_rfl, rfl⟩) ?_
  refine wpAny_take (i := 8) (v := (undef)) rfl (by kernel_rfl) (by kernel_rfl) (by kernel_rfl) (fun _ _ _ h => h) (Or.inr ⟨by kernel_rfl, rfl⟩) ?_
  refine wpAny_take (i := 9) (v := (undef)) rfl (by kernel_rfl) (by kernel_rfl) (by kernel_rfl) (fun _ _ _ h => h) (Or.inr ⟨by kernel_rfl, rfl⟩) ?_
  refine wpAny_take (i := 10) (v := (undef)) rfl (by kernel_rfl) (by kernel_rfl) (by kernel_rfl) (fun _ _ _ h => h) (Or.inr ⟨by kernel_rfl, rfl⟩) ?_
  refine wpAny_take (i := 11) (v := (undef)) rfl (by kernel_rfl) (by kernel_rfl) (by kernel_rfl) (fun _ _ _ h => h) (Or.inr ⟨by kernel_rfl, rfl⟩) ?_
  refine wpAny_take (i := 12) (v := (undef)) rfl (by kernel_rfl) (by kernel_rfl) (by kernel_rfl) (fun _ _ _ h => h) (Or.inr ⟨by kernel_rfl, rfl⟩) ?_
  refine wpAny_take (i := 13) (v := (undef)) rfl (by kernel_rfl) (by kernel_rfl) (by kernel_rfl) (fun _ _ _ h => h) (Or.inr ⟨by kernel_rfl, rfl⟩) ?_
  refine wpAny_take (i := 14) (v := (undef)) rfl (by kernel_rfl) (by kernel_rfl) (by kernel_rfl) (fun _ _ _ h => h) (Or.inr ⟨by kernel_rfl, rfl⟩) ?_
  refine wpAny_take (i := 15) (v := (undef)) rfl (by kernel_rfl) (by kernel_rfl) (by kernel_rfl) (fun _ _ _ h => h) (Or.inr ⟨by kernel_rfl, rfl⟩) ?_
  refine wpAny_take (i := 16) (v := (undef)) rfl (by kernel_rfl) (by kernel_rfl) (by kernel_rfl) (fun _ _ _ h => h) (Or.inr ⟨by kernel_rfl, rfl⟩) ?_
  refine wpAny_take (i := 17) (v := (undef)) rfl (by kernel_rfl) (by kernel_rfl) (by kernel_rfl) (fun _ _ _ h => h) (Or.inr ⟨by kernel_rfl, rfl⟩) ?_
  refine wpAny_take (i := 18) (v := (undef)) rfl (by kernel_rfl) (by kernel_rfl) (by kernel_rfl) (fun _ _ _ h => h) (Or.inr ⟨by kernel_rfl, rfl⟩) ?_
  refine wpAny_take (i := 19) (v := (.bool false)) rfl (by kernel_rfl) (by kernel_rfl) (by kernel_rfl) (fun _ _ _ h => h) (Or.inl ⟨by kernel_rfl, fun w => by go_simp⟩) ?_
  refine wpAny_done (by kernel_rfl) ?_ _
  go_simp
  exact NoPanic.normal (HQ.out _ _ _ _ _ _ _ _ _ _ _ _ _ _ _ _ _ _ _ _ hbq)

set_option maxRecDepth 100000 in
set_option maxHeartbeats 4000000 in
theorem rm_yes {Q : Exit → Act → World → Prop} {W : World} {c : Code} (hc : c = moreR26) {u1 u2 u3 u4 u6 u7 u8 u9 u10 u12 u13 u14 u15 u16 u17 u18 u19 u20 u21 u22 u23 u24 u25 u26 u27 u28 u29 u30 u31 u32 u33 u34 u35 u36 u37 u38 u39 u40 u41 u42 u43 u44 u45 u46 u47 u48 u49 u50 u51 u52 u53 u54 u55 u56 u57 u58 u59 u60 u61 u62 u63 u64 u65 u66 u67 u68 u69 u70 u71 u72 u73 u74 u75 u76 u77 u78 u79 u80 u81 u82 u83 u84 u85 u86 u87 u88 u89 u90 u91 u92 u93 u94 u95 u96 u97 u98 u99 u100 u101 u102 u103 u104 u105 u106 u107 u108 u109 u110 u111 u112 u113 u114 u115 u116 u117 u118 u119 u120 u121 u122 u123 u124 u125 u126 u127 u128 u129 u130 u131 u132 u133 u134 u135 u136 u137 u138 u139 u140 u141 u142 u143 u144 u145 u146 u147 u148 u149 u150 u151 u152 u153 u154 u155 u156 u157 u158 u159 u160 u161 u162 u163 u164 u165 u166 : Value} {ad : Addr} {A10 : Option Addr} {nl c0 n10 c10 i d : Nat} {code : List UInt8}
    (hapc : ad.block < W.heap.size)
    (hil : i < nl)
    (f0 : W.cell? (ad.add (i * 4)) = some (strV code))
    (KC : ∀ W', Go.RowKit.Below W.heap.size W W' → Calls Try.prog 10 #[.slice A10 n10 c10] W' fun e w' => e = .returned (.int .i64 0) ∧ Go.RowKit.Below W'.heap.size W' w')
    (KDm : ∀ W', Go.RowKit.Below W.heap.size W W' → Calls Try.prog 19 #[.slice A10 n10 c10, .string ⟨code.toArray⟩] W' fun e w' => e = .returned (.int .i64 (d : Nat)) ∧ Go.RowKit.Below W'.heap.size W' w')
    (KDl : ∀ W', Go.RowKit.Below W.heap.size W W' → Calls Try.prog 19 #[.slice (some ad) nl c0, .string ⟨code.toArray⟩] W' fun e w' => e = .returned (.int .i64 (d : Nat)) ∧ Go.RowKit.Below W'.heap.size W' w')
    (hQ : ∀ (W' : World) (c147 c148 c149 c150 c151 c152 c153 c154 c155 c156 c157 c158 c159 c160 c161 c162 c163 c164 c165 : Value), Go.RowKit.Below W.heap.size W W' → Q .normal ⟨List.toArray (.slice (some ad) nl c0 :: u1 :: u2 :: u3 :: u4 :: .slice A10 n10 c10 :: u6 :: u7 :: u8 :: u9 :: u10 :: .int .i64 (i : Nat) :: u12 :: u13 :: u14 :: u15 :: u16 :: u17 :: u18 :: u19 :: u20 :: u21 :: u22 :: u23 :: u24 :: u25 :: u26 :: u27 :: u28 :: u29 :: u30 :: u31 :: u32 :: u33 :: u34 :: u35 :: u36 :: u37 :: u38 :: u39 :: u40 :: u41 :: u42 :: u43 :: u44 :: u45 :: u46 :: u47 :: u48 :: u49 :: u50 :: u51 :: u52 :: u53 :: u54 :: u55 :: u56 :: u57 :: u58 :: u59 :: u60 :: u61 :: u62 :: u63 :: u64 :: u65 :: u66 :: u67 :: u68 :: u69 :: u70 :: u71 :: u72 :: u73 :: u74 :: u75 :: u76 :: u77 :: u78 :: u79 :: u80 :: u81 :: u82 :: u83 :: u84 :: u85 :: u86 :: u87 :: u88 :: u89 :: u90 :: u91 :: u92 :: u93 :: u94 :: u95 :: u96 :: u97 :: u98 :: u99 :: u100 :: u101 :: u102 :: u103 :: u104 :: u105 :: u106 :: u107 :: u108 :: u109 :: u110 :: u111 :: u112 :: u113 :: u114 :: u115 :: u116 :: u117 :: u118 :: u119 :: u120 :: u121 :: u122 :: u123 :: u124 :: u125 :: u126 :: u127 :: u128 :: u129 :: u130 :: u131 :: u132 :: u133 :: u134 :: u135 :: u136 :: u137 :: u138 :: u139 :: u140 :: u141 :: u142 :: u143 :: u144 :: u145 :: u146 :: c147 :: c148 :: c149 :: c150 :: c151 :: c152 :: c153 :: c154 :: c155 :: c156 :: c157 :: c158 :: c159 :: c160 :: c161 :: c162 :: c163 :: c164 :: c165 :: .bool false :: []), []⟩ W') :
    Code.wp Try.prog c Q ⟨List.toArray (.slice (some ad) nl c0 :: u1 :: u2 :: u3 :: u4 :: .slice A10 n10 c10 :: u6 :: u7 :: u8 :: u9 :: u10 :: .int .i64 (i : Nat) :: u12 :: u13 :: u14 :: u15 :: u16 :: u17 :: u18 :: u19 :: u20 :: u21 :: u22 :: u23 :: u24 :: u25 :: u26 :: u27 :: u28 :: u29 :: u30 :: u31 :: u32 :: u33 :: u34 :: u35 :: u36 :: u37 :: u38 :: u39 :: u40 :: u41 :: u42 :: u43 :: u44 :: u45 :: u46 :: u47 :: u48 :: u49 :: u50 :: u51 :: u52 :: u53 :: u54 :: u55 :: u56 :: u57 :: u58 :: u59 :: u60 :: u61 :: u62 :: u63 :: u64 :: u65 :: u66 :: u67 :: u68 :: u69 :: u70 :: u71 :: u72 :: u73 :: u74 :: u75 :: u76 :: u77 :: u78 :: u79 :: u80 :: u81 :: u82 :: u83 :: u84 :: u85 :: u86 :: u87 :: u88 :: u89 :: u90 :: u91 :: u92 :: u93 :: u94 :: u95 :: u96 :: u97 :: u98 :: u99 :: u100 :: u101 :: u102 :: u103 :: u104 :: u105 :: u106 :: u107 :: u108 :: u109 :: u110 :: u111 :: u112 :: u113 :: u114 :: u115 :: u116 :: u117 :: u118 :: u119 :: u120 :: u121 :: u122 :: u123 :: u124 :: u125 :: u126 :: u127 :: u128 :: u129 :: u130 :: u131 :: u132 :: u133 :: u134 :: u135 :: u136 :: u137 :: u138 :: u139 :: u140 :: u141 :: u142 :: u143 :: u144 :: u145 :: u146 :: u147 :: u148 :: u149 :: u150 :: u151 :: u152 :: u153 :: u154 :: u155 :: u156 :: u157 :: u158 :: u159 :: u160 :: u161 :: u162 :: u163 :: u164 :: u165 :: u166 :: []), []⟩ W := by
  subst hc
  conv => arg 2; whnf
  have HKC := Lib.hid KC
  have HKDm := Lib.hid KDm
  have HKDl := Lib.hid KDl
  have HQ := Lib.hid hQ
  have HWC := Lib.hid (Below.refl W.heap.size W)
  clear hQ KC KDm KDl
  go_region_held3 (fun w' => w'.cell? (ad.add (i * 4)) = some (strV code)) (go_keep)
    (first
      | (go_at_call 10; ((with_reducible refine (HKC.out _ (by first | exact hbq | exact HWC.out.drew)).mono ?_); rintro e w8 ⟨rfl, hb8⟩; have hk1 := (hb8.cell (p := ad.add (i * 4)) (by rw [addr_block]; first | exact hap8 | exact hapc)).trans (by first | exact hk1 | exact f0); have hap8 := Nat.lt_of_lt_of_le (by first | exact hap8 | exact hapc) hb8.size; have hbq := Below.trans (by first | exact hbq | exact HWC.out.drew) (hb8.mono (by first | exact hbq.size | exact HWC.out.drew.size))))
      | (go_at_call 19; ((with_reducible refine (HKDm.out _ (by first | exact hbq | exact HWC.out.drew)).mono ?_); rintro e w8 ⟨rfl, hb8⟩; have hk1 := (hb8.cell (p := ad.add (i * 4)) (by rw [addr_block]; first | exact hap8 | exact hapc)).trans (by first | exact hk1 | exact f0); have hap8 := Nat.lt_of_lt_of_le (by first | exact hap8 | exact hapc) hb8.size; have hbq := Below.trans (by first | exact hbq | exact HWC.out.drew) (hb8.mono (by first | exact hbq.size | exact HWC.out.drew.size))))
      | (go_at_call 19; ((with_reducible refine (HKDl.out _ (by first | exact hbq | exact HWC.out.drew)).mono ?_); rintro e w8 ⟨rfl, hb8⟩; have hk1 := (hb8.cell (p := ad.add (i * 4)) (by rw [addr_block]; first | exact hap8 | exact hapc)).trans (by first | exact hk1 | exact f0); have hap8 := Nat.lt_of_lt_of_le (by first | exact hap8 | exact hapc) hb8.size; have hbq := Below.trans (by first | exact hbq | exact HWC.out.drew) (hb8.mono (by first | exact hbq.size | exact HWC.out.drew.size)))))
  all_goals (first | exact HQ.out _ _ _ _ _ _ _ _ _ _ _ _ _ _ _ _ _ _ _ _ hbq | (go_wp2; exact HQ.out _ _ _ _ _ _ _ _ _ _ _ _ _ _ _ _ _ _ _ _ hbq))

end Kt
end Go.Proofs.Ytlgpambbghkffaa
end
section
/- storemanlaw07.item: the first one with a code. -/
namespace Go.Proofs.Ytlgpambbghkffaa
namespace Kt
open Go.ChangeShapes Go.WideShapes Go.ChangeAt Go.RowKit Go.Maps Go.Shelf
set_option linter.unusedVariables false

/-- An empty item's block. -/
abbrev zBox : Obj := .cells #[.string ⟨#[]⟩, .int .i64 0, .slice none 0 0, .slice none 0 0] 32
theorem zBox_cells {W : World} {B : Nat} (h : W.heap[B]? = some zBox) : (W.cell? ⟨B, 0, none⟩ = some (.string ⟨#[]⟩) ∧ W.cell? ⟨B, 1, none⟩ = some (.int .i64 0) ∧ W.cell? ⟨B, 2, none⟩ = some (.slice none 0 0) ∧ W.cell? ⟨B, 3, none⟩ = some (.slice none 0 0)) ∧
    W.frozen? ⟨B, 0, none⟩ = false ∧ W.frozen? ⟨B, 1, none⟩ = false ∧ W.frozen? ⟨B, 2, none⟩ = false ∧ W.frozen? ⟨B, 3, none⟩ = false := by
  refine ⟨⟨?_, ?_, ?_, ?_⟩, ?_, ?_, ?_, ?_⟩
  · rw [cell_of_row _ _ _ _ _ _ h]; rfl
  · rw [cell_of_row _ _ _ _ _ _ h]; rfl
  · rw [cell_of_row _ _ _ _ _ _ h]; rfl
  · rw [cell_of_row _ _ _ _ _ _ h]; rfl
  all_goals (simp [World.frozen?, h])
set_option maxRecDepth 100000 in
set_option maxHeartbeats 4000000 in
theorem item_any (v : Value) (l : List Iv) (c : List UInt8) (w : World) (hv : ISl w w.heap.size v l) (hs : SizedI l) (hlen : l.length ≤ 1099511627776) (hc : c.length ≤ maxLen) :
    Calls Try.prog 16 #[v, .string ⟨c.toArray⟩] w fun e w' => e = .returned (elI (firstC l c)) ∧ Go.RowKit.Below w.heap.size w w' := by
  obtain ⟨⟨A, k0, rfl, hc1, hc2, hcz, hl⟩, hsub⟩ := id hv
  have HL := Lib.hid hl
  have HU := Lib.hid hsub
  have HS : Hid (SizedI l) := Lib.hid hs
  obtain ⟨r, hr⟩ : ∃ r, firstC l c = r := ⟨_, rfl⟩
  rw [hr]
  have HR := Lib.hid hr
  clear hl hsub hv hs hr
  go_enter Try.func16, Try.ntmps16
  go_wp2
  go_loopw [5] (fun i wr => ∃ k : Nat, k ≤ l.length ∧ i = .int .i64 k ∧ Hid (Go.RowKit.Below w.heap.size w wr ∧ wr.heap[w.heap.size]? = some zBox) ∧ Hid (∀ y ∈ l.take k, y.it.code ≠ c)) (fun i _ => l.length - (intOf i).toNat)
  case atStart => exact ⟨0, Nat.zero_le _, rfl, Lib.hid ⟨below_alloc1 _ _, Go.heap_alloc_new w _⟩, Lib.hid (by simp)⟩
  case round =>
    obtain ⟨k, hk, rfl, HBZ, HN⟩ := hrel
    have HB := Lib.hid HBZ.out.1
    by_cases hlt : k < l.length
    · obtain ⟨x, hx⟩ : ∃ x, l[k]? = some x := ⟨_, List.getElem?_eq_getElem hlt⟩
      have hxm := List.mem_of_getElem? hx
      have HX := Lib.hid hx
      have hcs := (HS.out _ hxm).1
      obtain ⟨⟨code, life, ps⟩, os, pv, ov⟩ := x
      obtain ⟨Ap, cp, Ao, co, rfl, rfl, hcp, hcq⟩ := (HU.out _ hxm).form
      obtain ⟨ad, rfl, hab, x0, x1, x2, x3⟩ := (HL.out.below HB.out).rowI hx
      simp only at *
      clear hx hxm
      by_cases hpq : code = c
      · subst hpq
        have hf := firstC_yes HX.out HN.out rfl
        rw [HR.out] at hf
        subst hf
        obtain ⟨⟨c0, c1, c2, c3⟩, z0, z1, z2, z3⟩ := zBox_cells HBZ.out.2
        go_wp2
        refine bodyPost_ret (v := .agg #[strV code, .int .i64 life, .slice Ap ps.length cp, .slice Ao os.length co]) (by rw [results_cell1 rfl]; go_simp) rfl ?_
        exact ⟨rfl, (((HB.out.setCell (p := ⟨w.heap.size, 0, none⟩) (Nat.le_refl _) _).setCell (p := ⟨w.heap.size, 1, none⟩) (Nat.le_refl _) _).setCell (p := ⟨w.heap.size, 2, none⟩) (Nat.le_refl _) _).setCell (p := ⟨w.heap.size, 3, none⟩) (Nat.le_refl _) _⟩
      · have hbe : (code == c) = false := beq_eq_false_iff_ne.2 hpq
        have HPQ := Lib.hid hpq
        clear hpq
        go_wp2
        go_roundw
        case rel => exact ⟨k + 1, by omega, by go_num, HBZ, Lib.hid (by
          intro y hy
          rw [List.take_add_one, HX.out] at hy
          simp only [Option.toList, List.mem_append, List.mem_singleton] at hy
          exact hy.elim (HN.out y) (fun h => by subst h; exact HPQ.out))⟩
        case measure => simp [intOf]; omega
    · obtain rfl : k = l.length := by omega
      have hn := HN.out
      rw [List.take_of_length_le (Nat.le_refl _)] at hn
      have hf := firstC_no hn
      rw [HR.out] at hf
      subst hf
      clear hn
      obtain ⟨⟨c0, c1, c2, c3⟩, z0, z1, z2, z3⟩ := zBox_cells HBZ.out.2
      go_wp2
      refine bodyPost_ret (v := zI) (by rw [results_cell1 rfl]; go_simp) rfl ?_
      exact ⟨rfl, (((HB.out.setCell (p := ⟨w.heap.size, 0, none⟩) (Nat.le_refl _) _).setCell (p := ⟨w.heap.size, 1, none⟩) (Nat.le_refl _) _).setCell (p := ⟨w.heap.size, 2, none⟩) (Nat.le_refl _) _).setCell (p := ⟨w.heap.size, 3, none⟩) (Nat.le_refl _) _⟩
end Kt
end Go.Proofs.Ytlgpambbghkffaa
end
section
/- storemankit.Pick: any number brought into a range. -/
namespace Go.Proofs.Ytlgpambbghkffaa
open Go.ChangeShapes Go.WideShapes Go.ChangeAt Go.RowKit Go.Maps
set_option linter.unusedVariables false

theorem ret_int {a b : Int} (h : a = b) : Ending.returned (.int .i64 a) = .returned (.int .i64 b) := by rw [h]
/-- Some number from 0 on, below n. -/
def SomeBelow (n : Nat) (w : World) (e : Ending) (w' : World) : Prop := ∃ k : Nat, k < n ∧ e = .returned (.int .i64 (k : Int)) ∧ w = w'

theorem pick_any (x : Int) (n : Nat) (w : World) (h1 : 1 ≤ n) (h2 : n ≤ 1099511627776) (h3 : -9223372036854775808 ≤ x) (h4 : x ≤ 9223372036854775807) :
    Calls Try.prog 13 #[.int .i64 x, .int .i64 (n : Int)] w (SomeBelow n w) := by
  have hr1 := Int.tmod_lt_of_pos x (show (0 : Int) < (n : Int) by omega)
  have hr2 := Int.lt_tmod_of_pos x (show (0 : Int) < (n : Int) by omega)
  have hn0 : ((n : Int) == 0) = false := by simp; omega
  by_cases hneg : x.tmod n < 0
  · go_enter Try.func13, Try.ntmps13
    go_wp2
    go_ret
    exact ⟨(x.tmod n + n).toNat, by omega, ret_int (by rw [Int.toNat_of_nonneg (by omega)]), rfl⟩
  · go_enter Try.func13, Try.ntmps13
    go_wp2
    go_ret
    exact ⟨(x.tmod n).toNat, by omega, ret_int (by rw [Int.toNat_of_nonneg (by omega)]), rfl⟩

theorem pick_n (x : Int) (n : Nat) (N : Int) (w : World) (hN : (n : Int) = N) (h1 : 1 ≤ n) (h2 : n ≤ 1099511627776) (h3 : -9223372036854775808 ≤ x) (h4 : x ≤ 9223372036854775807) :
    Calls Try.prog 13 #[.int .i64 x, .int .i64 N] w (SomeBelow n w) := by
  subst hN
  exact pick_any x n w h1 h2 h3 h4

end Go.Proofs.Ytlgpambbghkffaa
end
section
/- storemanlaw07.among reads alone: told exactly. -/
namespace Go.Proofs.Ytlgpambbghkffaa
namespace Kt
open Go.ChangeShapes Go.WideShapes Go.ChangeAt Go.RowKit Go.Maps Go.Shelf
set_option linter.unusedVariables false

set_option maxHeartbeats 1000000 in
theorem among_q (s : List UInt8) (l : List (List UInt8)) (A : Option Addr) (c : Nat) (w : World) (h1 : Lies w w.heap.size A (tcells l)) (hl : l.length ≤ 1099511627776) (hlc : l.length ≤ c) (hcm : c ≤ maxLen) :
    Calls Try.prog 18 #[.string ⟨s.toArray⟩, .slice A l.length c] w fun e w' => e = .returned (.bool (decide (s ∈ l))) ∧ w' = w := by
  have H1 := Lib.hid h1
  clear h1
  go_enter Try.func18, Try.ntmps18
  go_wp2
  go_loopw [5] (fun i wr => wr = w ∧ ∃ k : Nat, k ≤ l.length ∧ i = .int .i64 k ∧ Hid (s ∉ l.take k)) (fun i _ => l.length - (intOf i).toNat)
  case atStart => exact ⟨rfl, 0, Nat.zero_le _, rfl, Lib.hid (by simp)⟩
  case round =>
    obtain ⟨rfl, k, hk, rfl, HTK⟩ := hrel
    by_cases hlt : k < l.length
    · obtain ⟨p, hp⟩ : ∃ p, l[k]? = some p := ⟨_, List.getElem?_eq_getElem hlt⟩
      obtain ⟨ap, rfl, _, hp0⟩ := H1.out.get (u := strV p) (j := k) (by unfold tcells; simp [hp])
      have HP := Lib.hid hp
      clear hp
      by_cases hpq : p = s
      · subst hpq
        go_wp2
        go_ret
        exact ⟨Cd.ret_bool (decide_eq_true (List.mem_of_getElem? HP.out)).symm, rfl⟩
      · have hbe : (p == s) = false := beq_eq_false_iff_ne.2 hpq
        have HPQ := Lib.hid hpq
        clear hpq
        go_wp2
        go_roundw
        case rel => exact ⟨trivial, k + 1, by omega, by go_num, Lib.hid (by rw [List.take_add_one, HP.out]; simp only [Option.toList, List.mem_append, List.mem_singleton]; exact fun h => h.elim HTK.out (fun h => HPQ.out h.symm))⟩
        case measure => simp [intOf]; omega
    · obtain rfl : k = l.length := by omega
      go_wp2
      go_ret
      have h := HTK.out
      rw [List.take_of_length_le (Nat.le_refl _)] at h
      exact ⟨Cd.ret_bool (decide_eq_false h).symm, rfl⟩
end Kt
end Go.Proofs.Ytlgpambbghkffaa
end
