/- Texts of this proof, one behind the other. -/
import Derived.Test.YtddnfikjfmfhfaaProg
import Derived.Shelf.SlSortCmp.Kit1
import Derived.Deep.LoopGhost
import Derived.ProofKit
import Derived.Lib.Hide
import Derived.Test.YtddnfikjfmfhfaaW04
import Derived.Test.YtddnfikjfmfhfaaW03
import Derived.Test.YtddnfikjfmfhfaaW02
import Derived.Test.YtddnfikjfmfhfaaW01
section
/- A want takes of its item's shelf: in plain words. No walk. -/
namespace Go.Proofs.Ytddnfikjfmfhfaa
set_option linter.unusedVariables false

/-- A want that stands at p takes of a shelf: what it takes, what it still wants, what is left of each lot, and on the shelf. -/
def takeS (p day : Int) : List Lt → Int → (Int → Int) → List Us × Int × (Int → Int) × List Lt
  | [], n, q => ([], n, q, [])
  | x :: r, n, q =>
    if n ≤ 0 then ([], n, q, x :: r)
    else if hasB x.fr x.un day = true then
      if q x.id - min n (q x.id) = 0 then
        (⟨p, x.id, min n (q x.id)⟩ :: (takeS p day r (n - min n (q x.id)) (Fl.bmp q x.id (-(min n (q x.id))))).1, (takeS p day r (n - min n (q x.id)) (Fl.bmp q x.id (-(min n (q x.id))))).2)
      else ([⟨p, x.id, min n (q x.id)⟩], n - min n (q x.id), Fl.bmp q x.id (-(min n (q x.id))), x :: r)
    else ((takeS p day r n q).1, (takeS p day r n q).2.1, (takeS p day r n q).2.2.1, x :: (takeS p day r n q).2.2.2)
theorem takeS_stop (p day : Int) (B : List Lt) (n : Int) (q : Int → Int) (h : n ≤ 0 ∨ B = []) : takeS p day B n q = ([], n, q, B) := by
  cases B with
  | nil => rfl
  | cons x r =>
    rcases h with h | h
    · unfold takeS; rw [if_pos h]
    · cases h
/-- How far it has come. -/
def Going (p day : Int) (sh0 : List Lt) (n0 : Int) (q0 : Int → Int) (A B : List Lt) (n : Int) (q : Int → Int) (V : List Us) : Prop :=
  takeS p day sh0 n0 q0 = (V ++ (takeS p day B n q).1, (takeS p day B n q).2.1, (takeS p day B n q).2.2.1, A ++ (takeS p day B n q).2.2.2)
theorem going_start (p day : Int) (sh0 : List Lt) (n0 : Int) (q0 : Int → Int) : Going p day sh0 n0 q0 [] sh0 n0 q0 [] := by unfold Going; simp
section
variable {p day : Int} {sh0 : List Lt} {n0 : Int} {q0 : Int → Int} {A r : List Lt} {x : Lt} {n : Int} {q : Int → Int} {V : List Us}
theorem Going.skip (h : Going p day sh0 n0 q0 A (x :: r) n q V) (hn : 0 < n) (hx : hasB x.fr x.un day = false) : Going p day sh0 n0 q0 (A ++ [x]) r n q V := by
  unfold Going at h ⊢
  rw [h]
  conv => lhs; unfold takeS
  rw [if_neg (by omega), if_neg (by simp [hx])]
  simp
theorem Going.used (h : Going p day sh0 n0 q0 A (x :: r) n q V) (hn : 0 < n) (hx : hasB x.fr x.un day = true) {t : Int} (ht : min n (q x.id) = t) (h0 : q x.id - t = 0) : Going p day sh0 n0 q0 A r (n - t) (Fl.bmp q x.id (-t)) (V ++ [⟨p, x.id, t⟩]) := by
  unfold Going at h ⊢
  rw [h]
  conv => lhs; unfold takeS
  rw [if_neg (by omega), if_pos hx, ht, if_pos h0]
  simp
theorem Going.some_ (h : Going p day sh0 n0 q0 A (x :: r) n q V) (hn : 0 < n) (hx : hasB x.fr x.un day = true) {t : Int} (ht : min n (q x.id) = t) (h0 : q x.id - t ≠ 0) : Going p day sh0 n0 q0 A (x :: r) (n - t) (Fl.bmp q x.id (-t)) (V ++ [⟨p, x.id, t⟩]) := by
  unfold Going at h ⊢
  rw [h, takeS_stop p day (x :: r) (n - t) _ (.inl (by omega))]
  conv => lhs; unfold takeS
  rw [if_neg (by omega), if_pos hx, ht, if_neg h0]
  simp
theorem Going.stop {B : List Lt} (h : Going p day sh0 n0 q0 A B n q V) (hs : n ≤ 0 ∨ B = []) : takeS p day sh0 n0 q0 = (V, n, q, A ++ B) := by
  unfold Going at h
  rw [h, takeS_stop p day B n q hs]
  simp
end
/-- Whose days and item it is. -/
def wantOf (w : Wt) : Lt → Bool := fun l => servesB l w
def useT (u : Us) : Int × Int × Int := (u.want, u.lot, u.qty)
/-- On the shelf of an item stands what has something left. -/
def shelfOf (S : List Lt) (q : Int → Int) (it : List UInt8) : List Lt := S.filter (fun x => decide (x.item = it) && decide (0 < q x.id))
theorem shelfOf_bmp {S : List Lt} {q : Int → Int} {it : List UInt8} {a t : Int} (h : ∀ x ∈ S, x.id ≠ a) : shelfOf S (Fl.bmp q a t) it = shelfOf S q it := by
  unfold shelfOf
  apply List.filter_congr
  intro x hx
  rw [Fl.bmp_other _ _ _ _ (h x hx)]
theorem takeG_stop (p : Int) (w : Wt) : ∀ (S : List Lt) (n : Int) (q : Int → Int), n ≤ 0 → Fl.takeG Lt.id servesB p w S n q = ([], n, q)
  | [], n, q, h => rfl
  | x :: r, n, q, h => by
    unfold Fl.takeG
    rw [if_neg (by omega)]
    exact takeG_stop p w r n q h
/-- Of the shelf is taken just what is taken of all lots. -/
theorem take_shelf (p : Int) (w : Wt) : ∀ (S : List Lt) (n : Int) (q : Int → Int), (S.map Lt.id).Nodup →
    let R := takeS p w.day (shelfOf S q w.item) n q
    let G := Fl.takeG Lt.id servesB p w S n q
    R.1.map useT = G.1 ∧ R.2.1 = G.2.1 ∧ R.2.2.1 = G.2.2 ∧ R.2.2.2 = shelfOf S G.2.2 w.item
  | [], n, q, _ => by simp [shelfOf, takeS, Fl.takeG]
  | x :: r, n, q, hn => by
    rw [List.map_cons, List.nodup_cons] at hn
    have hne : ∀ y ∈ r, y.id ≠ x.id := fun y hy e => hn.1 (by rw [← e]; exact List.mem_map_of_mem hy)
    by_cases hpos : 0 < n
    · by_cases hq : x.item = w.item ∧ 0 < q x.id
      · have hsh : shelfOf (x :: r) q w.item = x :: shelfOf r q w.item := by
          unfold shelfOf; rw [List.filter_cons, if_pos (by simp [hq.1, hq.2])]
        rw [hsh]
        by_cases hd : hasB x.fr x.un w.day = true
        · have hsv : servesB x w = true := by unfold servesB; rw [decide_eq_true hq.1, hd]; rfl
          obtain ⟨t, ht⟩ : ∃ t, min n (q x.id) = t := ⟨_, rfl⟩
          have ih := take_shelf p w r (n - t) (Fl.bmp q x.id (-t)) hn.2
          have e1 : Fl.takeG Lt.id servesB p w (x :: r) n q = ((p, x.id, t) :: (Fl.takeG Lt.id servesB p w r (n - t) (Fl.bmp q x.id (-t))).1, (Fl.takeG Lt.id servesB p w r (n - t) (Fl.bmp q x.id (-t))).2) := by
            conv => lhs; unfold Fl.takeG
            rw [if_pos ⟨hpos, hq.2, hsv⟩, ht]
          by_cases h0 : q x.id - t = 0
          · have e2 : takeS p w.day (x :: shelfOf r q w.item) n q = (⟨p, x.id, t⟩ :: (takeS p w.day (shelfOf r q w.item) (n - t) (Fl.bmp q x.id (-t))).1, (takeS p w.day (shelfOf r q w.item) (n - t) (Fl.bmp q x.id (-t))).2) := by
              conv => lhs; unfold takeS
              rw [if_neg (by omega), if_pos hd, ht, if_pos h0]
            rw [shelfOf_bmp hne] at ih
            simp only [e1, e2]
            obtain ⟨i1, i2, i3, i4⟩ := ih
            refine ⟨by simp only [List.map_cons, i1]; rfl, i2, i3, ?_⟩
            rw [i4]
            have hz : (Fl.takeG Lt.id servesB p w r (n - t) (Fl.bmp q x.id (-t))).2.2 x.id = 0 := by
              have key : ∀ (r : List Lt) (n : Int) (q : Int → Int), (∀ y ∈ r, y.id ≠ x.id) → (Fl.takeG Lt.id servesB p w r n q).2.2 x.id = q x.id := by
                intro r
                induction r with
                | nil => intro n q _; rfl
                | cons y s ih =>
                  intro n q hy
                  unfold Fl.takeG
                  split
                  · show (Fl.takeG Lt.id servesB p w s _ _).2.2 x.id = q x.id
                    rw [ih _ _ (fun z hz => hy z (by simp [hz])), Fl.bmp_other _ _ _ _ (Ne.symm (hy y (by simp)))]
                  · exact ih _ _ (fun z hz => hy z (by simp [hz]))
              rw [key r _ _ hne, Fl.bmp_same]; omega
            conv => rhs; unfold shelfOf
            rw [List.filter_cons, if_neg (by simp [hz])]
            rfl
          · have hnt : n - t = 0 := by omega
            have e2 : takeS p w.day (x :: shelfOf r q w.item) n q = ([⟨p, x.id, t⟩], n - t, Fl.bmp q x.id (-t), x :: shelfOf r q w.item) := by
              conv => lhs; unfold takeS
              rw [if_neg (by omega), if_pos hd, ht, if_neg h0]
            simp only [e1, e2, takeG_stop p w r (n - t) _ (by omega)]
            refine ⟨rfl, trivial, trivial, ?_⟩
            conv => rhs; unfold shelfOf
            rw [List.filter_cons, if_pos (by rw [Fl.bmp_same]; simp [hq.1]; omega)]
            congr 1
            exact (shelfOf_bmp (q := q) (it := w.item) (t := -t) hne).symm
        · have hd : hasB x.fr x.un w.day = false := by simpa using hd
          have hsv : servesB x w = false := by unfold servesB; rw [hd, Bool.and_false]
          have ih := take_shelf p w r n q hn.2
          have e1 : Fl.takeG Lt.id servesB p w (x :: r) n q = Fl.takeG Lt.id servesB p w r n q := by
            conv => lhs; unfold Fl.takeG
            rw [if_neg (by simp [hsv])]
          have e2 : takeS p w.day (x :: shelfOf r q w.item) n q = ((takeS p w.day (shelfOf r q w.item) n q).1, (takeS p w.day (shelfOf r q w.item) n q).2.1, (takeS p w.day (shelfOf r q w.item) n q).2.2.1, x :: (takeS p w.day (shelfOf r q w.item) n q).2.2.2) := by
            conv => lhs; unfold takeS
            rw [if_neg (by omega), if_neg (by simp [hd])]
          simp only [e1, e2]
          obtain ⟨i1, i2, i3, i4⟩ := ih
          refine ⟨i1, i2, i3, ?_⟩
          have hz : (Fl.takeG Lt.id servesB p w r n q).2.2 x.id = q x.id := by
            have key : ∀ (r : List Lt) (n : Int) (q : Int → Int), (∀ y ∈ r, y.id ≠ x.id) → (Fl.takeG Lt.id servesB p w r n q).2.2 x.id = q x.id := by
              intro r
              induction r with
              | nil => intro n q _; rfl
              | cons y s ih =>
                intro n q hy
                unfold Fl.takeG
                split
                · show (Fl.takeG Lt.id servesB p w s _ _).2.2 x.id = q x.id
                  rw [ih _ _ (fun z hz => hy z (by simp [hz])), Fl.bmp_other _ _ _ _ (Ne.symm (hy y (by simp)))]
                · exact ih _ _ (fun z hz => hy z (by simp [hz]))
            exact key r n q hne
          rw [i4]
          conv => rhs; unfold shelfOf
          rw [List.filter_cons, if_pos (by rw [hz]; simp [hq.1, hq.2])]
          rfl
      · have hsh : shelfOf (x :: r) q w.item = shelfOf r q w.item := by
          unfold shelfOf; rw [List.filter_cons, if_neg (by simp; intro h; exact Int.not_lt.1 (fun h2 => hq ⟨h, h2⟩))]
        have e1 : Fl.takeG Lt.id servesB p w (x :: r) n q = Fl.takeG Lt.id servesB p w r n q := by
          conv => lhs; unfold Fl.takeG
          rw [if_neg (fun h => hq ⟨by have := h.2.2; unfold servesB at this; simp at this; exact this.1, h.2.1⟩)]
        have ih := take_shelf p w r n q hn.2
        rw [hsh]
        simp only [e1]
        obtain ⟨i1, i2, i3, i4⟩ := ih
        refine ⟨i1, i2, i3, ?_⟩
        have hz : (Fl.takeG Lt.id servesB p w r n q).2.2 x.id = q x.id := by
          have key : ∀ (r : List Lt) (n : Int) (q : Int → Int), (∀ y ∈ r, y.id ≠ x.id) → (Fl.takeG Lt.id servesB p w r n q).2.2 x.id = q x.id := by
            intro r
            induction r with
            | nil => intro n q _; rfl
            | cons y s ih =>
              intro n q hy
              unfold Fl.takeG
              split
              · show (Fl.takeG Lt.id servesB p w s _ _).2.2 x.id = q x.id
                rw [ih _ _ (fun z hz => hy z (by simp [hz])), Fl.bmp_other _ _ _ _ (Ne.symm (hy y (by simp)))]
              · exact ih _ _ (fun z hz => hy z (by simp [hz]))
          exact key r n q hne
        rw [i4]
        conv => rhs; unfold shelfOf
        rw [List.filter_cons, if_neg (by rw [hz]; simp; intro h; exact Int.not_lt.1 (fun h2 => hq ⟨h, h2⟩))]
        rfl
    · rw [takeG_stop p w _ n q (by omega), takeS_stop p w.day _ n q (.inl (by omega))]
      exact ⟨rfl, rfl, rfl, rfl⟩
/-- A want's taking leaves the shelves of other items as they were. -/
theorem shelf_other (p : Int) (w : Wt) (it : List UInt8) (hit : it ≠ w.item) : ∀ (S : List Lt) (n : Int) (q : Int → Int), (S.map Lt.id).Nodup → ∀ T : List Lt, (∀ x ∈ S, ∀ y ∈ T, y.id = x.id → y = x) → shelfOf T (Fl.takeG Lt.id servesB p w S n q).2.2 it = shelfOf T q it
  | [], n, q, _, T, _ => rfl
  | x :: r, n, q, hn, T, hT => by
    rw [List.map_cons, List.nodup_cons] at hn
    unfold Fl.takeG
    split
    · rename_i hc
      show shelfOf T (Fl.takeG Lt.id servesB p w r _ _).2.2 it = _
      rw [shelf_other p w it hit r _ _ hn.2 T (fun z hz => hT z (by simp [hz]))]
      unfold shelfOf
      apply List.filter_congr
      intro y hy
      by_cases e : y.id = x.id
      · have hyx := hT x (by simp) y hy e
        have hxi : x.item = w.item := by have := hc.2.2; unfold servesB at this; simp at this; exact this.1
        have : ¬ y.item = it := by rw [hyx, hxi]; exact Ne.symm hit
        simp [this]
      · rw [Fl.bmp_other _ _ _ _ e]
    · exact shelf_other p w it hit r n q hn.2 T (fun z hz => hT z (by simp [hz]))
end Go.Proofs.Ytddnfikjfmfhfaa
end
section
/- What serving has in memory: shelves, what is left, uses. No walk. -/
namespace Go.Proofs.Ytddnfikjfmfhfaa
open Go.ChangeShapes Go.WideShapes Go.ChangeAt Go.RowKit Go.Maps
set_option linter.unusedVariables false

/-- Serving's struct in block bs: shelves in bm (rows from base on, below bl), what is left in bl, uses behind bs. The shelf of one item, it0, is as it is being taken from: v, on which l stands. -/
structure Mid (w : World) (bs bm bl base n nl : Nat) (sv : List UInt8 → Value) (sh : List UInt8 → List Lt) (it0 : List UInt8) (v : Value) (l : List Lt) (uv : Value) (q : Int → Int) (S : Int → Prop) (U : List Us) : Prop where
  c0 : w.cell? ⟨bs, 0, none⟩ = some (.map (some bm))
  c1 : w.cell? ⟨bs, 1, none⟩ = some (.map (some bl))
  c2 : w.cell? ⟨bs, 2, none⟩ = some uv
  f2 : w.frozen? ⟨bs, 2, none⟩ = false
  map : ∃ S, SMap w bm n sv S
  rows : ∀ it, it ≠ it0 → w.ownsRow base 42 6 (sv it) (sh it).length (lcells (sh it))
  cur : w.ownsRow base 42 6 v l.length (lcells l)
  home : v.ownBlock = (sv it0).ownBlock
  apart : ∀ it it', it ≠ it' → ∀ g, (sv it).ownBlock = some g → (sv it').ownBlock ≠ some g
  left : IMap (.int .i64 0) w bl nl (fun i => .int .i64 (q i)) S
  uses : w.ownsRow (bs + 1) 44 3 uv U.length (ucells U)
  o1 : bm < base
  o2 : ∀ it g, (sv it).ownBlock = some g → base ≤ g ∧ g < bl
  o3 : base ≤ bl
  o4 : bl < bs
  o5 : bs < w.heap.size

section
variable {w w' : World} {bs bm bl base n nl : Nat} {sv : List UInt8 → Value} {sh : List UInt8 → List Lt} {it0 : List UInt8} {v : Value} {l : List Lt} {uv : Value} {q : Int → Int} {S : Int → Prop} {U : List Us}
theorem Mid.hb (h : Mid w bs bm bl base n nl sv sh it0 v l uv q S U) : ∀ g, v.ownBlock = some g → base ≤ g ∧ g < bl := fun g hg => h.o2 it0 g (by rw [← h.home]; exact hg)
/-- Something is done to blocks of which none is serving's. -/
theorem Mid.kept {row : Option Nat} (h : Mid w bs bm bl base n nl sv sh it0 v l uv q S U) (hg : w.grownBy w' row) (hr : ∀ g, row = some g → bs < g ∧ uv.ownBlock ≠ some g) : Mid w' bs bm bl base n nl sv sh it0 v l uv q S U := by
  have hcell : ∀ o, w'.cell? ⟨bs, o, none⟩ = w.cell? ⟨bs, o, none⟩ := fun o => World.cell?_of_block (hg.block bs h.o5 (fun e => by have := (hr bs e.symm).1; omega))
  have hfz : ∀ o, w'.frozen? ⟨bs, o, none⟩ = w.frozen? ⟨bs, o, none⟩ := fun o => World.frozen?_of_block (hg.block bs h.o5 (fun e => by have := (hr bs e.symm).1; omega))
  have hm : some bm ≠ row := fun e => by have := (hr bm e.symm).1; have := h.o1; have := h.o3; have := h.o4; omega
  have hl : some bl ≠ row := fun e => by have := (hr bl e.symm).1; have := h.o4; omega
  have hrow : ∀ {u : Value}, (∀ g, u.ownBlock = some g → g < bl) → u.ownBlock = none ∨ u.ownBlock ≠ row := fun {u} hu => by
    cases hub : u.ownBlock with
    | none => exact .inl rfl
    | some k => exact .inr (fun e => by have := (hr k e.symm).1; have := hu k hub; have := h.o4; omega)
  obtain ⟨S', hS⟩ := h.map
  exact { c0 := (hcell 0).trans h.c0, c1 := (hcell 1).trans h.c1, c2 := (hcell 2).trans h.c2, f2 := (hfz 2).trans h.f2, map := ⟨S', hS.kept hg hm⟩, rows := fun it hit => (h.rows it hit).kept hg (hrow (fun g hg => (h.o2 it g hg).2)), cur := h.cur.kept hg (hrow (fun g hg => (h.hb g hg).2)), home := h.home, apart := h.apart, left := h.left.kept hg hl, uses := h.uses.kept hg (by
    cases hub : uv.ownBlock with
    | none => exact .inl rfl
    | some k => exact .inr (fun e => (hr k e.symm).2 hub)), o1 := h.o1, o2 := h.o2, o3 := h.o3, o4 := h.o4, o5 := Nat.lt_of_lt_of_le h.o5 hg.size }
theorem Mid.still (h : Mid w bs bm bl base n nl sv sh it0 v l uv q S U) (hg : w.grownBy w' none) : Mid w' bs bm bl base n nl sv sh it0 v l uv q S U := h.kept hg (fun g e => by cases e)
theorem Mid.alloc (h : Mid w bs bm bl base n nl sv sh it0 v l uv q S U) (o : Obj) : Mid (w.alloc o) bs bm bl base n nl sv sh it0 v l uv q S U := h.still (World.grownBy_alloc _ _ _)
theorem Mid.drew (h : Mid w bs bm bl base n nl sv sh it0 v l uv q S U) (k : Nat) : Mid (w.drewN k) bs bm bl base n nl sv sh it0 v l uv q S U := h.still (draws_none w k)
theorem set_grown (w : World) (p : Addr) (v : Value) : w.grownBy (w.setCell p v) (some p.block) := ⟨rfl, rfl, rfl, by simp, fun k hk hne => RowKit.Below.heap_setCell _ _ _ _ (fun e => hne (by rw [e]))⟩
/-- One use more: the row of uses is grown, and the struct is told. -/
theorem Mid.used {w1 : World} {uv' : Value} {u : Us} (h : Mid w bs bm bl base n nl sv sh it0 v l uv q S U) (hg : w.grownBy w1 uv.ownBlock) (hw : uv'.ownBlock = uv.ownBlock ∨ uv'.ownBlock = some w.heap.size) (ho : w1.ownsRow (bs + 1) 44 3 uv' (U.length + 1) (ucells (U ++ [u]))) :
    Mid (w1.setCell ⟨bs, 2, none⟩ uv') bs bm bl base n nl sv sh it0 v l uv' q S (U ++ [u]) := by
  have hu : ∀ g, uv.ownBlock = some g → bs < g := fun g hg => by have := (h.uses.lt g hg).1; omega
  have hcell : ∀ o, w1.cell? ⟨bs, o, none⟩ = w.cell? ⟨bs, o, none⟩ := fun o => World.cell?_of_block (hg.block bs h.o5 (fun e => by have := hu bs e.symm; omega))
  have hfz : ∀ o, w1.frozen? ⟨bs, o, none⟩ = w.frozen? ⟨bs, o, none⟩ := fun o => World.frozen?_of_block (hg.block bs h.o5 (fun e => by have := hu bs e.symm; omega))
  have hs := set_grown w1 ⟨bs, 2, none⟩ uv'
  have hrow : ∀ {x : Value}, (∀ g, x.ownBlock = some g → g < bl) → x.ownBlock = none ∨ x.ownBlock ≠ uv.ownBlock := fun {x} hx => by
    cases hxb : x.ownBlock with
    | none => exact .inl rfl
    | some k => exact .inr (fun e => by have := hu k e.symm; have := hx k hxb; have := h.o4; omega)
  have hrow2 : ∀ {x : Value}, (∀ g, x.ownBlock = some g → g < bl) → x.ownBlock = none ∨ x.ownBlock ≠ some bs := fun {x} hx => by
    cases hxb : x.ownBlock with
    | none => exact .inl rfl
    | some k => exact .inr (fun e => by cases e; have := hx bs hxb; have := h.o4; omega)
  obtain ⟨S', hS⟩ := h.map
  have h1 := h.o1
  have h3 := h.o3
  have h4 := h.o4
  have h5 := h.o5
  have hz := hg.size
  have hne2 : ∀ o, o ≠ 2 → (w1.setCell ⟨bs, 2, none⟩ uv').cell? ⟨bs, o, none⟩ = w1.cell? ⟨bs, o, none⟩ := fun o ho => World.cell?_setCell_other _ _ _ _ (by intro e; simp only [Addr.mk.injEq] at e; exact ho (by omega))
  refine { c0 := ((hne2 0 (by omega)).trans (hcell 0)).trans h.c0, c1 := ((hne2 1 (by omega)).trans (hcell 1)).trans h.c1, c2 := World.cell?_setCell_same' _ _ _ (by rw [hcell 2, h.c2]; rfl), f2 := by rw [World.frozen?_setCell, hfz 2, h.f2], map := ⟨S', (hS.kept hg (fun e => by have := hu bm e.symm; omega)).kept hs (by simp; omega)⟩, rows := fun it hit => ((h.rows it hit).kept hg (hrow (fun g hg => (h.o2 it g hg).2))).kept hs (hrow2 (fun g hg => (h.o2 it g hg).2)), cur := (h.cur.kept hg (hrow (fun g hg => (h.hb g hg).2))).kept hs (hrow2 (fun g hg => (h.hb g hg).2)), home := h.home, apart := h.apart, left := (h.left.kept hg (fun e => by have := hu bl e.symm; omega)).kept hs (by simp; omega), uses := ?_, o1 := h.o1, o2 := h.o2, o3 := h.o3, o4 := h.o4, o5 := by simp; omega }
  rw [List.length_append]
  refine ho.kept hs ?_
  cases hub : uv'.ownBlock with
  | none => exact .inl rfl
  | some k =>
    refine .inr (fun e => ?_)
    cases e
    have := (ho.lt bs hub).1
    omega
/-- What is left of a lot is told. -/
theorem Mid.told {w1 : World} {a : Int} {t : Int} (h : Mid w bs bm bl base n nl sv sh it0 v l uv q S U) (hg : w.grownBy w1 (some bl)) (hm : IMap (.int .i64 0) w1 bl nl (updK (fun i => .int .i64 (q i)) a (.int .i64 (q a - t))) S) :
    Mid w1 bs bm bl base n nl sv sh it0 v l uv (Fl.bmp q a (-t)) S U := by
  have h1 := h.o1
  have h3 := h.o3
  have h4 := h.o4
  have hcell : ∀ o, w1.cell? ⟨bs, o, none⟩ = w.cell? ⟨bs, o, none⟩ := fun o => World.cell?_of_block (hg.block bs h.o5 (by simp; omega))
  have hfz : ∀ o, w1.frozen? ⟨bs, o, none⟩ = w.frozen? ⟨bs, o, none⟩ := fun o => World.frozen?_of_block (hg.block bs h.o5 (by simp; omega))
  have hrow : ∀ {x : Value}, (∀ g, x.ownBlock = some g → g < bl) → x.ownBlock = none ∨ x.ownBlock ≠ some bl := fun {x} hx => by
    cases hxb : x.ownBlock with
    | none => exact .inl rfl
    | some k => exact .inr (fun e => by cases e; have := hx bl hxb; omega)
  obtain ⟨S', hS⟩ := h.map
  obtain ⟨D, d1, d2, d3⟩ := hm
  exact { c0 := (hcell 0).trans h.c0, c1 := (hcell 1).trans h.c1, c2 := (hcell 2).trans h.c2, f2 := (hfz 2).trans h.f2, map := ⟨S', hS.kept hg (by simp; omega)⟩, rows := fun it hit => (h.rows it hit).kept hg (hrow (fun g hg => (h.o2 it g hg).2)), cur := h.cur.kept hg (hrow (fun g hg => (h.hb g hg).2)), home := h.home, apart := h.apart, left := ⟨D, d1, fun i => by
      rw [d2]
      by_cases e : i = a
      · subst e; simp [updK, Fl.bmp, Int.sub_eq_add_neg]
      · simp [updK, Fl.bmp, e], d3⟩, uses := h.uses.kept hg (by
    cases hub : uv.ownBlock with
    | none => exact .inl rfl
    | some k => exact .inr (fun e => by cases e; have := (h.uses.lt bl hub).1; omega)), o1 := h.o1, o2 := h.o2, o3 := h.o3, o4 := h.o4, o5 := Nat.lt_of_lt_of_le h.o5 hg.size }
/-- The shelf itself is turned. -/
theorem Mid.turned {w1 : World} {v' : Value} {l' : List Lt} {g : Nat} (h : Mid w bs bm bl base n nl sv sh it0 v l uv q S U) (hv : v.ownBlock = some g) (hg : w.grownBy w1 (some g)) (ho : w1.ownsRow base 42 6 v' l'.length (lcells l')) (hv' : v'.ownBlock = some g) :
    Mid w1 bs bm bl base n nl sv sh it0 v' l' uv q S U := by
  have h1 := h.o1
  have h3 := h.o3
  have h4 := h.o4
  have hgb := h.hb g hv
  have hcell : ∀ o, w1.cell? ⟨bs, o, none⟩ = w.cell? ⟨bs, o, none⟩ := fun o => World.cell?_of_block (hg.block bs h.o5 (by simp; omega))
  have hfz : ∀ o, w1.frozen? ⟨bs, o, none⟩ = w.frozen? ⟨bs, o, none⟩ := fun o => World.frozen?_of_block (hg.block bs h.o5 (by simp; omega))
  obtain ⟨S', hS⟩ := h.map
  exact { c0 := (hcell 0).trans h.c0, c1 := (hcell 1).trans h.c1, c2 := (hcell 2).trans h.c2, f2 := (hfz 2).trans h.f2, map := ⟨S', hS.kept hg (by simp; omega)⟩, rows := fun it hit => (h.rows it hit).kept hg (by
      cases hxb : (sv it).ownBlock with
      | none => exact .inl rfl
      | some k => exact .inr (fun e => by cases e; exact h.apart it0 it (Ne.symm hit) g (by rw [← h.home]; exact hv) hxb)), cur := ho, home := by rw [hv', ← hv]; exact h.home, apart := h.apart, left := h.left.kept hg (by simp; omega), uses := h.uses.kept hg (by
    cases hub : uv.ownBlock with
    | none => exact .inl rfl
    | some k => exact .inr (fun e => by cases e; have := (h.uses.lt g hub).1; omega)), o1 := h.o1, o2 := h.o2, o3 := h.o3, o4 := h.o4, o5 := Nat.lt_of_lt_of_le h.o5 hg.size }
/-- What stands at an item is put back. -/
theorem Mid.back {w1 : World} {n' : Nat} {S' : List UInt8 → Prop} (h : Mid w bs bm bl base n nl sv sh it0 v l uv q S U) (hg : w.grownBy w1 (some bm)) (hm : SMap w1 bm n' (updK sv it0 v) S') :
    ∀ it, Mid w1 bs bm bl base n' nl (updK sv it0 v) (updL sh it0 l) it (updK sv it0 v it) (updL sh it0 l it) uv q S U := fun it => by
  have h1 := h.o1
  have h3 := h.o3
  have h4 := h.o4
  have hcell : ∀ o, w1.cell? ⟨bs, o, none⟩ = w.cell? ⟨bs, o, none⟩ := fun o => World.cell?_of_block (hg.block bs h.o5 (by simp; omega))
  have hfz : ∀ o, w1.frozen? ⟨bs, o, none⟩ = w.frozen? ⟨bs, o, none⟩ := fun o => World.frozen?_of_block (hg.block bs h.o5 (by simp; omega))
  have hrow : ∀ {x : Value}, (∀ g, x.ownBlock = some g → base ≤ g ∧ g < bl) → x.ownBlock = none ∨ x.ownBlock ≠ some bm := fun {x} hx => by
    cases hxb : x.ownBlock with
    | none => exact .inl rfl
    | some k => exact .inr (fun e => by cases e; have := (hx bm hxb).1; omega)
  have hown : ∀ y, (updK sv it0 v y).ownBlock = (sv y).ownBlock := fun y => by
    by_cases e : y = it0
    · subst e; rw [updK_same]; exact h.home
    · rw [updK_other _ _ _ _ e]
  have hall : ∀ y, w1.ownsRow base 42 6 (updK sv it0 v y) (updL sh it0 l y).length (lcells (updL sh it0 l y)) := fun y => by
    by_cases e : y = it0
    · subst e; rw [updK_same, updL_same]; exact h.cur.kept hg (hrow h.hb)
    · rw [updK_other _ _ _ _ e, updL_other _ _ _ _ e]; exact (h.rows y e).kept hg (hrow (h.o2 y))
  exact { c0 := (hcell 0).trans h.c0, c1 := (hcell 1).trans h.c1, c2 := (hcell 2).trans h.c2, f2 := (hfz 2).trans h.f2, map := ⟨S', hm⟩, rows := fun y _ => hall y, cur := hall it, home := rfl, apart := fun y y' hne g hy => by rw [hown] at hy ⊢; exact h.apart y y' hne g hy, left := h.left.kept hg (by simp; omega), uses := h.uses.kept hg (by
    cases hub : uv.ownBlock with
    | none => exact .inl rfl
    | some k => exact .inr (fun e => by cases e; have := (h.uses.lt bm hub).1; omega)), o1 := h.o1, o2 := fun y g hy => h.o2 y g (by rw [← hown]; exact hy), o3 := h.o3, o4 := h.o4, o5 := Nat.lt_of_lt_of_le h.o5 hg.size }
end
/-- What is left as it was while serving goes on from w to w': all below the shelves, and all behind the struct but the row of uses. -/
structure Fr (w w' : World) (bm bs : Nat) (uv0 uv : Value) : Prop where
  below : Below bm w w'
  keep : ∀ i, bs < i → i < w.heap.size → uv0.ownBlock ≠ some i → w'.heap[i]? = w.heap[i]?
  home : ∀ g, uv.ownBlock = some g → uv0.ownBlock = some g ∨ w.heap.size ≤ g
theorem Fr.refl (w : World) (bm bs : Nat) (uv0 : Value) : Fr w w bm bs uv0 uv0 := ⟨Below.refl _ _, fun _ _ _ _ => rfl, fun g h => .inl h⟩
theorem Fr.step {w w1 w2 : World} {bm bs : Nat} {uv0 uv : Value} {row : Option Nat} (h : Fr w w1 bm bs uv0 uv) (hg : w1.grownBy w2 row) (hbm : bm ≤ w.heap.size) (hr : ∀ g, row = some g → bm ≤ g ∧ (g ≤ bs ∨ uv0.ownBlock = some g ∨ w.heap.size ≤ g)) : Fr w w2 bm bs uv0 uv :=
  ⟨h.below.grown hg (by have := h.below.size; omega) (fun g e => (hr g e).1), fun i h1 h2 h3 => (hg.block i (Nat.lt_of_lt_of_le h2 h.below.size) (fun e => by
    rcases (hr i e.symm).2 with h4 | h4 | h4
    · omega
    · exact h3 h4
    · omega)).trans (h.keep i h1 h2 h3), h.home⟩
theorem Fr.still {w w1 w2 : World} {bm bs : Nat} {uv0 uv : Value} (h : Fr w w1 bm bs uv0 uv) (hg : w1.grownBy w2 none) (hbm : bm ≤ w.heap.size) : Fr w w2 bm bs uv0 uv := h.step hg hbm (fun g e => by cases e)
theorem Fr.uses {w w1 : World} {bm bs : Nat} {uv0 uv uv' : Value} (h : Fr w w1 bm bs uv0 uv) (hw : uv'.ownBlock = uv.ownBlock ∨ ∃ g, uv'.ownBlock = some g ∧ w.heap.size ≤ g) : Fr w w1 bm bs uv0 uv' :=
  ⟨h.below, h.keep, fun g hg => by
    rcases hw with hw | ⟨g', hw, hz⟩
    · exact h.home g (by rw [← hw]; exact hg)
    · rw [hw] at hg; cases hg; exact .inr hz⟩
theorem Fr.trans {a b c : World} {bm bs : Nat} {u0 u1 u2 : Value} (h : Fr a b bm bs u0 u1) (k : Fr b c bm bs u1 u2) : Fr a c bm bs u0 u2 :=
  ⟨h.below.trans k.below, fun i h1 h2 h3 => (k.keep i h1 (Nat.lt_of_lt_of_le h2 h.below.size) (fun e => by
    rcases h.home i e with h4 | h4
    · exact h3 h4
    · omega)).trans (h.keep i h1 h2 h3), fun g hg => by
    rcases k.home g hg with h4 | h4
    · exact h.home g h4
    · exact .inr (Nat.le_trans h.below.size h4)⟩
theorem Fr.cell {w w' : World} {bm bs : Nat} {uv0 uv : Value} (h : Fr w w' bm bs uv0 uv) {i : Nat} (h1 : bs < i) (h2 : i < w.heap.size) (h3 : uv0.ownBlock ≠ some i) (o : Nat) : w'.cell? ⟨i, o, none⟩ = w.cell? ⟨i, o, none⟩ := World.cell?_of_block (h.keep i h1 h2 h3)
end Go.Proofs.Ytddnfikjfmfhfaa
end
section
/- What a walk through the stable sort leans on at this translation; ranges that change places (swapRangeCmpFunc), rows that are turned (rotateCmpFunc). -/
namespace Go.Proofs.Ytddnfikjfmfhfaa
namespace I1
open Go.ChangeShapes Go.WideShapes Go.ChangeAt Go.RowKit Go.Shelf Go.Lib Go.Sort Go.Proofs
set_option linter.unusedVariables false
variable {α : Type} [Inhabited α]

set_option maxHeartbeats 4000000 in
set_option maxRecDepth 1000000 in
theorem swapRange_any (enc : α → Value) (g : Nat) (cb : Array Value) (blk off cap a b n : Nat) (d0 d : Array α) (w0 w : World)
    (R : Row1 enc w0 blk off d0) (hs : d.size = d0.size) (S : SW enc w0 blk off d w) (hab : a + n ≤ b) (hb : b + n ≤ d.size) (hsz : d.size < 1152921504606846976) :
    Calls Try.prog 93 #[.slice (some ⟨blk, off, none⟩) d.size cap, .int .i64 a, .int .i64 b, .int .i64 n, .func (.func g) #[] cb] w fun e w' =>
      e = .returned (.tuple #[]) ∧ ∃ d', SW enc w0 blk off d' w' ∧ Swapped d a b n d' ∧ PermIn a (b + n) d d' := by
  have mixed : Try.prog.follows .mixedOrders = true := by kernel_rfl
  have S0 : Hid (SW enc w0 blk off d w) := Lib.hid S
  clear S
  go_enter Try.func93, Try.ntmps93
  go_wp2
  go_loopg [10] n (fun kx s10 wr => ∃ (i : Nat) (dk : Array α), s10 = .int .i64 i ∧ i ≤ n ∧ n - i ≤ kx ∧ Hid (SW enc w0 blk off dk wr) ∧ Hid (Swapped d a b i dk) ∧ Hid (PermIn a (b + n) d dk))
  case atStart => exact ⟨0, d, rfl, Nat.zero_le _, by omega, S0, Lib.hid (swapped_start _ _ _), Lib.hid (permIn_refl _ _ _)⟩
  case round =>
    clear S0
    obtain ⟨i, dk, rfl, hi, hkx, S1, HSw, HP⟩ := hrel
    by_cases hlt : i < n
    · have hds : Hid (dk.size = d.size) := Lib.hid HSw.out.1
      have hz := hds.out
      have pa : (0 : Int) ≤ (a : Int) + (i : Int) := by omega
      have ba : (a : Int) + (i : Int) < (d.size : Int) := by omega
      have ra : IntKind.i64.wrap ((a : Int) + (i : Int)) = (a : Int) + (i : Int) := by rw [IntKind.wrap_i64]; omega
      have pc : (0 : Int) ≤ (b : Int) + (i : Int) := by omega
      have bc : (b : Int) + (i : Int) < (d.size : Int) := by omega
      have rc : IntKind.i64.wrap ((b : Int) + (i : Int)) = (b : Int) + (i : Int) := by rw [IntKind.wrap_i64]; omega
      obtain ⟨iN, hiN⟩ : ∃ q, q = (a + i) := ⟨_, rfl⟩
      obtain ⟨jN, hjN⟩ : ∃ q, q = (b + i) := ⟨_, rfl⟩
      have ea : ((a : Int) + (i : Int)).toNat = iN := by omega
      have ec : ((b : Int) + (i : Int)).toNat = jN := by omega
      obtain ⟨xN, hxN⟩ : ∃ q, q = dk[a + i]! := ⟨_, rfl⟩
      obtain ⟨yN, hyN⟩ : ∃ q, q = dk[b + i]! := ⟨_, rfl⟩
      have S2 : Hid (SW enc w0 blk off (swp dk (a + i) (b + i)) ((wr.setCell ⟨blk, off + iN, none⟩ (enc yN)).setCell ⟨blk, off + jN, none⟩ (enc xN)).drew) := Lib.hid (by rw [hiN, hjN, hxN, hyN]; exact S1.out.swapped R (a + i) (b + i) (by omega) (by omega))
      have ca := S1.out.c1 R (by omega) (a + i) (by omega)
      have cb' := S1.out.c1 R (by omega) (b + i) (by omega)
      have fa := S1.out.f1 R (by omega) (a + i) (by omega)
      have fb := S1.out.f1 R (by omega) (b + i) (by omega)
      obtain ⟨u', cc'⟩ := S1.out.c2 R (by omega) (a + i) (b + i) (by omega) (by omega) (enc yN)
      rw [← hjN, ← hiN] at cc'
      rw [← hxN, ← hiN] at ca
      rw [← hyN, ← hjN] at cb'
      rw [← hiN] at fa
      rw [← hjN] at fb
      have HIN := Lib.hid hiN
      have HJN := Lib.hid hjN
      have hcl0 := R.hO.cells
      simp only [Value.cells] at hcl0
      have hst := R.hO.store Try.prog
      clear S1 hz hxN hyN hiN hjN
      go_wp2_with fail
      go_big_region_o
      clear ca cb' cc' fa fb hcl0 hst
      generalize ((wr.setCell ⟨blk, off + iN, none⟩ (enc yN)).setCell ⟨blk, off + jN, none⟩ (enc xN)).drew = w2 at S2 ⊢
      clear ea ec
      go_wp2
      go_roundg (n - (i + 1))
      case measure => omega
      case rel =>
        exact ⟨i + 1, swp dk (a + i) (b + i), by go_num, by omega, Nat.le_refl _, S2, Lib.hid (HSw.out.step (by omega) (by omega)), Lib.hid (permIn_trans _ _ _ _ _ HP.out (swp_permIn _ _ _ _ _ (by omega) (by omega) (by omega) (by omega) (by have := hds.out; omega)))⟩
    · obtain rfl : i = n := by omega
      go_wp2
      go_end0
      exact ⟨rfl, dk, S1.out, HSw.out, HP.out⟩
end I1
end Go.Proofs.Ytddnfikjfmfhfaa
end
section
/- A row of an array is turned (slices.rotateCmpFunc). -/
namespace Go.Proofs.Ytddnfikjfmfhfaa
namespace I1
open Go.ChangeShapes Go.WideShapes Go.ChangeAt Go.RowKit Go.Shelf Go.Lib Go.Sort Go.Proofs
set_option linter.unusedVariables false
variable {α : Type} [Inhabited α]

theorem swapped_perm_in {d d' : Array α} {lo hi a b n : Nat} (h1 : lo ≤ a) (h2 : b + n ≤ hi) (hs : hi ≤ d.size) (hp : PermIn a (b + n) d d') : PermIn lo hi d d' := permIn_mono _ _ _ _ _ _ h1 h2 hs hp

set_option maxHeartbeats 4000000 in
set_option maxRecDepth 1000000 in
theorem rotate_any (enc : α → Value) (g : Nat) (cb : Array Value) (blk off cap a m b : Nat) (d0 d : Array α) (w0 w : World)
    (R : Row1 enc w0 blk off d0) (hs : d.size = d0.size) (S : SW enc w0 blk off d w) (ham : a < m) (hmb : m < b) (hb : b ≤ d.size) (hsz : d.size < 1152921504606846976) :
    Calls Try.prog 90 #[.slice (some ⟨blk, off, none⟩) d.size cap, .int .i64 a, .int .i64 m, .int .i64 b, .func (.func g) #[] cb] w fun e w' =>
      e = .returned (.tuple #[]) ∧ ∃ d', SW enc w0 blk off d' w' ∧ Turned d a m b d' := by
  have mixed : Try.prog.follows .mixedOrders = true := by kernel_rfl
  have S0 : Hid (SW enc w0 blk off d w) := Lib.hid S
  clear S
  have HS := Lib.hid hs
  clear hs
  go_enter Try.func90, Try.ntmps90
  go_wp2
  go_loopg [10, 11] (b - a) (fun kx s10 s11 wr => ∃ (i j : Nat) (dk : Array α), s10 = .int .i64 i ∧ s11 = .int .i64 j ∧ i + j ≤ kx ∧ Hid (SW enc w0 blk off dk wr) ∧ Hid (Turning d a m b i j dk))
  case atStart => exact ⟨m - a, b - m, d, by rw [show ((m - a : Nat) : Int) = (m : Int) - (a : Int) by omega], by rw [show ((b - m : Nat) : Int) = (b : Int) - (m : Int) by omega], by omega, S0, Lib.hid (turning_start ham hmb)⟩
  case round =>
    clear S0
    obtain ⟨i, j, dk, rfl, rfl, hkx, S1, HT⟩ := hrel
    have hi1 := HT.out.i1
    have hj1 := HT.out.j1
    have hi2 := HT.out.i2
    have hj2 := HT.out.j2
    have hds : Hid (dk.size = d.size) := Lib.hid HT.out.size
    have swR : ∀ (aa bb nn : Nat) (xa xb xn : Int), xa = aa → xb = bb → xn = nn → a ≤ aa → aa + nn ≤ bb → bb + nn ≤ b → ∀ (W : World), SW enc w0 blk off dk W →
        Calls Try.prog 93 #[.slice (some ⟨blk, off, none⟩) d.size cap, .int .i64 xa, .int .i64 xb, .int .i64 xn, .func (.func g) #[] cb] W fun e w' =>
          e = .returned (.tuple #[]) ∧ ∃ d', SW enc w0 blk off d' w' ∧ Swapped dk aa bb nn d' ∧ PermIn aa (bb + nn) dk d' := by
      intro aa bb nn xa xb xn ea eb en h1 h2 h3 W hW
      subst ea eb en
      have := swapRange_any enc g cb blk off cap aa bb nn d0 dk w0 W R (hds.out.trans HS.out) hW h2 (by have := hds.out; omega) (by have := hds.out; omega)
      rwa [hds.out] at this
    have SR := Lib.hid swR
    clear swR
    have him : (i : Int) ≤ (m : Int) := by omega
    have hjb : (m : Int) + (j : Int) ≤ (b : Int) := by omega
    by_cases hne : i = j
    · subst hne
      have hb1 : ((i : Int) != (i : Int)) = false := by simp
      have hb2 : ((i : Int) == (i : Int)) = true := by simp
      go_wp2_with (go_at_call 93; ((with_reducible refine (SR.out (m - i) m i ((m : Int) - (i : Int)) (m : Int) (i : Int) (by omega) (by omega) (by omega) (by omega) (by omega) (by omega) _ S1.out).mono ?_)); rintro e w2 ⟨rfl, d2, S2, hsw, hp⟩)
      go_end0
      exact ⟨rfl, d2, S2, HT.out.last ham hmb hsw (swapped_perm_in (by omega) (by omega) (by have := hds.out; omega) hp)⟩
    · have hb1 : ((i : Int) != (j : Int)) = true := by simp; omega
      have hb2 : ((i : Int) == (j : Int)) = false := by simp; omega
      by_cases hij : j < i
      · have hd : decide ((j : Int) < (i : Int)) = true := decide_eq_true (by omega)
        have hd2 : decide (j < i) = true := decide_eq_true (by omega)
        go_wp2_with (go_at_call 93; ((with_reducible refine (SR.out (m - i) m j ((m : Int) - (i : Int)) (m : Int) (j : Int) (by omega) (by omega) (by omega) (by omega) (by omega) (by omega) _ S1.out).mono ?_)); rintro e w2 ⟨rfl, d2, S2, hsw, hp⟩)
        have S2' := Lib.hid S2
        have HT2 := Lib.hid (HT.out.left hij ham hmb hsw (swapped_perm_in (by omega) (by omega) (by have := hds.out; omega) hp))
        clear S2 hsw hp
        go_roundg (i + j - 1)
        case measure => omega
        case rel => exact ⟨i - j, j, d2, by rw [show ((i - j : Nat) : Int) = (i : Int) - (j : Int) by omega], rfl, by omega, S2', HT2⟩
      · have hd : decide ((j : Int) < (i : Int)) = false := decide_eq_false (by omega)
        have hd2 : decide (j < i) = false := decide_eq_false (by omega)
        go_wp2_with (go_at_call 93; ((with_reducible refine (SR.out (m - i) (m + j - i) i ((m : Int) - (i : Int)) ((m : Int) + (j : Int) - (i : Int)) (i : Int) (by omega) (by omega) (by omega) (by omega) (by omega) (by omega) _ S1.out).mono ?_)); rintro e w2 ⟨rfl, d2, S2, hsw, hp⟩)
        have S2' := Lib.hid S2
        have HT2 := Lib.hid (HT.out.right (by omega) ham hmb hsw (swapped_perm_in (by omega) (by omega) (by have := hds.out; omega) hp))
        clear S2 hsw hp
        go_roundg (i + j - 1)
        case measure => omega
        case rel => exact ⟨i, j - i, d2, rfl, by rw [show ((j - i : Nat) : Int) = (j : Int) - (i : Int) by omega], by omega, S2', HT2⟩
end I1
end Go.Proofs.Ytddnfikjfmfhfaa
end
section
/- Merging in place where the left row is of one (slices.symMergeCmpFunc). -/
namespace Go.Proofs.Ytddnfikjfmfhfaa
namespace I1
open Go.ChangeShapes Go.WideShapes Go.ChangeAt Go.RowKit Go.Shelf Go.Lib Go.Sort Go.Proofs
set_option linter.unusedVariables false
variable {α : Type} [Inhabited α]

/-- What a merge answers. -/
def MergeTo (lt : α → α → Bool) (enc : α → Value) (w0 : World) (blk off a b : Nat) (d : Array α) (e : Ending) (w' : World) : Prop :=
  e = .returned (.tuple #[]) ∧ ∃ d', SW enc w0 blk off d' w' ∧ Merged lt a b d d'

set_option maxHeartbeats 4000000 in
set_option maxRecDepth 1000000 in
theorem symMerge_one (enc : α → Value) (cf : α → α → Int) (lt : α → α → Bool) (hS : SWO lt) (g : Nat) (cb : Array Value) (blk off cap a m b : Nat) (d0 d : Array α) (w0 w : World)
    (eg : ∀ args w, (callFunc g args).run Try.prog w = .ok (.enter g args) w) (hcmp : CmpLays1 Try.prog g cb enc cf blk off d0.size w0) (R : Row1 enc w0 blk off d0) (hs : d.size = d0.size) (S : SW enc w0 blk off d w) (hm : m = a + 1) (hmb : m < b) (hb : b ≤ d.size) (hsz : d.size < 1152921504606846976)
    (hM : Mrg lt (ltOf cf) a m b d) :
    Calls Try.prog 87 #[.slice (some ⟨blk, off, none⟩) d.size cap, .int .i64 a, .int .i64 m, .int .i64 b, .func (.func g) #[] cb] w (MergeTo lt enc w0 blk off a b d) := by
  have mixed : Try.prog.follows .mixedOrders = true := by kernel_rfl
  have S0 : Hid (SW enc w0 blk off d w) := Lib.hid S
  have HC := Lib.hid hcmp
  have HS := Lib.hid hs
  have HSW := Lib.hid hS
  have HM := Lib.hid hM
  have HA := Lib.hid hm
  have hma1 : (a : Int) + 1 ≤ (m : Int) := by omega
  have hma2 : (m : Int) ≤ (a : Int) + 1 := by omega
  have hb1 : ((m : Int) - (a : Int) == 1) = true := by simp; omega
  clear S hcmp hs hS hM hm
  go_enter Try.func87, Try.ntmps87
  go_wp2
  clear hb1
  go_loopg [10, 11] (b - m) (fun kx s10 s11 wr => ∃ (i j : Nat), s10 = .int .i64 i ∧ s11 = .int .i64 j ∧ i ≤ j ∧ j ≤ b ∧ m ≤ i ∧ j - i ≤ kx ∧ Hid (SW enc w0 blk off d wr) ∧ Hid (Half (fun x => ltOf cf d[x]! d[a]!) m b i j))
  case atStart => exact ⟨m, b, rfl, rfl, by omega, Nat.le_refl _, Nat.le_refl _, by omega, S0, Lib.hid (Half.start (by omega))⟩
  case round =>
    clear S0
    obtain ⟨i, j, rfl, rfl, hij, hjb, hmi, hkx, S1, HH⟩ := hrel
    by_cases hlt : i < j
    · have ea : (((i : Int) + (j : Int)) / 2).toNat = (i + j) / 2 := by omega
      have pa : (0 : Int) ≤ ((i : Int) + (j : Int)) / 2 := by omega
      have ba : ((i : Int) + (j : Int)) / 2 < (d.size : Int) := by omega
      have pa2 : (0 : Int) ≤ (a : Int) := by omega
      have ba2 : (a : Int) < (d.size : Int) := by omega
      have ba3 : a < d.size := by omega
      have la := S1.out.cl R HS.out ((i + j) / 2) (by omega)
      have lb := S1.out.cl R HS.out a (by omega)
      obtain ⟨x, hx⟩ : ∃ x, x = d[(i + j) / 2]! := ⟨_, rfl⟩
      obtain ⟨y, hy⟩ : ∃ y, y = d[a]! := ⟨_, rfl⟩
      rw [← hx] at la
      rw [← hy] at lb
      have hc := S1.out.cmp HC.out HS.out x y
      have HX := Lib.hid hx
      have HY := Lib.hid hy
      clear hx hy
      by_cases hv : cf x y < 0
      · have hd : decide (cf x y < 0) = true := decide_eq_true hv
        go_wp2_with fail
        go_quiet_grown (first | (go_at_fn g; refine Calls.grown_of (hc _ _)))
        have S2 : Hid (SW enc w0 blk off d (grow (wr.drewN nq) osq)) := Lib.hid (S1.out.grown nq osq)
        clear la lb hc S1
        generalize grow (wr.drewN nq) osq = w2 at S2 ⊢
        clear nq osq
        go_wp2
        go_roundg (j - ((i + j) / 2 + 1))
        case measure => omega
        case rel =>
          refine ⟨(i + j) / 2 + 1, j, by rw [show (((i + j) / 2 + 1 : Nat) : Int) = ((i : Int) + (j : Int)) / 2 + 1 by omega], rfl, by omega, hjb, by omega, Nat.le_refl _, S2, Lib.hid ?_⟩
          have e := HA.out
          refine HH.out.up (by subst e; exact falls1 HSW.out HM.out) (by omega) (by omega) ?_
          show ltOf cf d[(i + j) / 2]! d[a]! = true
          rw [← HX.out, ← HY.out]; exact decide_eq_true hv
      · have hd : decide (cf x y < 0) = false := decide_eq_false hv
        go_wp2_with fail
        go_quiet_grown (first | (go_at_fn g; refine Calls.grown_of (hc _ _)))
        have S2 : Hid (SW enc w0 blk off d (grow (wr.drewN nq) osq)) := Lib.hid (S1.out.grown nq osq)
        clear la lb hc S1
        generalize grow (wr.drewN nq) osq = w2 at S2 ⊢
        clear nq osq
        go_wp2
        go_roundg ((i + j) / 2 - i)
        case measure => omega
        case rel =>
          refine ⟨i, (i + j) / 2, rfl, by rw [show (((i + j) / 2 : Nat) : Int) = ((i : Int) + (j : Int)) / 2 by omega], by omega, by omega, hmi, Nat.le_refl _, S2, Lib.hid ?_⟩
          have e := HA.out
          refine HH.out.down (by subst e; exact falls1 HSW.out HM.out) (by omega) (by omega) ?_
          show ltOf cf d[(i + j) / 2]! d[a]! = false
          rw [← HX.out, ← HY.out]; exact decide_eq_false (by omega)
    · obtain rfl : i = j := by omega
      clear hlt hij
      go_wp2
      go_loopg [13] (i - 1 - a) (fun kx s13 wr => ∃ (x : Nat) (dk : Array α), s13 = .int .i64 x ∧ a ≤ x ∧ x + 1 ≤ i ∧ i - 1 - x ≤ kx ∧ Hid (SW enc w0 blk off dk wr) ∧ Hid (MovedUp d a x dk))
      case atStart => exact ⟨a, d, rfl, Nat.le_refl _, by omega, Nat.le_refl _, S1, Lib.hid (movedUp_start d a (by omega))⟩
      case round =>
        clear S1
        obtain ⟨x, dk, rfl, hax, hxi, hkx, S1, HU⟩ := hrel
        by_cases hlt : x + 1 < i
        · have hlz : (x : Int) < (i : Int) - 1 := by omega
          have hds : Hid (dk.size = d.size) := Lib.hid HU.out.1
          have hz := hds.out
          have pa : (0 : Int) ≤ (x : Int) := by omega
          have ba : (x : Int) < (d.size : Int) := by omega
          have pc : (0 : Int) ≤ (x : Int) + 1 := by omega
          have bc : (x : Int) + 1 < (d.size : Int) := by omega
          have rc : IntKind.i64.wrap ((x : Int) + 1) = (x : Int) + 1 := by rw [IntKind.wrap_i64]; omega
          have hk0 : dk.size = d0.size := hz.trans HS.out
          obtain ⟨iN, hiN⟩ : ∃ q, q = x := ⟨_, rfl⟩
          obtain ⟨jN, hjN⟩ : ∃ q, q = (x + 1) := ⟨_, rfl⟩
          have ea : ((x : Int)).toNat = iN := by omega
          have ec : ((x : Int) + 1).toNat = jN := by omega
          obtain ⟨xN, hxN⟩ : ∃ q, q = dk[x]! := ⟨_, rfl⟩
          obtain ⟨yN, hyN⟩ : ∃ q, q = dk[x + 1]! := ⟨_, rfl⟩
          have S2 : Hid (SW enc w0 blk off (swp dk x (x + 1)) ((wr.setCell ⟨blk, off + iN, none⟩ (enc yN)).setCell ⟨blk, off + jN, none⟩ (enc xN)).drew) := Lib.hid (by rw [hiN, hjN, hxN, hyN]; exact S1.out.swapped R x (x + 1) (by omega) (by omega))
          have ca := S1.out.c1 R hk0 x (by omega)
          have cb' := S1.out.c1 R hk0 (x + 1) (by omega)
          have fa := S1.out.f1 R hk0 x (by omega)
          have fb := S1.out.f1 R hk0 (x + 1) (by omega)
          obtain ⟨u', cc'⟩ := S1.out.c2 R hk0 x (x + 1) (by omega) (by omega) (enc yN)
          rw [← hjN, ← hiN] at cc'
          rw [← hxN, ← hiN] at ca
          rw [← hyN, ← hjN] at cb'
          rw [← hiN] at fa
          rw [← hjN] at fb
          have HIN := Lib.hid hiN
          have HJN := Lib.hid hjN
          have hcl0 := R.hO.cells
          simp only [Value.cells] at hcl0
          have hst := R.hO.store Try.prog
          clear S1 hz hk0 hxN hyN hiN hjN
          go_wp2_with fail
          go_big_region_o
          clear ca cb' cc' fa fb hcl0 hst
          generalize ((wr.setCell ⟨blk, off + iN, none⟩ (enc yN)).setCell ⟨blk, off + jN, none⟩ (enc xN)).drew = w2 at S2 ⊢
          clear ea ec
          go_wp2
          go_roundg (i - 1 - (x + 1))
          case measure => omega
          case rel =>
            exact ⟨x + 1, swp dk x (x + 1), by go_num, by omega, by omega, Nat.le_refl _, S2, Lib.hid (HU.out.step hax (by omega))⟩
        · obtain rfl : i = x + 1 := by omega
          have hlz : ¬ ((x : Int) < ((x + 1 : Nat) : Int) - 1) := by omega
          have hlz2 : ¬ ((x : Int) < (x : Int) + 1 - 1) := by omega
          go_wp2
          go_end0
          refine ⟨rfl, dk, S1.out, ?_⟩
          have e := HA.out
          subst e
          exact merged1 HSW.out HM.out hb HH.out HU.out
end I1
end Go.Proofs.Ytddnfikjfmfhfaa
end
section
/- Merging in place where the right row is of one (slices.symMergeCmpFunc). -/
namespace Go.Proofs.Ytddnfikjfmfhfaa
namespace I1
open Go.ChangeShapes Go.WideShapes Go.ChangeAt Go.RowKit Go.Shelf Go.Lib Go.Sort Go.Proofs
set_option linter.unusedVariables false
variable {α : Type} [Inhabited α]

set_option maxHeartbeats 4000000 in
set_option maxRecDepth 1000000 in
theorem symMerge_last (enc : α → Value) (cf : α → α → Int) (lt : α → α → Bool) (hS : SWO lt) (g : Nat) (cb : Array Value) (blk off cap a m b : Nat) (d0 d : Array α) (w0 w : World)
    (eg : ∀ args w, (callFunc g args).run Try.prog w = .ok (.enter g args) w) (hcmp : CmpLays1 Try.prog g cb enc cf blk off d0.size w0) (R : Row1 enc w0 blk off d0) (hs : d.size = d0.size) (S : SW enc w0 blk off d w) (hm : b = m + 1) (ham : a + 1 < m) (hb : b ≤ d.size) (hsz : d.size < 1152921504606846976)
    (hM : Mrg lt (ltOf cf) a m b d) :
    Calls Try.prog 87 #[.slice (some ⟨blk, off, none⟩) d.size cap, .int .i64 a, .int .i64 m, .int .i64 b, .func (.func g) #[] cb] w (MergeTo lt enc w0 blk off a b d) := by
  have mixed : Try.prog.follows .mixedOrders = true := by kernel_rfl
  have S0 : Hid (SW enc w0 blk off d w) := Lib.hid S
  have HC := Lib.hid hcmp
  have HS := Lib.hid hs
  have HSW := Lib.hid hS
  have HM := Lib.hid hM
  have HA := Lib.hid hm
  have hma1 : (m : Int) + 1 ≤ (b : Int) := by omega
  have hma2 : (b : Int) ≤ (m : Int) + 1 := by omega
  have hb1 : ((m : Int) - (a : Int) == 1) = false := by simp; omega
  have hb2 : ((b : Int) - (m : Int) == 1) = true := by simp; omega
  clear S hcmp hs hS hM hm
  go_enter Try.func87, Try.ntmps87
  go_wp2
  clear hb1 hb2
  go_loopg [14, 15] (m - a) (fun kx s10 s11 wr => ∃ (i j : Nat), s10 = .int .i64 i ∧ s11 = .int .i64 j ∧ i ≤ j ∧ j ≤ m ∧ a ≤ i ∧ j - i ≤ kx ∧ Hid (SW enc w0 blk off d wr) ∧ Hid (Half (fun x => !ltOf cf d[m]! d[x]!) a m i j))
  case atStart => exact ⟨a, m, rfl, rfl, by omega, Nat.le_refl _, Nat.le_refl _, by omega, S0, Lib.hid (Half.start (by omega))⟩
  case round =>
    clear S0
    obtain ⟨i, j, rfl, rfl, hij, hjb, hmi, hkx, S1, HH⟩ := hrel
    by_cases hlt : i < j
    · have ea : (((i : Int) + (j : Int)) / 2).toNat = (i + j) / 2 := by omega
      have pa : (0 : Int) ≤ ((i : Int) + (j : Int)) / 2 := by omega
      have ba : ((i : Int) + (j : Int)) / 2 < (d.size : Int) := by omega
      have pa2 : (0 : Int) ≤ (m : Int) := by omega
      have ba2 : (m : Int) < (d.size : Int) := by omega
      have ba3 : m < d.size := by omega
      have la := S1.out.cl R HS.out ((i + j) / 2) (by omega)
      have lb := S1.out.cl R HS.out m (by omega)
      obtain ⟨x, hx⟩ : ∃ x, x = d[(i + j) / 2]! := ⟨_, rfl⟩
      obtain ⟨y, hy⟩ : ∃ y, y = d[m]! := ⟨_, rfl⟩
      rw [← hx] at la
      rw [← hy] at lb
      have hc := S1.out.cmp HC.out HS.out y x
      have HX := Lib.hid hx
      have HY := Lib.hid hy
      clear hx hy
      by_cases hv : cf y x < 0
      · have hd : decide (cf y x < 0) = true := decide_eq_true hv
        go_wp2_with fail
        go_quiet_grown (first | (go_at_fn g; refine Calls.grown_of (hc _ _)))
        have S2 : Hid (SW enc w0 blk off d (grow (wr.drewN nq) osq)) := Lib.hid (S1.out.grown nq osq)
        clear la lb hc S1
        generalize grow (wr.drewN nq) osq = w2 at S2 ⊢
        clear nq osq
        go_wp2
        go_roundg ((i + j) / 2 - i)
        case measure => omega
        case rel =>
          refine ⟨i, (i + j) / 2, rfl, by rw [show (((i + j) / 2 : Nat) : Int) = ((i : Int) + (j : Int)) / 2 by omega], by omega, by omega, hmi, Nat.le_refl _, S2, Lib.hid ?_⟩
          have e := HA.out
          refine HH.out.down (by subst e; exact falls2 HSW.out HM.out) (by omega) (by omega) ?_
          show (!ltOf cf d[m]! d[(i + j) / 2]!) = false
          rw [← HX.out, ← HY.out, Bool.not_eq_false']; exact decide_eq_true hv
      · have hd : decide (cf y x < 0) = false := decide_eq_false hv
        go_wp2_with fail
        go_quiet_grown (first | (go_at_fn g; refine Calls.grown_of (hc _ _)))
        have S2 : Hid (SW enc w0 blk off d (grow (wr.drewN nq) osq)) := Lib.hid (S1.out.grown nq osq)
        clear la lb hc S1
        generalize grow (wr.drewN nq) osq = w2 at S2 ⊢
        clear nq osq
        go_wp2
        go_roundg (j - ((i + j) / 2 + 1))
        case measure => omega
        case rel =>
          refine ⟨(i + j) / 2 + 1, j, by rw [show (((i + j) / 2 + 1 : Nat) : Int) = ((i : Int) + (j : Int)) / 2 + 1 by omega], rfl, by omega, hjb, by omega, Nat.le_refl _, S2, Lib.hid ?_⟩
          have e := HA.out
          refine HH.out.up (by subst e; exact falls2 HSW.out HM.out) (by omega) (by omega) ?_
          show (!ltOf cf d[m]! d[(i + j) / 2]!) = true
          rw [← HX.out, ← HY.out, Bool.not_eq_true']; exact decide_eq_false (by omega)
    · obtain rfl : i = j := by omega
      clear hlt hij
      go_wp2
      go_loopg [17] (m - i) (fun kx s13 wr => ∃ (x : Nat) (dk : Array α), s13 = .int .i64 x ∧ i ≤ x ∧ x ≤ m ∧ x - i ≤ kx ∧ Hid (SW enc w0 blk off dk wr) ∧ Hid (MovedDown d x m dk))
      case atStart => exact ⟨m, d, rfl, hjb, Nat.le_refl _, Nat.le_refl _, S1, Lib.hid (movedDown_start d m (by omega))⟩
      case round =>
        clear S1
        obtain ⟨x, dk, rfl, hax, hxi, hkx, S1, HU⟩ := hrel
        by_cases hlt : i < x
        · obtain ⟨z, rfl⟩ : ∃ z, x = z + 1 := ⟨x - 1, by omega⟩
          have hlz : (i : Int) < (z : Int) + 1 := by omega
          have hlz2 : (i : Int) < ((z + 1 : Nat) : Int) := by omega
          have hds : Hid (dk.size = d.size) := Lib.hid HU.out.1
          have hz := hds.out
          have pa : (0 : Int) ≤ (z : Int) + 1 := by omega
          have ba : (z : Int) + 1 < (d.size : Int) := by omega
          have pc : (0 : Int) ≤ (z : Int) := by omega
          have bc : (z : Int) < (d.size : Int) := by omega
          have rc : IntKind.i64.wrap (z : Int) = (z : Int) := by rw [IntKind.wrap_i64]; omega
          have hk0 : dk.size = d0.size := hz.trans HS.out
          obtain ⟨iN, hiN⟩ : ∃ q, q = (z + 1) := ⟨_, rfl⟩
          obtain ⟨jN, hjN⟩ : ∃ q, q = z := ⟨_, rfl⟩
          have ea : ((z : Int) + 1).toNat = iN := by omega
          have ec2 : ((z : Int)).toNat = jN := by omega
          obtain ⟨xN, hxN⟩ : ∃ q, q = dk[z + 1]! := ⟨_, rfl⟩
          obtain ⟨yN, hyN⟩ : ∃ q, q = dk[z]! := ⟨_, rfl⟩
          have S2 : Hid (SW enc w0 blk off (swp dk (z + 1) z) ((wr.setCell ⟨blk, off + iN, none⟩ (enc yN)).setCell ⟨blk, off + jN, none⟩ (enc xN)).drew) := Lib.hid (by rw [hiN, hjN, hxN, hyN]; exact S1.out.swapped R (z + 1) z (by omega) (by omega))
          have ca := S1.out.c1 R hk0 (z + 1) (by omega)
          have cb' := S1.out.c1 R hk0 z (by omega)
          have fa := S1.out.f1 R hk0 (z + 1) (by omega)
          have fb := S1.out.f1 R hk0 z (by omega)
          obtain ⟨u', cc'⟩ := S1.out.c2 R hk0 (z + 1) z (by omega) (by omega) (enc yN)
          rw [← hiN, ← hjN] at cc'
          rw [← hxN, ← hiN] at ca
          rw [← hyN, ← hjN] at cb'
          rw [← hiN] at fa
          rw [← hjN] at fb
          have HIN := Lib.hid hiN
          have HJN := Lib.hid hjN
          have hcl0 := R.hO.cells
          simp only [Value.cells] at hcl0
          have hst := R.hO.store Try.prog
          clear S1 hz hk0 hxN hyN hiN hjN
          go_wp2_with fail
          go_big_region_o
          clear ca cb' cc' fa fb hcl0 hst
          generalize ((wr.setCell ⟨blk, off + iN, none⟩ (enc yN)).setCell ⟨blk, off + jN, none⟩ (enc xN)).drew = w2 at S2 ⊢
          clear ea ec2
          go_wp2
          go_roundg (z - i)
          case measure => omega
          case rel =>
            exact ⟨z, swp dk (z + 1) z, by first | rfl | go_num | (congr 1; omega), by omega, by omega, Nat.le_refl _, S2, Lib.hid (HU.out.step (by omega) (by omega))⟩
        · obtain rfl : x = i := by omega
          have hlz : ¬ ((x : Int) < (x : Int)) := by omega
          go_wp2
          go_end0
          refine ⟨rfl, dk, S1.out, ?_⟩
          have e := HA.out
          subst e
          exact merged2 HSW.out HM.out (by omega) HH.out HU.out
end I1
end Go.Proofs.Ytddnfikjfmfhfaa
end
