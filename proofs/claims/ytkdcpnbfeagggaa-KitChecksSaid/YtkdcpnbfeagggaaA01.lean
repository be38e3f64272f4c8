/- Texts of this proof, one behind the other. -/
import Derived.Test.YtkdcpnbfeagggaaProg
import Derived.WalkKit
import Derived.ProofKit
import Derived.Lib.Hide
import Derived.Lib.OthersKept
import Derived.Laws.EntriesVeiled
import Derived.Shelf.Abstract
import Derived.Outline
import Derived.Test.YtkdcpnbfeagggaaA00
section
/- Kits: how deep an item is, what is within it; going through items once each. Lists and numbers alone. -/
namespace Go.Proofs.Ytkdcpnbfeagggaa
set_option linter.unusedVariables false
namespace Kt

structure It where
  code : List UInt8
  life : Int
  parts : List Pt

/-- What is found, by codes. -/
abbrev Fd := List UInt8 → Option It

/-- One more than the deepest of its parts; none, if one of them has no depth. -/
def depP (g : List UInt8 → Option Nat) : List Pt → Option Nat
  | [] => some 0
  | p :: r => match g p.1, depP g r with
    | some d, some m => some (max d m)
    | _, _ => none
def dep (F : Fd) : Nat → List UInt8 → Option Nat
  | 0, _ => none
  | n + 1, c => match F c with
    | none => none
    | some x => (depP (dep F n) x.parts).map (· + 1)

theorem depP_mem {g : List UInt8 → Option Nat} : ∀ {ps : List Pt} {m : Nat}, depP g ps = some m → ∀ p ∈ ps, ∃ d, g p.1 = some d ∧ d ≤ m
  | [], m, _, p, hp => by simp at hp
  | q :: r, m, h, p, hp => by
    rw [depP] at h
    cases hg : g q.1 with
    | none => rw [hg] at h; simp at h
    | some d =>
      cases hr : depP g r with
      | none => rw [hg, hr] at h; simp at h
      | some m' =>
        rw [hg, hr] at h
        simp only [Option.some.injEq] at h
        rcases List.mem_cons.1 hp with rfl | hp
        · exact ⟨d, hg, by omega⟩
        · obtain ⟨d', h1, h2⟩ := depP_mem hr p hp
          exact ⟨d', h1, by omega⟩
theorem depP_top {g : List UInt8 → Option Nat} : ∀ {ps : List Pt} {m : Nat}, depP g ps = some m → m = 0 ∨ ∃ p ∈ ps, g p.1 = some m
  | [], m, h => by simp [depP] at h; exact .inl h.symm
  | q :: r, m, h => by
    rw [depP] at h
    cases hg : g q.1 with
    | none => rw [hg] at h; simp at h
    | some d =>
      cases hr : depP g r with
      | none => rw [hg, hr] at h; simp at h
      | some m' =>
        rw [hg, hr] at h
        simp only [Option.some.injEq] at h
        by_cases hle : m' ≤ d
        · exact .inr ⟨q, by simp, by rw [hg]; congr 1; omega⟩
        · rcases depP_top hr with h0 | ⟨p, hp, h1⟩
          · omega
          · exact .inr ⟨p, by simp [hp], by rw [h1]; congr 1; omega⟩
theorem depP_ex {g : List UInt8 → Option Nat} : ∀ {ps : List Pt}, (∀ p ∈ ps, ∃ d, g p.1 = some d) → ∃ m, depP g ps = some m
  | [], _ => ⟨0, rfl⟩
  | q :: r, h => by
    obtain ⟨d, hd⟩ := h q (by simp)
    obtain ⟨m, hm⟩ := depP_ex (ps := r) (fun p hp => h p (by simp [hp]))
    exact ⟨max d m, by rw [depP, hd, hm]⟩
theorem depP_mono {g g' : List UInt8 → Option Nat} : ∀ {ps : List Pt} {m : Nat}, (∀ p ∈ ps, ∀ d, g p.1 = some d → g' p.1 = some d) → depP g ps = some m → depP g' ps = some m
  | [], m, _, h => h
  | q :: r, m, hk, h => by
    rw [depP] at h ⊢
    cases hg : g q.1 with
    | none => rw [hg] at h; simp at h
    | some d =>
      cases hr : depP g r with
      | none => rw [hg, hr] at h; simp at h
      | some m' =>
        rw [hk q (by simp) d hg, depP_mono (fun p hp => hk p (by simp [hp])) hr]
        rw [hg, hr] at h
        exact h
/-- The greatest of numbers by codes. -/
def mx (e : List UInt8 → Nat) (ps : List Pt) : Nat := ps.foldl (fun m p => max m (e p.1)) 0
theorem mx_snoc (e : List UInt8 → Nat) (ps : List Pt) (p : Pt) : mx e (ps ++ [p]) = max (mx e ps) (e p.1) := by simp [mx]
theorem mx_acc (e : List UInt8 → Nat) : ∀ (ps : List Pt) (a : Nat), ps.foldl (fun m p => max m (e p.1)) a = max a (mx e ps)
  | [], a => by simp [mx]
  | p :: r, a => by
    unfold mx
    simp only [List.foldl_cons]
    rw [mx_acc e r, mx_acc e r (max 0 (e p.1))]
    omega
theorem depP_mx {g : List UInt8 → Option Nat} (e : List UInt8 → Nat) : ∀ {ps : List Pt}, (∀ p ∈ ps, g p.1 = some (e p.1)) → depP g ps = some (mx e ps)
  | [], _ => rfl
  | q :: r, h => by
    rw [depP, h q (by simp), depP_mx e (ps := r) (fun p hp => h p (by simp [hp]))]
    simp only [Option.some.injEq]
    unfold mx
    simp only [List.foldl_cons]
    rw [mx_acc e r (max 0 (e q.1))]
    unfold mx
    omega

theorem dep_succ {F : Fd} : ∀ {n : Nat} {c : List UInt8} {d : Nat}, dep F n c = some d → dep F (n + 1) c = some d
  | 0, c, d, h => by simp [dep] at h
  | n + 1, c, d, h => by
    rw [dep] at h ⊢
    cases hF : F c with
    | none => rw [hF] at h; simp at h
    | some x =>
      rw [hF] at h
      simp only [Option.map_eq_some_iff] at h ⊢
      obtain ⟨m, h1, h2⟩ := h
      exact ⟨m, depP_mono (fun p _ d hd => dep_succ hd) h1, h2⟩
theorem dep_more {F : Fd} {n m : Nat} {c : List UInt8} {d : Nat} (h : dep F n c = some d) (hle : n ≤ m) : dep F m c = some d := by
  induction hle with
  | refl => exact h
  | step _ ih => exact dep_succ ih
theorem dep_uniq {F : Fd} {n m : Nat} {c : List UInt8} {d e : Nat} (h : dep F n c = some d) (h' : dep F m c = some e) : d = e := by
  have h1 := dep_more h (Nat.le_max_left n m)
  have h2 := dep_more h' (Nat.le_max_right n m)
  rw [h1] at h2
  exact Option.some.inj h2
theorem dep_open {F : Fd} {n : Nat} {c : List UInt8} {d : Nat} (h : dep F n c = some d) : ∃ k x m, n = k + 1 ∧ F c = some x ∧ depP (dep F k) x.parts = some m ∧ d = m + 1 := by
  cases n with
  | zero => simp [dep] at h
  | succ k =>
    rw [dep] at h
    cases hF : F c with
    | none => rw [hF] at h; simp at h
    | some x =>
      rw [hF] at h
      simp only [Option.map_eq_some_iff] at h
      obtain ⟨m, h1, h2⟩ := h
      exact ⟨k, x, m, rfl, rfl, h1, h2.symm⟩
theorem dep_at {F : Fd} : ∀ {n : Nat} {c : List UInt8} {d : Nat}, dep F n c = some d → dep F d c = some d ∧ 1 ≤ d ∧ d ≤ n
  | n, c, d, h => by
    obtain ⟨k, x, m, rfl, hF, hm, rfl⟩ := dep_open h
    have hle : m ≤ k := by
      rcases depP_top hm with h0 | ⟨p, _, hp⟩
      · omega
      · exact (dep_at hp).2.2
    refine ⟨?_, by omega, by omega⟩
    rw [dep, hF]
    simp only [Option.map_eq_some_iff]
    refine ⟨m, depP_mono (g := fun c => (dep F k c)) (fun p hp e he => ?_) hm, rfl⟩
    obtain ⟨e', h1, h2⟩ := depP_mem hm p hp
    rw [he] at h1
    obtain rfl := Option.some.inj h1
    exact dep_more (dep_at he).1 h2
/-- How deep an item is. -/
def Dp (F : Fd) (c : List UInt8) (d : Nat) : Prop := dep F d c = some d
theorem Dp.of {F : Fd} {n : Nat} {c : List UInt8} {d : Nat} (h : dep F n c = some d) : Dp F c d := (dep_at h).1
theorem Dp.uniq {F : Fd} {c : List UInt8} {d e : Nat} (h : Dp F c d) (h' : Dp F c e) : d = e := dep_uniq h h'
theorem Dp.pos {F : Fd} {c : List UInt8} {d : Nat} (h : Dp F c d) : 1 ≤ d := (dep_at h).2.1
theorem Dp.found {F : Fd} {c : List UInt8} {d : Nat} (h : Dp F c d) : ∃ x, F c = some x := by
  obtain ⟨_, x, _, _, hF, _⟩ := dep_open h
  exact ⟨x, hF⟩
theorem Dp.part {F : Fd} {c : List UInt8} {d : Nat} {x : It} (h : Dp F c d) (hx : F c = some x) {p : Pt} (hp : p ∈ x.parts) : ∃ e, Dp F p.1 e ∧ e < d := by
  obtain ⟨k, y, m, hk, hF, hm, rfl⟩ := dep_open h
  rw [hx] at hF
  obtain rfl := Option.some.inj hF
  obtain ⟨e, h1, h2⟩ := depP_mem hm p hp
  exact ⟨e, Dp.of h1, by omega⟩
theorem Dp.mk {F : Fd} {c : List UInt8} {x : It} (hx : F c = some x) (e : List UInt8 → Nat) (h : ∀ p ∈ x.parts, Dp F p.1 (e p.1)) : Dp F c (mx e x.parts + 1) := by
  have hle : ∀ p ∈ x.parts, e p.1 ≤ mx e x.parts := by
    intro p hp
    obtain ⟨l1, l2, hl⟩ := List.append_of_mem hp
    rw [hl]
    unfold mx
    rw [List.foldl_append, List.foldl_cons, mx_acc e l2]
    omega
  show dep F (mx e x.parts + 1) c = some _
  rw [dep, hx]
  simp only [Option.map_eq_some_iff]
  exact ⟨_, depP_mx e (fun p hp => dep_more (h p hp) (hle p hp)), rfl⟩
open Classical in
theorem Dp.mk_ex {F : Fd} {c : List UInt8} {x : It} (hx : F c = some x) (h : ∀ p ∈ x.parts, ∃ e, Dp F p.1 e) : ∃ d, Dp F c d := by
  refine ⟨_, Dp.mk hx (fun c => if h : ∃ e, Dp F c e then Classical.choose h else 0) (fun p hp => ?_)⟩
  have h' := h p hp
  simp only [dif_pos h']
  exact Classical.choose_spec h'
/-- Ahead of a depth there is each lower one. -/
theorem Dp.chain {F : Fd} : ∀ {d : Nat} {c : List UInt8}, Dp F c d → ∀ k, 1 ≤ k → k ≤ d → ∃ c', Dp F c' k
  | d, c, h, k, h1, h2 => by
    by_cases he : k = d
    · exact ⟨c, he ▸ h⟩
    · obtain ⟨j, x, m, hk, hF, hm, rfl⟩ := dep_open h
      rcases depP_top hm with h0 | ⟨p, _, hp⟩
      · omega
      · exact Dp.chain (Dp.of hp) k h1 (by omega)
open Classical in
theorem count_up {α : Type} (f : α → Nat → Prop) (hf : ∀ a i j, f a i → f a j → i = j) (l : List α) (d : Nat) (h : ∀ k, 1 ≤ k → k ≤ d → ∃ a ∈ l, f a k) :
    ∀ k, k ≤ d → k ≤ (l.filter (fun a => decide (∃ i, 1 ≤ i ∧ i ≤ k ∧ f a i))).length := by
  intro k
  induction k with
  | zero => intro _; omega
  | succ k ih =>
    intro hk
    have h1 := ih (by omega)
    obtain ⟨a, ha, hfa⟩ := h (k + 1) (by omega) hk
    obtain ⟨l1, l2, rfl⟩ := List.append_of_mem ha
    have hsub : ∀ m : List α, (m.filter (fun a => decide (∃ i, 1 ≤ i ∧ i ≤ k ∧ f a i))).length ≤ (m.filter (fun a => decide (∃ i, 1 ≤ i ∧ i ≤ k + 1 ∧ f a i))).length := by
      intro m
      induction m with
      | nil => simp
      | cons b m ihm =>
        simp only [List.filter_cons]
        by_cases hb : ∃ i, 1 ≤ i ∧ i ≤ k ∧ f b i
        · obtain ⟨i, hi1, hi2, hi3⟩ := hb
          rw [if_pos (by simpa using ⟨i, hi1, hi2, hi3⟩), if_pos (by simpa using ⟨i, hi1, by omega, hi3⟩)]
          simp only [List.length_cons]
          omega
        · rw [if_neg (by simpa using hb)]
          split
          · simp only [List.length_cons]; omega
          · exact ihm
    have hn : ¬ ∃ i, 1 ≤ i ∧ i ≤ k ∧ f a i := fun ⟨i, _, hi2, hi3⟩ => by have := hf a _ _ hi3 hfa; omega
    simp only [List.filter_append, List.filter_cons, List.length_append] at h1 ⊢
    rw [if_neg (by simpa using hn)] at h1
    rw [if_pos (by simpa using ⟨k + 1, by omega, by omega, hfa⟩)]
    have e1 := hsub l1
    have e2 := hsub l2
    simp only [List.length_cons]
    omega
theorem Dp.le {F : Fd} {c : List UInt8} {d : Nat} (h : Dp F c d) {K : List (List UInt8)} (hK : ∀ c x, F c = some x → c ∈ K) : d ≤ K.length := by
  have := count_up (fun a k => Dp F a k) (fun a i j => Dp.uniq) K d (fun k h1 h2 => by
    obtain ⟨c', h'⟩ := Dp.chain h k h1 h2
    obtain ⟨x, hx⟩ := h'.found
    exact ⟨c', hK c' x hx, h'⟩) d (Nat.le_refl _)
  exact Nat.le_trans this (List.length_filter_le _ _)

/-! ### from an item to its parts -/
def Step (F : Fd) (a b : List UInt8) : Prop := ∃ x, F a = some x ∧ ∃ p ∈ x.parts, p.1 = b
inductive Reach (F : Fd) : List UInt8 → List UInt8 → Prop
  | refl (a) : Reach F a a
  | step {a b c} : Reach F a b → Step F b c → Reach F a c
theorem Reach.trans {F : Fd} {a b c : List UInt8} (h : Reach F a b) (h' : Reach F b c) : Reach F a c := by
  induction h' with
  | refl => exact h
  | step _ hs ih => exact ih.step hs
theorem Dp.step {F : Fd} {a b : List UInt8} {d : Nat} (h : Dp F a d) (hs : Step F a b) : ∃ e, Dp F b e ∧ e < d := by
  obtain ⟨x, hx, p, hp, rfl⟩ := hs
  exact h.part hx hp
theorem Dp.reach {F : Fd} {a b : List UInt8} {d : Nat} (h : Dp F a d) (hr : Reach F a b) : ∃ e, Dp F b e ∧ e ≤ d := by
  induction hr with
  | refl => exact ⟨d, h, Nat.le_refl _⟩
  | step _ hs ih =>
    obtain ⟨e, h1, h2⟩ := ih
    obtain ⟨e', h3, h4⟩ := h1.step hs
    exact ⟨e', h3, by omega⟩
/-- Within one of its own parts. -/
def Round (F : Fd) : Prop := ∃ g b, Step F g b ∧ Reach F b g
theorem Round.no {F : Fd} (h : Round F) : ∃ g x, F g = some x ∧ ∀ d, ¬ Dp F g d := by
  obtain ⟨g, b, hs, hr⟩ := h
  obtain ⟨x, hx, _⟩ := id hs
  refine ⟨g, x, hx, fun d hd => ?_⟩
  obtain ⟨e, h1, h2⟩ := hd.step hs
  obtain ⟨e', h3, h4⟩ := h1.reach hr
  have := hd.uniq h3
  omega

/-! ### items, each behind its parts -/
/-- Each stands behind those of its parts that there are, once. -/
inductive Topo (F : Fd) : List It → Prop
  | nil : Topo F []
  | snoc {l : List It} {x : It} : Topo F l → F x.code = some x → x.code ∉ l.map (·.code) → (∀ p ∈ x.parts, (F p.1).isSome → p.1 ∈ l.map (·.code)) → Topo F (l ++ [x])
theorem Topo.found {F : Fd} {l : List It} (h : Topo F l) : ∀ x ∈ l, F x.code = some x := by
  induction h with
  | nil => intro x hx; simp at hx
  | snoc _ h1 _ _ ih =>
    intro y hy
    rcases List.mem_append.1 hy with hy | hy
    · exact ih y hy
    · simp at hy; subst hy; exact h1
theorem Topo.nodup {F : Fd} {l : List It} (h : Topo F l) : (l.map (·.code)).Nodup := by
  induction h with
  | nil => simp
  | snoc _ _ h2 _ ih =>
    rw [List.map_append, List.nodup_append]
    refine ⟨ih, by simp, fun a ha b hb => ?_⟩
    simp at hb
    subst hb
    exact fun e => h2 (e ▸ ha)
/-- Where all parts are found, each has a depth. -/
theorem Topo.deep {F : Fd} {l : List It} (h : Topo F l) (hc : ∀ c x, F c = some x → ∀ p ∈ x.parts, (F p.1).isSome) : ∀ x ∈ l, ∃ d, Dp F x.code d := by
  induction h with
  | nil => intro x hx; simp at hx
  | @snoc l x _ h1 _ h3 ih =>
    intro y hy
    rcases List.mem_append.1 hy with hy | hy
    · exact ih y hy
    · simp at hy
      subst hy
      refine Dp.mk_ex h1 (fun p hp => ?_)
      have := h3 p hp (hc _ _ h1 p hp)
      obtain ⟨z, hz, hzp⟩ := List.mem_map.1 this
      obtain ⟨d, hd⟩ := ih z hz
      exact ⟨d, hzp ▸ hd⟩
theorem Topo.reach {F : Fd} {l : List It} (h : Topo F l) : ∀ x ∈ l, ∀ c, Reach F x.code c → (F c).isSome → (∀ c x, F c = some x → ∀ p ∈ x.parts, (F p.1).isSome) → c ∈ l.map (·.code) := by
  have key : ∀ a b, a ∈ l.map (·.code) → Step F a b → (F b).isSome → b ∈ l.map (·.code) := by
    induction h with
    | nil => intro a b ha; simp at ha
    | @snoc l x ht h1 h2 h3 ih =>
      intro a b ha hs hb
      rw [List.map_append, List.mem_append] at ha ⊢
      rcases ha with ha | ha
      · exact .inl (ih a b ha hs hb)
      · simp at ha
        subst ha
        obtain ⟨y, hy, p, hp, rfl⟩ := hs
        rw [h1] at hy
        obtain rfl := Option.some.inj hy
        exact .inl (h3 p hp hb)
  intro x hx c hr hcf hcl
  have : ∀ a c, Reach F a c → a ∈ l.map (·.code) → (F a).isSome → c ∈ l.map (·.code) ∧ (F c).isSome := by
    intro a c hr ha haf
    induction hr with
    | refl => exact ⟨ha, haf⟩
    | step _ hs ih =>
      obtain ⟨h1, h2⟩ := ih
      obtain ⟨y, hy, p, hp, rfl⟩ := id hs
      have h3 := hcl _ y hy p hp
      exact ⟨key _ _ h1 hs h3, h3⟩
  exact (this _ c hr (List.mem_map_of_mem hx) (by rw [h.found x hx]; rfl)).1
end Kt
end Go.Proofs.Ytkdcpnbfeagggaa
end
section
/- Items: as cells, lists of them that lie somewhere, with their parts and others. No walk. -/
namespace Go.Proofs.Ytkdcpnbfeagggaa
namespace Kt
open Go.RowKit Go.Maps
set_option linter.unusedVariables false

theorem addr0 (g k : Nat) : (⟨g, 0, none⟩ : Addr).add k = ⟨g, k, none⟩ := by unfold Addr.add; split <;> simp_all
theorem addr_up (p : Addr) (n : Nat) (h : n ≠ 0) : p.add n = ⟨p.block, p.off + n, none⟩ := by unfold Addr.add; rw [if_neg h]
theorem fresh_cell (w : World) (cs : Array Value) (t : TypeId) (j : Nat) : (w.alloc (.cells cs t)).cell? ((⟨w.heap.size, 0, none⟩ : Addr).add j) = cs[j]? := by
  rw [addr0, Go.cell_of_row _ _ _ _ _ _ (Go.heap_alloc_new w _)]
theorem below_alloc1 (w : World) (o : Obj) : Below w.heap.size w (w.alloc o) := (Below.refl _ _).alloc (Nat.le_refl _) _
theorem below_alloc2 {w w1 : World} (o : Obj) (h : Below (w.alloc o).heap.size (w.alloc o) w1) : Below w.heap.size w w1 := (below_alloc1 w o).trans (h.mono (by simp))
theorem below_two {w w1 w2 : World} (h1 : Below w.heap.size w w1) (h2 : Below w1.heap.size w1 w2) : Below w.heap.size w w2 := h1.trans (h2.mono h1.size)
theorem str_size {s : List UInt8} (h : s.length ≤ maxLen) : (⟨s.toArray⟩ : ByteArray).size = s.length := by simp [ByteArray.size]
theorem below_none {w w' : World} (h : Below w.heap.size w w') : w.grownBy w' none := ⟨h.os, h.tape, h.output, h.size, fun i hi _ => h.block i hi⟩
abbrev strV (s : List UInt8) : Value := .string ⟨s.toArray⟩

/-! ### parts -/
theorem _root_.Go.Proofs.Ytkdcpnbfeagggaa.Lies.part {w : World} {B : Nat} {A : Option Addr} {l : List Pt} (h : Lies w B A (pcells l)) {k : Nat} {p : Pt} (hk : l[k]? = some p) :
    ∃ ad, A = some ad ∧ ad.block < B ∧ w.cell? (ad.add (k * 2)) = some (strV p.1) ∧ w.cell? ⟨(ad.add (k * 2)).block, (ad.add (k * 2)).off + 1, Option.none⟩ = some (.int .i64 p.2) := by
  obtain ⟨ad, hA, hb, h1⟩ := h.get (pcells_item l k p hk)
  obtain ⟨ad', hA', _, h2⟩ := h.get (pcells_qty l k p hk)
  rw [hA] at hA'
  cases hA'
  refine ⟨ad, hA, hb, h1, ?_⟩
  rw [← addr_up _ _ (by omega), addr_add]
  exact h2

/-! ### texts -/
def tcells (l : List (List UInt8)) : List Value := l.map strV
theorem tcells_length (l : List (List UInt8)) : (tcells l).length = l.length := by simp [tcells]
theorem tcells_append (l m : List (List UInt8)) : tcells (l ++ m) = tcells l ++ tcells m := by simp [tcells]
theorem tcells_get {l : List (List UInt8)} {k : Nat} {s : List UInt8} (h : l[k]? = some s) : (tcells l)[k]? = some (strV s) := by simp [tcells, h]
theorem tcells_one (l : List (List UInt8)) : ∀ u ∈ tcells l, u.oneCell' = true := by
  intro u hu
  obtain ⟨s, _, rfl⟩ := List.mem_map.1 hu
  rfl
def TSl (w : World) (B : Nat) (v : Value) (l : List (List UInt8)) : Prop := ∃ A c, v = .slice A l.length c ∧ l.length ≤ c ∧ c ≤ maxLen ∧ (A = none → c = 0) ∧ Lies w B A (tcells l)
theorem TSl.below {w w' : World} {B : Nat} {v : Value} {l : List (List UInt8)} (h : TSl w B v l) (hb : Below B w w') : TSl w' B v l := by
  obtain ⟨A, c, h1, h2, h3, hz, h4⟩ := h
  exact ⟨A, c, h1, h2, h3, hz, h4.below hb⟩
theorem TSl.mono {w : World} {B B' : Nat} {v : Value} {l : List (List UInt8)} (h : TSl w B v l) (hB : B ≤ B') : TSl w B' v l := by
  obtain ⟨A, c, h1, h2, h3, hz, h4⟩ := h
  exact ⟨A, c, h1, h2, h3, hz, h4.mono hB⟩
theorem TSl.own {w : World} {base e : Nat} {v : Value} {l : List (List UInt8)} (h : w.ownsRow base e 1 v l.length (tcells l)) : TSl w w.heap.size v l := by
  obtain ⟨A, c, rfl, h1, h2, hz⟩ := own_form h
  exact ⟨A, c, rfl, h1, h2, hz, Lies.own h⟩
theorem TSl.nil {w : World} {B : Nat} : TSl w B (.slice none 0 0) [] := ⟨none, 0, rfl, Nat.le_refl _, by simp [maxLen], fun _ => rfl, Lies.none⟩
theorem TSl.at_ {w W : World} {v : Value} {l : List (List UInt8)} (h : TSl w w.heap.size v l) (hb : Below w.heap.size w W) : TSl W W.heap.size v l := (h.below hb).mono hb.size
theorem _root_.Go.Proofs.Ytkdcpnbfeagggaa.Lies.text {w : World} {B : Nat} {A : Option Addr} {l : List (List UInt8)} (h : Lies w B A (tcells l)) {k : Nat} {s : List UInt8} (hk : l[k]? = some s) : ∃ ad, A = some ad ∧ ad.block < B ∧ w.cell? (ad.add k) = some (strV s) := h.get (tcells_get hk)

/-! ### items -/
/-- An item, and where its parts and others lie. -/
structure Iv where
  it : Kt.It
  others : List (List UInt8)
  pv : Value
  ov : Value
def encI (x : Iv) : List Value := [strV x.it.code, .int .i64 x.it.life, x.pv, x.ov]
theorem encI_length (x : Iv) : (encI x).length = 4 := rfl
abbrev aggI (x : Iv) : Value := .agg #[strV x.it.code, .int .i64 x.it.life, x.pv, x.ov]
def icells : List Iv → List Value
  | [] => []
  | x :: l => encI x ++ icells l
theorem icells_length : ∀ l : List Iv, (icells l).length = l.length * 4
  | [] => rfl
  | x :: l => by simp [icells, encI_length, icells_length l]; omega
theorem icells_append : ∀ l m : List Iv, icells (l ++ m) = icells l ++ icells m
  | [], m => rfl
  | x :: l, m => by simp [icells, icells_append l m]
theorem icells_get : ∀ (l : List Iv) (k : Nat) (x : Iv), l[k]? = some x → ∀ c, c < 4 → (icells l)[k * 4 + c]? = (encI x)[c]?
  | [], k, x, h, c, hc => by simp at h
  | y :: l, 0, x, h, c, hc => by
    simp at h; subst h
    simp only [icells, Nat.zero_mul, Nat.zero_add]
    rw [List.getElem?_append_left (by simpa [encI_length] using hc)]
  | y :: l, k + 1, x, h, c, hc => by
    have := icells_get l k x (by simpa using h) c hc
    rw [show (k + 1) * 4 + c = (encI y).length + (k * 4 + c) by rw [encI_length]; omega]
    simp only [icells]
    rw [List.getElem?_append_right (by omega), Nat.add_sub_cancel_left]
    exact this
/-- What an item's lists are. -/
structure ISub (w : World) (B : Nat) (x : Iv) : Prop where
  parts : PSl w B x.pv x.it.parts
  others : TSl w B x.ov x.others
theorem ISub.below {w w' : World} {B : Nat} {x : Iv} (h : ISub w B x) (hb : Below B w w') : ISub w' B x := ⟨h.parts.below hb, h.others.below hb⟩
theorem ISub.mono {w : World} {B B' : Nat} {x : Iv} (h : ISub w B x) (hB : B ≤ B') : ISub w B' x := ⟨h.parts.mono hB, h.others.mono hB⟩
theorem ISub.one {w : World} {B : Nat} {x : Iv} (h : ISub w B x) : ∀ v ∈ encI x, v.oneCell' = true := fun v hv => by
  obtain ⟨⟨A, c, hp, _⟩, ⟨A', c', ho, _⟩⟩ := h
  simp only [encI, List.mem_cons, List.not_mem_nil, or_false, hp, ho] at hv
  rcases hv with rfl | rfl | rfl | rfl <;> rfl
theorem ISub.form {w : World} {B : Nat} {c : List UInt8} {n : Int} {ps : List Pt} {os : List (List UInt8)} {pv ov : Value} (h : ISub w B ⟨⟨c, n, ps⟩, os, pv, ov⟩) : ∃ Ap cp Ao co, pv = .slice Ap ps.length cp ∧ ov = .slice Ao os.length co ∧ cp ≤ maxLen ∧ ps.length ≤ cp := by
  obtain ⟨⟨Ap, cp, h1, h2, h3, _⟩, ⟨Ao, co, h4, _⟩⟩ := h
  exact ⟨Ap, cp, Ao, co, h1, h4, h3, h2⟩
/-- A slice value that reads as a list of items. -/
def ISl (w : World) (B : Nat) (v : Value) (l : List Iv) : Prop := (∃ A c, v = .slice A l.length c ∧ l.length ≤ c ∧ c ≤ maxLen ∧ (A = none → c = 0) ∧ Lies w B A (icells l)) ∧ ∀ x ∈ l, ISub w B x
theorem ISl.below {w w' : World} {B : Nat} {v : Value} {l : List Iv} (h : ISl w B v l) (hb : Below B w w') : ISl w' B v l := by
  obtain ⟨⟨A, c, h1, h2, h3, hz, h4⟩, h5⟩ := h
  exact ⟨⟨A, c, h1, h2, h3, hz, h4.below hb⟩, fun x hx => (h5 x hx).below hb⟩
theorem ISl.mono {w : World} {B B' : Nat} {v : Value} {l : List Iv} (h : ISl w B v l) (hB : B ≤ B') : ISl w B' v l := by
  obtain ⟨⟨A, c, h1, h2, h3, hz, h4⟩, h5⟩ := h
  exact ⟨⟨A, c, h1, h2, h3, hz, h4.mono hB⟩, fun x hx => (h5 x hx).mono hB⟩
theorem ISl.own {w : World} {base e : Nat} {v : Value} {l : List Iv} (h : w.ownsRow base e 4 v l.length (icells l)) (hs : ∀ x ∈ l, ISub w w.heap.size x) : ISl w w.heap.size v l := by
  obtain ⟨A, c, rfl, h1, h2, hz⟩ := own_form h
  exact ⟨⟨A, c, rfl, h1, h2, hz, Lies.own h⟩, hs⟩
theorem ISl.nil {w : World} {B : Nat} : ISl w B (.slice none 0 0) [] := ⟨⟨none, 0, rfl, Nat.le_refl _, by simp [maxLen], fun _ => rfl, Lies.none⟩, fun x hx => by simp at hx⟩
theorem ISl.at_ {w W : World} {v : Value} {l : List Iv} (h : ISl w w.heap.size v l) (hb : Below w.heap.size w W) : ISl W W.heap.size v l := (h.below hb).mono hb.size
/-- The cells of one, at p and behind it. -/
def RowI (w : World) (p : Addr) (x : Iv) : Prop := w.cell? p = some (strV x.it.code) ∧ w.cell? ⟨p.block, p.off + 1, none⟩ = some (.int .i64 x.it.life) ∧ w.cell? ⟨p.block, p.off + 2, none⟩ = some x.pv ∧ w.cell? ⟨p.block, p.off + 3, none⟩ = some x.ov
theorem _root_.Go.Proofs.Ytkdcpnbfeagggaa.Lies.rowI {w : World} {B : Nat} {A : Option Addr} {l : List Iv} (h : Lies w B A (icells l)) {k : Nat} {x : Iv} (hk : l[k]? = some x) :
    ∃ ad, A = some ad ∧ ad.block < B ∧ RowI w (ad.add (k * 4)) x := by
  have hlt := (List.getElem?_eq_some_iff.1 hk).1
  obtain ⟨ad, hA, hb, hc⟩ := h (by intro e; have := icells_length l; rw [e] at this; simp at this; omega)
  have g : ∀ c u, c < 4 → (encI x)[c]? = some u → w.cell? ((ad.add (k * 4)).add c) = some u := fun c u hc6 hu => by
    rw [addr_add]
    exact hc _ u (by rw [icells_get l k x hk c hc6]; exact hu)
  refine ⟨ad, hA, hb, ?_, ?_, ?_, ?_⟩
  · have := g 0 _ (by omega) rfl; simpa [Addr.add] using this
  · have := g 1 _ (by omega) rfl; rwa [addr_up _ _ (by omega)] at this
  · have := g 2 _ (by omega) rfl; rwa [addr_up _ _ (by omega)] at this
  · have := g 3 _ (by omega) rfl; rwa [addr_up _ _ (by omega)] at this
/-- One whose fields a program can hold. -/
def Iv.Fits (x : Iv) : Prop := x.it.code.length ≤ maxLen ∧ (-9223372036854775808 ≤ x.it.life ∧ x.it.life ≤ 9223372036854775807) ∧ Sized x.it.parts ∧ (∀ s ∈ x.others, s.length ≤ maxLen) ∧ x.it.parts.length ≤ 1048576 ∧ x.others.length ≤ 1048576
def SizedI (l : List Iv) : Prop := ∀ x ∈ l, x.Fits
/-- A block that holds one item. -/
def Box4 (W : World) (B : Nat) (x : Iv) : Prop := W.heap[B]? = some (.cells #[strV x.it.code, .int .i64 x.it.life, x.pv, x.ov] 32 (0, 0))
theorem Box4.new (W : World) (x : Iv) : Box4 (W.alloc (.cells #[strV x.it.code, .int .i64 x.it.life, x.pv, x.ov] 32)) W.heap.size x := Go.heap_alloc_new W _
theorem Box4.lt {W : World} {B : Nat} {x : Iv} (h : Box4 W B x) : B < W.heap.size := (Array.getElem?_eq_some_iff.1 h).1
theorem Box4.cells {W : World} {B : Nat} {x : Iv} (h : Box4 W B x) : W.cell? ⟨B, 0, none⟩ = some (strV x.it.code) ∧ W.cell? ⟨B, 1, none⟩ = some (.int .i64 x.it.life) ∧ W.cell? ⟨B, 2, none⟩ = some x.pv ∧ W.cell? ⟨B, 3, none⟩ = some x.ov := by
  unfold Box4 at h
  refine ⟨?_, ?_, ?_, ?_⟩ <;> rw [cell_of_row _ _ _ _ _ _ h] <;> rfl
theorem Box4.below {W W' : World} {B n : Nat} {x : Iv} (h : Box4 W B x) (hb : Below n W W') (hB : B < n) : Box4 W' B x := (hb.block B hB).trans h
/-- The last one of a code. -/
def lastC (l : List Iv) (c : List UInt8) : Option Iv := l.foldl (fun o x => if c = x.it.code then some x else o) none
theorem lastC_snoc (l : List Iv) (x : Iv) (c : List UInt8) : lastC (l ++ [x]) c = if c = x.it.code then some x else lastC l c := by simp [lastC, List.foldl_append]
theorem lastC_nil (c : List UInt8) : lastC [] c = none := rfl
theorem snocRec {α : Type} {motive : List α → Prop} (l : List α) (nil : motive []) (snoc : ∀ (l : List α) (y : α), motive l → motive (l ++ [y])) : motive l := by
  rw [← List.reverse_reverse l]
  induction l.reverse with
  | nil => exact nil
  | cons x r ih => rw [List.reverse_cons]; exact snoc _ _ ih
theorem lastC_some : ∀ (l : List Iv) {c : List UInt8} {x : Iv}, lastC l c = some x → x ∈ l ∧ x.it.code = c := by
  intro l
  induction l using snocRec with
  | nil => intro c x h; simp [lastC] at h
  | snoc l y ih =>
    intro c x h
    rw [lastC_snoc] at h
    split at h
    · rename_i e
      cases h
      exact ⟨by simp, e.symm⟩
    · obtain ⟨h1, h2⟩ := ih h
      exact ⟨by simp [h1], h2⟩
theorem lastC_mem {l : List Iv} (hn : (l.map (·.it.code)).Nodup) {x : Iv} (hx : x ∈ l) : lastC l x.it.code = some x := by
  induction l using snocRec with
  | nil => simp at hx
  | snoc l y ih =>
    rw [lastC_snoc]
    rw [List.map_append, List.nodup_append] at hn
    rcases List.mem_append.1 hx with hx | hx
    · have hne : x.it.code ≠ y.it.code := hn.2.2 _ (List.mem_map_of_mem hx) _ (by simp)
      rw [if_neg hne]
      exact ih hn.1 hx
    · obtain rfl := List.mem_singleton.1 hx
      rw [if_pos rfl]
theorem lastC_none : ∀ (l : List Iv) (c : List UInt8), lastC l c = none ↔ c ∉ l.map (·.it.code) := by
  intro l
  induction l using snocRec with
  | nil => intro c; simp [lastC]
  | snoc l y ih =>
    intro c
    rw [lastC_snoc]
    by_cases e : c = y.it.code
    · rw [if_pos e]; simp [e]
    · rw [if_neg e, ih]; simp [e]
end Kt
end Go.Proofs.Ytkdcpnbfeagggaa
end
section
/- Codes and decimal numerals, in plain words. No walk. -/
namespace Go.Proofs.Ytkdcpnbfeagggaa
namespace Cd
set_option linter.unusedVariables false
set_option linter.unusedSimpArgs false

/-! ### codes -/
def upB (c : UInt8) : Bool := decide (65 ≤ c.toNat) && decide (c.toNat ≤ 90)
def inB (c : UInt8) : Bool := (decide (48 ≤ c.toNat) && decide (c.toNat ≤ 57)) || decide (c.toNat = 45)
def okAt (k : Nat) (c : UInt8) : Bool := upB c || (decide (k ≠ 0) && inB c)
/-- Each byte, from place k on, may stand there. -/
def allOk : Nat → List UInt8 → Bool
  | _, [] => true
  | k, c :: l => okAt k c && allOk (k + 1) l
def rightL (l : List UInt8) : Bool := decide (1 ≤ l.length) && decide (l.length ≤ 12) && allOk 0 l

theorem allOk_append : ∀ (l m : List UInt8) (k : Nat), allOk k (l ++ m) = (allOk k l && allOk (k + l.length) m)
  | [], m, k => by simp [allOk]
  | c :: l, m, k => by
    simp only [List.cons_append, allOk, allOk_append l m (k + 1), List.length_cons]
    rw [show k + 1 + l.length = k + (l.length + 1) by omega, Bool.and_assoc]
theorem allOk_take {l : List UInt8} {k : Nat} (n : Nat) (h : allOk k l = true) : allOk k (l.take n) = true := by
  have e := allOk_append (l.take n) (l.drop n) k
  rw [List.take_append_drop, h] at e
  have := e.symm
  rw [Bool.and_eq_true] at this
  exact this.1
theorem allOk_get : ∀ {l : List UInt8} {k : Nat}, allOk k l = true → ∀ {j : Nat} {c : UInt8}, l[j]? = some c → okAt (k + j) c = true
  | [], k, _, j, c, hc => by simp at hc
  | d :: l, k, h, 0, c, hc => by
    simp at hc; subst hc
    rw [allOk, Bool.and_eq_true] at h
    exact h.1
  | d :: l, k, h, j + 1, c, hc => by
    rw [allOk, Bool.and_eq_true] at h
    have := allOk_get h.2 (j := j) (c := c) (by simpa using hc)
    rwa [show k + 1 + j = k + (j + 1) by omega] at this
theorem allOk_no {l : List UInt8} {k j : Nat} {c : UInt8} (hc : l[j]? = some c) (h : okAt (k + j) c = false) : allOk k l = false := by
  cases e : allOk k l with
  | false => rfl
  | true => rw [allOk_get e hc] at h; cases h
theorem allOk_step {l : List UInt8} {j : Nat} {c : UInt8} (h : allOk 0 (l.take j) = true) (hc : l[j]? = some c) (ho : okAt j c = true) : allOk 0 (l.take (j + 1)) = true := by
  rw [List.take_add_one, hc]
  have hj : j < l.length := (List.getElem?_eq_some_iff.1 hc).1
  simp only [Option.toList]
  rw [allOk_append, h, List.length_take, Nat.min_eq_left (by omega)]
  simp [allOk, ho]
/-- The same from any place behind the first one. -/
theorem allOk_shift : ∀ (l : List UInt8) (k j : Nat), allOk (k + 1) l = true → allOk (j + 1) l = true
  | [], _, _, _ => rfl
  | c :: l, k, j, h => by
    rw [allOk, Bool.and_eq_true] at h ⊢
    refine ⟨?_, allOk_shift l (k + 1) (j + 1) h.2⟩
    have := h.1
    simpa [okAt] using this
theorem allOk_zero {l : List UInt8} {k : Nat} (h : allOk 0 l = true) : allOk (k + 1) l = true := by
  cases l with
  | nil => rfl
  | cons c l =>
    rw [allOk, Bool.and_eq_true] at h ⊢
    refine ⟨?_, allOk_shift l 0 (k + 1) h.2⟩
    have h1 := h.1
    simp [okAt] at h1 ⊢
    exact .inl h1
theorem rightL_parts {l : List UInt8} (h : rightL l = true) : 1 ≤ l.length ∧ l.length ≤ 12 ∧ allOk 0 l = true := by
  simp only [rightL, Bool.and_eq_true, decide_eq_true_eq] at h
  exact ⟨h.1.1, h.1.2, h.2⟩
theorem rightL_mk {l : List UInt8} (h1 : 1 ≤ l.length) (h2 : l.length ≤ 12) (h3 : allOk 0 l = true) : rightL l = true := by
  simp [rightL, h1, h2, h3]
theorem rightL_short {l : List UInt8} (h : l.length < 1) : rightL l = false := by
  have : decide (1 ≤ l.length) = false := by simpa using h
  simp [rightL, this]
theorem rightL_long {l : List UInt8} (h : 12 < l.length) : rightL l = false := by
  have : decide (l.length ≤ 12) = false := by simpa using h
  simp [rightL, this]
theorem rightL_no {l : List UInt8} {j : Nat} {c : UInt8} (hc : l[j]? = some c) (h : okAt j c = false) : rightL l = false := by
  rw [rightL, allOk_no (k := 0) hc (by rwa [Nat.zero_add]), Bool.and_false]
/-- What a code begins with is one. -/
theorem rightL_take {l : List UInt8} (h : rightL l = true) {k : Nat} (h1 : 1 ≤ k) : rightL (l.take k) = true := by
  obtain ⟨a, b, c⟩ := rightL_parts h
  exact rightL_mk (by rw [List.length_take]; omega) (by rw [List.length_take]; omega) (allOk_take k c)
/-- Two codes put together. -/
theorem rightL_app {a b : List UInt8} (ha : rightL a = true) (hb : rightL b = true) : rightL (a ++ b) = decide (a.length + b.length ≤ 12) := by
  obtain ⟨a1, a2, a3⟩ := rightL_parts ha
  obtain ⟨b1, b2, b3⟩ := rightL_parts hb
  have e : allOk 0 (a ++ b) = true := by
    rw [allOk_append, a3, Nat.zero_add, show a.length = (a.length - 1) + 1 by omega, allOk_zero b3]
    rfl
  simp only [rightL, e, List.length_append, Bool.and_true]
  rw [show decide (1 ≤ a.length + b.length) = true from decide_eq_true (by omega), Bool.true_and]

/-! ### a code's bytes -/
def orNoneL (l : List UInt8) : Bool := decide (l = []) || rightL l
theorem orNoneL_length {l : List UInt8} (h : orNoneL l = true) : l.length ≤ 12 := by
  simp only [orNoneL, Bool.or_eq_true, decide_eq_true_eq] at h
  rcases h with rfl | h
  · simp
  · exact (rightL_parts h).2.1
def putL (l : List UInt8) : List UInt8 := if orNoneL l = true then UInt8.ofNat l.length :: l else []
/-- What b begins with: the code, how many bytes, and whether. -/
def getL (b : List UInt8) : Option (List UInt8) :=
  match b with
  | [] => none
  | c :: r => if c.toNat ≤ r.length ∧ orNoneL (r.take c.toNat) = true then some (r.take c.toNat) else none
def getS (b : List UInt8) : List UInt8 := (getL b).getD []
def getN (b : List UInt8) : Int := match getL b with | some s => 1 + s.length | none => 0
def getB (b : List UInt8) : Bool := (getL b).isSome

theorem getL_put {s : List UInt8} (m : List UInt8) (h : orNoneL s = true) : getL (putL s ++ m) = some s := by
  have hl := orNoneL_length h
  have e : (UInt8.ofNat s.length).toNat = s.length := by simp; omega
  simp only [putL, h, if_true, List.cons_append, getL, e]
  rw [if_pos ⟨by simp, by rw [List.take_left']; exact h; rfl⟩, List.take_left' rfl]
theorem put_getL {b s : List UInt8} (h : getL b = some s) : s.length + 1 ≤ b.length ∧ putL s = b.take (1 + s.length) ∧ orNoneL s = true := by
  unfold getL at h
  split at h
  · cases h
  · rename_i c r
    split at h
    · rename_i hc
      injection h with h
      subst h
      have hl : (r.take c.toNat).length = c.toNat := by rw [List.length_take]; omega
      refine ⟨by rw [hl, List.length_cons]; omega, ?_, hc.2⟩
      rw [putL, if_pos hc.2, hl, Nat.add_comm, List.take_succ_cons]
      simp
    · cases h

end Cd
end Go.Proofs.Ytkdcpnbfeagggaa
end
section
/- The contracts of code.Right, letter, inner and of the reference's Right. -/
namespace Go.Proofs.Ytkdcpnbfeagggaa
namespace Cd
open Go.ChangeShapes Go.WideShapes Go.ChangeAt Go.RowKit
set_option linter.unusedVariables false

theorem ret_bool {a b : Bool} (h : a = b) : Ending.returned (.bool a) = .returned (.bool b) := by rw [h]


theorem letter_yes (r : Int) (w : World) (h0 : 65 ≤ r) (h1 : r ≤ 90) : Calls Try.prog 68 #[.int .i32 r] w fun e w' => e = .returned (.bool true) ∧ w = w' := by
  go_enter Try.func68, Try.ntmps68
  go_wp2
  go_ret
  exact ⟨rfl, rfl⟩
theorem letter_no (r : Int) (w : World) (h : ¬ (65 ≤ r ∧ r ≤ 90)) : Calls Try.prog 68 #[.int .i32 r] w fun e w' => e = .returned (.bool false) ∧ w = w' := by
  by_cases h0 : 65 ≤ r
  · have h1 : decide (r ≤ 90) = false := by simp; omega
    clear h
    go_enter Try.func68, Try.ntmps68
    go_wp2
    go_ret
    exact ⟨rfl, rfl⟩
  · have h1 : decide (65 ≤ r) = false := by simpa using h0
    clear h
    go_enter Try.func68, Try.ntmps68
    go_wp2
    go_ret
    exact ⟨rfl, rfl⟩
theorem inner_yes (r : Int) (w : World) (h : (48 ≤ r ∧ r ≤ 57) ∨ r = 45) : Calls Try.prog 69 #[.int .i32 r] w fun e w' => e = .returned (.bool true) ∧ w = w' := by
  rcases h with ⟨h0, h1⟩ | rfl
  · go_enter Try.func69, Try.ntmps69
    go_wp2
    go_ret
    exact ⟨rfl, rfl⟩
  · go_enter Try.func69, Try.ntmps69
    go_wp2
    go_ret
    exact ⟨rfl, rfl⟩
theorem inner_no (r : Int) (w : World) (h : ¬ ((48 ≤ r ∧ r ≤ 57) ∨ r = 45)) : Calls Try.prog 69 #[.int .i32 r] w fun e w' => e = .returned (.bool false) ∧ w = w' := by
  have h45 : (r == 45) = false := by simp; omega
  by_cases h0 : 48 ≤ r
  · have h1 : decide (r ≤ 57) = false := by simp; omega
    clear h
    go_enter Try.func69, Try.ntmps69
    go_wp2
    go_ret
    exact ⟨rfl, rfl⟩
  · have h1 : decide (48 ≤ r) = false := by simpa using h0
    clear h
    go_enter Try.func69, Try.ntmps69
    go_wp2
    go_ret
    exact ⟨rfl, rfl⟩

theorem size_list (s : ByteArray) : s.data.toList.length = s.size := by rw [Array.length_toList]; rfl
theorem get_list (s : ByteArray) (k : Nat) (h : k < s.size) : s.data.toList[k]? = some s[k] := by
  rw [List.getElem?_eq_getElem (by rw [size_list]; exact h)]; rfl
theorem below_iter (w : World) (s : ByteArray) (pos : Nat) : Below w.heap.size w (w.iter s pos) := (Below.refl _ _).alloc (Nat.le_refl _) _

set_option maxHeartbeats 1000000 in
theorem right_any (s : ByteArray) (w : World) :
    Calls Try.prog 51 #[.string s] w fun e w' => e = .returned (.bool (rightL s.data.toList)) ∧ Below w.heap.size w w' := by
  by_cases hs1 : 1 ≤ s.size
  · by_cases hs2 : s.size ≤ 12
    · go_enter Try.func51, Try.ntmps51
      go_wp2_with fail
      go_loopw [] (fun wr => ∃ pos : Nat, pos ≤ s.size ∧ wr = w.iter s pos ∧ Hid (allOk 0 (s.data.toList.take pos) = true)) (fun wr => s.size - wr.iterPos w.heap.size)
      case atStart => exact ⟨0, Nat.zero_le _, rfl, Lib.hid rfl⟩
      case round =>
        obtain ⟨pos, hpos, rfl, HA⟩ := hrel
        by_cases hp : pos < s.size
        · by_cases ha : (s[pos]'hp).toNat < 128
          · have hnx := fun ty => run_next_ascii (P := Try.prog) w s pos ty hp ha
            have hc := get_list s pos hp
            by_cases hu : 65 ≤ (s[pos]'hp).toNat ∧ (s[pos]'hp).toNat ≤ 90
            · have hok : okAt pos s[pos] = true := by simp [okAt, upB, hu]
              have hst := allOk_step HA.out hc hok
              have HST := Lib.hid hst
              clear hst hok hc
              go_wp2_with (go_at_call 68; ((with_reducible refine (letter_yes _ _ (by omega) (by omega)).mono ?_); rintro e w' ⟨rfl, rfl⟩))
              go_roundw
              case rel => exact ⟨pos + 1, by omega, rfl, HST⟩
              case measure => simp only [World.iterPos_iter]; omega
            · by_cases hz : pos = 0
              · subst hz
                have hok : okAt 0 s[0] = false := by simp [okAt, upB]; omega
                have hno := rightL_no hc hok
                have HNO := Lib.hid hno
                clear hno hok hc
                go_wp2_with (go_at_call 68; ((with_reducible refine (letter_no _ _ (by omega)).mono ?_); rintro e w' ⟨rfl, rfl⟩))
                go_ret
                exact ⟨ret_bool HNO.out.symm, below_iter _ _ _⟩
              · have hz1 : ((pos : Int) == 0) = false := by simp; omega
                by_cases hi : (48 ≤ (s[pos]'hp).toNat ∧ (s[pos]'hp).toNat ≤ 57) ∨ (s[pos]'hp).toNat = 45
                · have hok : okAt pos s[pos] = true := by simp [okAt, inB, hz]; right; omega
                  have hst := allOk_step HA.out hc hok
                  have HST := Lib.hid hst
                  have HI := Lib.hid hi
                  have HZ := Lib.hid hz
                  clear hst hok hc hi hz
                  go_wp2_with (first
                    | (go_at_call 68; ((with_reducible refine (letter_no _ _ (by omega)).mono ?_); rintro e w' ⟨rfl, rfl⟩))
                    | (go_at_call 69; ((with_reducible refine (inner_yes _ _ (by have := HI.out; omega)).mono ?_); rintro e w' ⟨rfl, rfl⟩)))
                  go_roundw
                  case rel => exact ⟨pos + 1, by omega, rfl, HST⟩
                  case measure => simp only [World.iterPos_iter]; omega
                · have hok : okAt pos s[pos] = false := by simp [okAt, upB, inB]; omega
                  have hno := rightL_no hc hok
                  have HNO := Lib.hid hno
                  have HI := Lib.hid hi
                  have HZ := Lib.hid hz
                  clear hno hok hc hi hz
                  go_wp2_with (first
                    | (go_at_call 68; ((with_reducible refine (letter_no _ _ (by omega)).mono ?_); rintro e w' ⟨rfl, rfl⟩))
                    | (go_at_call 69; ((with_reducible refine (inner_no _ _ (by have := HI.out; omega)).mono ?_); rintro e w' ⟨rfl, rfl⟩)))
                  go_ret
                  exact ⟨ret_bool HNO.out.symm, below_iter _ _ _⟩
          · have hnx := fun ty => run_next_any (P := Try.prog) w s pos ty hp
            have hc := get_list s pos hp
            obtain ⟨hd1, hd2⟩ := decode_high s pos hp (by omega)
            have hd3 := decode_le s pos
            have hok : okAt pos s[pos] = false := by simp [okAt, upB, inB]; omega
            have hno := rightL_no hc hok
            have HNO := Lib.hid hno
            clear hno hok hc
            generalize (Utf8.decode s pos).1 = r at hnx hd1 hd3
            generalize (Utf8.decode s pos).2 = n at hnx hd2
            by_cases hz : pos = 0
            · subst hz
              go_wp2_with (go_at_call 68; ((with_reducible refine (letter_no _ _ (by omega)).mono ?_); rintro e w' ⟨rfl, rfl⟩))
              go_ret
              exact ⟨ret_bool HNO.out.symm, below_iter _ _ _⟩
            · have hz1 : ((pos : Int) == 0) = false := by simp; omega
              have HZ := Lib.hid hz
              clear hz
              go_wp2_with (first
                | (go_at_call 68; ((with_reducible refine (letter_no _ _ (by omega)).mono ?_); rintro e w' ⟨rfl, rfl⟩))
                | (go_at_call 69; ((with_reducible refine (inner_no _ _ (by omega)).mono ?_); rintro e w' ⟨rfl, rfl⟩)))
              go_ret
              exact ⟨ret_bool HNO.out.symm, below_iter _ _ _⟩
        · have hnx := fun ty => run_next_end (P := Try.prog) w s pos ty hp
          have hall : rightL s.data.toList = true := rightL_mk (by rw [size_list]; exact hs1) (by rw [size_list]; exact hs2) (by have := HA.out; rwa [List.take_of_length_le (by rw [size_list]; omega)] at this)
          have HALL := Lib.hid hall
          clear hall
          go_wp2
          go_ret
          exact ⟨ret_bool HALL.out.symm, below_iter _ _ _⟩
    · have hno : rightL s.data.toList = false := rightL_long (by rw [size_list]; omega)
      have HNO := Lib.hid hno
      have hd : decide (12 < s.size) = true := decide_eq_true (by omega)
      clear hno
      go_enter Try.func51, Try.ntmps51
      go_wp2_with fail
      go_ret
      exact ⟨ret_bool HNO.out.symm, Below.refl _ _⟩
  · have hno : rightL s.data.toList = false := rightL_short (by rw [size_list]; omega)
    have HNO := Lib.hid hno
    have hd : decide (s.size < 1) = true := decide_eq_true (by omega)
    clear hno
    go_enter Try.func51, Try.ntmps51
    go_wp2_with fail
    go_ret
    exact ⟨ret_bool HNO.out.symm, Below.refl _ _⟩
end Cd
end Go.Proofs.Ytkdcpnbfeagggaa
end
section
/- kit.kept, kit.isKit: whether an item is kept, or a kit. -/
namespace Go.Proofs.Ytkdcpnbfeagggaa
namespace Kt
open Go.ChangeShapes Go.WideShapes Go.ChangeAt Go.RowKit Go.Maps
set_option linter.unusedVariables false

def keptB (x : Kt.It) : Bool := decide (1 ≤ x.life) && (decide (x.life ≤ 2000) && decide (x.parts.length = 0))
theorem kept_any (x : Iv) (B : Nat) (w : World) (h : ISub w B x) : Calls Try.prog 45 #[aggI x] w fun e w' => e = .returned (.bool (keptB x.it)) ∧ Go.RowKit.Below w.heap.size w w' := by
  obtain ⟨⟨code, life, parts⟩, others, pv, ov⟩ := x
  obtain ⟨⟨A, c, hpv, hc1, hc2, hcz, hl⟩, _⟩ := h
  simp only at hpv hc1 hl
  subst hpv
  have hb0 : Go.RowKit.Below w.heap.size w (w.alloc (.cells #[.string ⟨code.toArray⟩, .int .i64 life, .slice A parts.length c, ov] 32)) := (Below.refl _ _).alloc (Nat.le_refl _) _
  obtain ⟨v, hv⟩ : ∃ v, keptB ⟨code, life, parts⟩ = v := ⟨_, rfl⟩
  simp only [hv]
  unfold keptB at hv
  by_cases h1 : 1 ≤ life
  · have d1 : decide (1 ≤ life) = true := decide_eq_true h1
    by_cases h2 : life ≤ 2000
    · have d2 : decide (life ≤ 2000) = true := decide_eq_true h2
      obtain ⟨n, hn⟩ : ∃ n, parts.length = n := ⟨_, rfl⟩
      simp only [hn] at *
      by_cases h3 : n = 0
      · subst h3
        go_enter Try.func45, Try.ntmps45
        go_wp2
        go_ret
        exact ⟨Cd.ret_bool (by rw [← hv, d1, d2]; rfl), hb0⟩
      · go_enter Try.func45, Try.ntmps45
        go_wp2
        go_ret
        exact ⟨Cd.ret_bool (by rw [← hv, d1, d2]; simp [h3]), hb0⟩
    · have d2 : decide (life ≤ 2000) = false := decide_eq_false h2
      go_enter Try.func45, Try.ntmps45
      go_wp2
      go_ret
      exact ⟨Cd.ret_bool (by rw [← hv, d1, d2]; rfl), hb0⟩
  · have d1 : decide (1 ≤ life) = false := decide_eq_false h1
    go_enter Try.func45, Try.ntmps45
    go_wp2
    go_ret
    exact ⟨Cd.ret_bool (by rw [← hv, d1]; rfl), hb0⟩
end Kt
end Go.Proofs.Ytkdcpnbfeagggaa
end
section
/- slices.IndexFunc, slices.ContainsFunc at parts and items. Written by gen_kidx.py. -/
namespace Go.Proofs.Ytkdcpnbfeagggaa
namespace Kt
open Go.ChangeShapes Go.WideShapes Go.ChangeAt Go.RowKit Go.Shelf
set_option linter.unusedVariables false

def idxOf {α : Type} (p : α → Bool) : List α → Int
  | [] => -1
  | x :: l => if p x = true then 0 else if idxOf p l < 0 then -1 else idxOf p l + 1
theorem idxOf_any {α : Type} (p : α → Bool) : ∀ l : List α, decide (0 ≤ idxOf p l) = l.any p
  | [] => by simp [idxOf]
  | x :: l => by
    have ih := idxOf_any p l
    unfold idxOf
    rw [List.any_cons, ← ih]
    by_cases h : p x = true
    · simp [h]
    · rw [if_neg h]
      have hf : p x = false := by simpa using h
      rw [hf, Bool.false_or]
      split
      · rename_i h2
        rw [decide_eq_false (by omega), decide_eq_false (by omega)]
      · rename_i h2
        rw [decide_eq_true (by omega), decide_eq_true (by omega)]
theorem idxOf_hit {α : Type} (p : α → Bool) : ∀ (l : List α) (k : Nat) (x : α), l[k]? = some x → p x = true → (l.take k).any p = false → idxOf p l = k
  | [], k, x, h, _, _ => by simp at h
  | y :: l, 0, x, h, hp, _ => by simp at h; subst h; simp [idxOf, hp]
  | y :: l, k + 1, x, h, hp, hn => by
    simp only [List.take_succ_cons, List.any_cons, Bool.or_eq_false_iff] at hn
    have ih := idxOf_hit p l k x (by simpa using h) hp hn.2
    unfold idxOf
    rw [if_neg (by simp [hn.1]), ih, if_neg (by omega)]
    omega
theorem idxOf_none {α : Type} (p : α → Bool) (l : List α) (h : l.any p = false) : idxOf p l = -1 := by
  have h1 := idxOf_any p l
  rw [h] at h1
  have h2 : ¬ 0 ≤ idxOf p l := of_decide_eq_false h1
  cases l with
  | nil => rfl
  | cons x l =>
    unfold idxOf at h2 ⊢
    by_cases hp : p x = true
    · rw [if_pos hp] at h2; omega
    · rw [if_neg hp] at h2 ⊢
      split
      · rfl
      · rename_i h3; rw [if_neg h3] at h2; omega
theorem any_take_succ {α : Type} (p : α → Bool) {l : List α} {k : Nat} {x : α} (h : l[k]? = some x) (h0 : (l.take k).any p = false) (hx : p x = false) : (l.take (k + 1)).any p = false := by
  rw [List.take_add_one, h, List.any_append, h0]; simp [hx]

/-- What a function that tells of one answers, wherever what lay below n₀ lies. -/
def GivesP (g : Nat) (lb : Array Value) (p : Pt → Bool) (l : List Pt) (n₀ : Nat) (w : World) : Prop :=
  ∀ (x : Pt) (W : World), x ∈ l → Below n₀ w W → Calls Try.prog g (#[.agg #[.string ⟨x.1.toArray⟩, .int .i64 x.2]] ++ lb) W fun e w' => e = .returned (.bool (p x)) ∧ Below W.heap.size W w'
theorem GivesP.at_ {g : Nat} {lb : Array Value} {p : Pt → Bool} {l : List Pt} {n₀ : Nat} {w : World} (h : GivesP g lb p l n₀ w) : ∀ (x : Pt) (W : World), x ∈ l → Below n₀ w W → Calls Try.prog g (#[.agg #[.string ⟨x.1.toArray⟩, .int .i64 x.2]] ++ lb) W fun e w' => e = .returned (.bool (p x)) ∧ Below W.heap.size W w' := h
set_option maxRecDepth 100000 in
set_option maxHeartbeats 1000000 in
theorem indexP_any (g : Nat) (lb : Array Value) (eg : ∀ args w, (callFunc g args).run Try.prog w = .ok (.enter g args) w) (p : Pt → Bool) (v : Value) (l : List Pt) (B : Nat) (w : World) (hB : B ≤ w.heap.size) (hlen : l.length ≤ 1099511627776) (hv : PSl w B v l) (hp : GivesP g lb p l w.heap.size w) :
    Calls Try.prog 81 #[v, .func (.func g) #[] lb] w fun e w' => e = .returned (.int .i64 (idxOf p l)) ∧ Below w.heap.size w w' := by
  obtain ⟨A, c, rfl, hc1, hc2, hcz, hl⟩ := id hv
  have HP := Lib.hid hp
  have HL := Lib.hid hl
  clear hp hl hv
  go_enter Try.func81, Try.ntmps81
  go_wp2
  go_loopw [8] (fun i wr => ∃ k : Nat, k ≤ l.length ∧ i = .int .i64 k ∧ Hid ((l.take k).any p = false) ∧ Hid (Below w.heap.size w wr)) (fun i _ => l.length - (intOf i).toNat)
  case atStart => exact ⟨0, Nat.zero_le _, rfl, Lib.hid (by simp), Lib.hid (Below.refl _ _)⟩
  case round =>
    obtain ⟨k, hk, rfl, HN, HB⟩ := hrel
    by_cases hlt : k < l.length
    · obtain ⟨x, hx⟩ : ∃ x, l[k]? = some x := ⟨_, List.getElem?_eq_getElem hlt⟩
      obtain ⟨ad, rfl, hab, hx0, hx1⟩ := (HL.out.below (HB.out.mono hB)).part hx
      have hcall := HP.out.at_ x _ (List.mem_of_getElem? hx) HB.out
      have HX := Lib.hid hx
      clear hx
      cases hpx : p x
      · rw [hpx] at hcall
        have HC := Lib.hid hcall
        have hst : Hid ((l.take (k + 1)).any p = false) := Lib.hid (any_take_succ p HX.out HN.out hpx)
        clear hcall hpx
        go_wp2_with (go_at_fn g; ((with_reducible refine HC.out.mono ?_); rintro e w2 ⟨rfl, hb2'⟩; have hb2 := Lib.hid hb2'; clear hb2'))
        have hbn := Lib.hid (below_two HB.out hb2.out)
        clear hb2 HC
        go_roundw
        case rel => exact ⟨k + 1, by omega, by go_num, hst, hbn⟩
        case measure => simp [intOf]; omega
      · rw [hpx] at hcall
        have HC := Lib.hid hcall
        have HI := Lib.hid (idxOf_hit p l k x HX.out hpx HN.out)
        clear hcall hpx
        go_wp2_with (go_at_fn g; ((with_reducible refine HC.out.mono ?_); rintro e w2 ⟨rfl, hb2'⟩; have hb2 := Lib.hid hb2'; clear hb2'))
        go_ret
        exact ⟨by rw [HI.out]; rfl, below_two HB.out hb2.out⟩
    · obtain rfl : k = l.length := by omega
      go_wp2
      go_ret
      exact ⟨by rw [idxOf_none p l (by have := HN.out; rwa [List.take_of_length_le (Nat.le_refl _)] at this)]; rfl, HB.out⟩
theorem containsP_any (g : Nat) (lb : Array Value) (eg : ∀ args w, (callFunc g args).run Try.prog w = .ok (.enter g args) w) (p : Pt → Bool) (v : Value) (l : List Pt) (B : Nat) (w : World) (hB : B ≤ w.heap.size) (hlen : l.length ≤ 1099511627776) (hv : PSl w B v l) (hp : GivesP g lb p l w.heap.size w) :
    Calls Try.prog 71 #[v, .func (.func g) #[] lb] w fun e w' => e = .returned (.bool (l.any p)) ∧ Below w.heap.size w w' := by
  have HC := Lib.hid (indexP_any g lb eg p v l B w hB hlen hv hp)
  have HV := Lib.hid (idxOf_any p l)
  obtain ⟨A, c, rfl, hc1, hc2, hcz, hl⟩ := id hv
  clear hp hv hl
  generalize idxOf p l = r at HC HV
  go_enter Try.func71, Try.ntmps71
  go_wp2_with (go_at_call 81; ((with_reducible refine HC.out.mono ?_); rintro e w2 ⟨rfl, hb2'⟩; have hb2 := Lib.hid hb2'; clear hb2'))
  go_ret
  exact ⟨by rw [← HV.out]; rfl, hb2.out⟩

/-- What a function that tells of one answers, wherever what lay below n₀ lies. -/
def GivesI (g : Nat) (lb : Array Value) (p : Iv → Bool) (l : List Iv) (n₀ : Nat) (w : World) : Prop :=
  ∀ (x : Iv) (W : World), x ∈ l → Below n₀ w W → Calls Try.prog g (#[.agg #[.string ⟨x.it.code.toArray⟩, .int .i64 x.it.life, x.pv, x.ov]] ++ lb) W fun e w' => e = .returned (.bool (p x)) ∧ Below W.heap.size W w'
theorem GivesI.at_ {g : Nat} {lb : Array Value} {p : Iv → Bool} {l : List Iv} {n₀ : Nat} {w : World} (h : GivesI g lb p l n₀ w) : ∀ (x : Iv) (W : World), x ∈ l → Below n₀ w W → Calls Try.prog g (#[.agg #[.string ⟨x.it.code.toArray⟩, .int .i64 x.it.life, x.pv, x.ov]] ++ lb) W fun e w' => e = .returned (.bool (p x)) ∧ Below W.heap.size W w' := h
set_option maxRecDepth 100000 in
set_option maxHeartbeats 1000000 in
theorem indexI_any (g : Nat) (lb : Array Value) (eg : ∀ args w, (callFunc g args).run Try.prog w = .ok (.enter g args) w) (p : Iv → Bool) (v : Value) (l : List Iv) (B : Nat) (w : World) (hB : B ≤ w.heap.size) (hlen : l.length ≤ 1099511627776) (hv : ISl w B v l) (hp : GivesI g lb p l w.heap.size w) :
    Calls Try.prog 72 #[v, .func (.func g) #[] lb] w fun e w' => e = .returned (.int .i64 (idxOf p l)) ∧ Below w.heap.size w w' := by
  obtain ⟨A, c, rfl, hc1, hc2, hcz, hl⟩ := id hv.1
  have HP := Lib.hid hp
  have HL := Lib.hid hl
  clear hp hl hv
  go_enter Try.func72, Try.ntmps72
  go_wp2
  go_loopw [8] (fun i wr => ∃ k : Nat, k ≤ l.length ∧ i = .int .i64 k ∧ Hid ((l.take k).any p = false) ∧ Hid (Below w.heap.size w wr)) (fun i _ => l.length - (intOf i).toNat)
  case atStart => exact ⟨0, Nat.zero_le _, rfl, Lib.hid (by simp), Lib.hid (Below.refl _ _)⟩
  case round =>
    obtain ⟨k, hk, rfl, HN, HB⟩ := hrel
    by_cases hlt : k < l.length
    · obtain ⟨x, hx⟩ : ∃ x, l[k]? = some x := ⟨_, List.getElem?_eq_getElem hlt⟩
      obtain ⟨ad, rfl, hab, hx0, hx1, hx2, hx3⟩ := (HL.out.below (HB.out.mono hB)).rowI hx
      have hcall := HP.out.at_ x _ (List.mem_of_getElem? hx) HB.out
      have HX := Lib.hid hx
      clear hx
      cases hpx : p x
      · rw [hpx] at hcall
        have HC := Lib.hid hcall
        have hst : Hid ((l.take (k + 1)).any p = false) := Lib.hid (any_take_succ p HX.out HN.out hpx)
        clear hcall hpx
        go_wp2_with (go_at_fn g; ((with_reducible refine HC.out.mono ?_); rintro e w2 ⟨rfl, hb2'⟩; have hb2 := Lib.hid hb2'; clear hb2'))
        have hbn := Lib.hid (below_two HB.out hb2.out)
        clear hb2 HC
        go_roundw
        case rel => exact ⟨k + 1, by omega, by go_num, hst, hbn⟩
        case measure => simp [intOf]; omega
      · rw [hpx] at hcall
        have HC := Lib.hid hcall
        have HI := Lib.hid (idxOf_hit p l k x HX.out hpx HN.out)
        clear hcall hpx
        go_wp2_with (go_at_fn g; ((with_reducible refine HC.out.mono ?_); rintro e w2 ⟨rfl, hb2'⟩; have hb2 := Lib.hid hb2'; clear hb2'))
        go_ret
        exact ⟨by rw [HI.out]; rfl, below_two HB.out hb2.out⟩
    · obtain rfl : k = l.length := by omega
      go_wp2
      go_ret
      exact ⟨by rw [idxOf_none p l (by have := HN.out; rwa [List.take_of_length_le (Nat.le_refl _)] at this)]; rfl, HB.out⟩
theorem containsI_any (g : Nat) (lb : Array Value) (eg : ∀ args w, (callFunc g args).run Try.prog w = .ok (.enter g args) w) (p : Iv → Bool) (v : Value) (l : List Iv) (B : Nat) (w : World) (hB : B ≤ w.heap.size) (hlen : l.length ≤ 1099511627776) (hv : ISl w B v l) (hp : GivesI g lb p l w.heap.size w) :
    Calls Try.prog 53 #[v, .func (.func g) #[] lb] w fun e w' => e = .returned (.bool (l.any p)) ∧ Below w.heap.size w w' := by
  have HC := Lib.hid (indexI_any g lb eg p v l B w hB hlen hv hp)
  have HV := Lib.hid (idxOf_any p l)
  obtain ⟨A, c, rfl, hc1, hc2, hcz, hl⟩ := id hv.1
  clear hp hv hl
  generalize idxOf p l = r at HC HV
  go_enter Try.func53, Try.ntmps53
  go_wp2_with (go_at_call 72; ((with_reducible refine HC.out.mono ?_); rintro e w2 ⟨rfl, hb2'⟩; have hb2 := Lib.hid hb2'; clear hb2'))
  go_ret
  exact ⟨by rw [← HV.out]; rfl, hb2.out⟩
end Kt
end Go.Proofs.Ytkdcpnbfeagggaa
end
section
/- kit.isKit: whether an item is a kit. -/
namespace Go.Proofs.Ytkdcpnbfeagggaa
namespace Kt
open Go.ChangeShapes Go.WideShapes Go.ChangeAt Go.RowKit Go.Maps Go.Shelf
set_option linter.unusedVariables false

/-- Part k of parts: its Qty is one, and none ahead of it has its Item. -/
def freshB (ps : List Pt) (k : Nat) : Bool := match ps[k]? with
  | some p => decide (1 ≤ p.2) && (decide (p.2 ≤ 1073741824) && !(ps.take k).any (fun o => decide (o.1 = p.1)))
  | none => true
def partsB (ps : List Pt) : Bool := (List.range ps.length).all (freshB ps)
def kitB (x : It) : Bool := decide (x.life = 0) && (decide (1 ≤ x.parts.length) && (decide (x.parts.length ≤ 8) && partsB x.parts))

/-- A block that holds one part. -/
theorem part_new (W : World) (p : Pt) : (W.alloc (.cells #[.string ⟨p.1.toArray⟩, .int .i64 p.2] 34)).cell? ⟨W.heap.size, 0, none⟩ = some (.string ⟨p.1.toArray⟩) ∧ (W.alloc (.cells #[.string ⟨p.1.toArray⟩, .int .i64 p.2] 34)).cell? ⟨W.heap.size, 1, none⟩ = some (.int .i64 p.2) := by
  refine ⟨?_, ?_⟩ <;> rw [Go.cell_of_row _ _ _ _ _ _ (Go.heap_alloc_new W _)] <;> rfl
theorem same_gives (p : Pt) (l : List Pt) (b n₀ : Nat) (w : World) (hb : b < n₀) (hn : n₀ ≤ w.heap.size) (hc : w.cell? ⟨b, 0, none⟩ = some (.string ⟨p.1.toArray⟩)) : GivesP 70 #[.pointer (some ⟨b, 0, none⟩)] (fun o => decide (o.1 = p.1)) l n₀ w := by
  intro x W _ hW
  have hcW := (hW.cell (p := ⟨b, 0, none⟩) hb).trans hc
  have hbW : b < W.heap.size := by have := hW.size; omega
  clear hW hc
  obtain ⟨xi, xq⟩ := x
  obtain ⟨pi, pq⟩ := p
  show Calls Try.prog 70 #[.agg #[.string ⟨xi.toArray⟩, .int .i64 xq], .pointer (some ⟨b, 0, none⟩)] W _
  simp only at hcW
  have hb0 : Go.RowKit.Below W.heap.size W (W.alloc (.cells #[.string ⟨xi.toArray⟩, .int .i64 xq] 34)) := below_alloc1 _ _
  by_cases h : xi = pi
  · subst h
    go_enter Try.func70, Try.ntmps70
    go_wp2
    go_ret
    exact ⟨Cd.ret_bool (by simp), hb0⟩
  · have hd : (xi == pi) = false := beq_eq_false_iff_ne.2 h
    go_enter Try.func70, Try.ntmps70
    go_wp2
    go_ret
    exact ⟨Cd.ret_bool (by simp [h]), hb0⟩

theorem enters_same : ∀ args w, (callFunc 70 args).run Try.prog w = .ok (.enter 70 args) w := enters_of Try.func70 (by kernel_rfl) rfl
theorem below_box {w w1 : World} {o : Obj} (h0 : Go.RowKit.Below w.heap.size w (w.alloc o)) (h : Go.RowKit.Below (w.heap.size + 1) (w.alloc o) w1) : Go.RowKit.Below w.heap.size w w1 := h0.trans (h.mono (by omega))
theorem partsB_no {ps : List Pt} {k : Nat} (hk : k < ps.length) (h : freshB ps k = false) : partsB ps = false := by
  unfold partsB
  rw [List.all_eq_false]
  exact ⟨k, List.mem_range.2 hk, by rw [h]; simp⟩
theorem partsB_yes {ps : List Pt} (h : ∀ j, j < ps.length → freshB ps j = true) : partsB ps = true := by
  unfold partsB
  rw [List.all_eq_true]
  exact fun j hj => h j (List.mem_range.1 hj)

set_option maxRecDepth 100000 in
set_option maxHeartbeats 4000000 in
theorem isKit_any (x : Iv) (B : Nat) (w : World) (hB : B ≤ w.heap.size) (h : ISub w B x) (hs : Sized x.it.parts) : Calls Try.prog 52 #[aggI x] w fun e w' => e = .returned (.bool (kitB x.it)) ∧ Go.RowKit.Below w.heap.size w w' := by
  obtain ⟨⟨code, life, ps⟩, others, pv, ov⟩ := x
  obtain ⟨⟨A, c, hpv, hc1, hc2, hcz, hl⟩, _⟩ := h
  simp only at hpv hc1 hl hs
  subst hpv
  have hb0 : Go.RowKit.Below w.heap.size w (w.alloc (.cells #[.string ⟨code.toArray⟩, .int .i64 life, .slice A ps.length c, ov] 32)) := below_alloc1 _ _
  have hbx := (Box4.new w ⟨⟨code, life, ps⟩, others, .slice A ps.length c, ov⟩)
  obtain ⟨v, hv⟩ : ∃ v, kitB ⟨code, life, ps⟩ = v := ⟨_, rfl⟩
  simp only [hv]
  unfold kitB at hv
  simp only at hv
  by_cases h1 : life = 0
  · subst h1
    by_cases h2 : 1 ≤ ps.length
    · have d2 : decide ((ps.length : Int) < 1) = false := decide_eq_false (by omega)
      by_cases h3 : ps.length ≤ 8
      · have d3 : decide ((8 : Int) < (ps.length : Int)) = false := decide_eq_false (by omega)
        rw [decide_eq_true rfl, decide_eq_true h2, decide_eq_true h3] at hv
        have HV : Hid (partsB ps = v) := Lib.hid (by simpa using hv)
        have HL := Lib.hid hl
        have HX := Lib.hid hbx
        have HB0 := Lib.hid hb0
        have HS : Hid (Sized ps) := Lib.hid hs
        clear hl hbx hb0 hv hs
        go_enter Try.func52, Try.ntmps52
        obtain ⟨d0, e1, e2, e3⟩ := HX.out.cells
        simp only at d0 e1 e2 e3
        go_wp2
        clear d0 e1 e2 e3
        go_loopw [24] (fun i wr => ∃ k : Nat, k ≤ ps.length ∧ i = .int .i64 k ∧ Hid (∀ j, j < k → freshB ps j = true) ∧ Hid (Go.RowKit.Below (w.heap.size + 1) (w.alloc (.cells #[.string ⟨code.toArray⟩, .int .i64 0, .slice A ps.length c, ov] 32)) wr)) (fun i _ => ps.length - (intOf i).toNat)
        case atStart => exact ⟨0, Nat.zero_le _, rfl, Lib.hid (by omega), Lib.hid (Below.refl _ _)⟩
        case round =>
          obtain ⟨k, hk, rfl, HN, HB⟩ := hrel
          by_cases hlt : k < ps.length
          · obtain ⟨p, hp⟩ : ∃ p, ps[k]? = some p := ⟨_, List.getElem?_eq_getElem hlt⟩
            have hlw : Lies wr w.heap.size A (pcells ps) := (HL.out.mono hB |>.below (below_alloc1 w _)).below (HB.out.mono (by omega))
            obtain ⟨ad, rfl, hab, x0, x1⟩ := hlw.part hp
            obtain ⟨hp1, hp2, hp3⟩ := HS.out p (List.mem_of_getElem? hp)
            obtain ⟨e0, e1, e2, e3⟩ := (HX.out.below HB.out (by omega)).cells
            simp only at e0 e1 e2 e3
            have hwr := HB.out.size
            simp only [World.size_alloc] at hwr
            have HF : Hid (freshB ps k = (decide (1 ≤ p.2) && (decide (p.2 ≤ 1073741824) && !(ps.take k).any (fun o => decide (o.1 = p.1))))) := Lib.hid (by unfold freshB; rw [hp])
            obtain ⟨pi, pq⟩ := p
            simp only at x0 x1 hp2 hp3
            have hpn := part_new wr (pi, pq)
            simp only at hpn
            obtain ⟨n0, n1⟩ := hpn
            have HB1 : Hid (Go.RowKit.Below (w.heap.size + 1) (w.alloc (.cells #[.string ⟨code.toArray⟩, .int .i64 0, .slice (some ad) ps.length c, ov] 32)) (wr.alloc (.cells #[.string ⟨pi.toArray⟩, .int .i64 pq] 34))) := Lib.hid (HB.out.alloc (by omega) _)
            obtain ⟨m0, m1, m2, m3⟩ := (HX.out.below HB1.out (by omega)).cells
            simp only at m0 m1 m2 m3
            by_cases h4 : 1 ≤ pq
            · have d4 : decide (pq < 1) = false := decide_eq_false (by omega)
              by_cases h5 : pq ≤ 1073741824
              · have d5 : decide (1073741824 < pq) = false := decide_eq_false (by omega)
                have HG := Lib.hid (same_gives (pi, pq) (ps.take k) wr.heap.size (wr.alloc (.cells #[.string ⟨pi.toArray⟩, .int .i64 pq] 34)).heap.size (wr.alloc (.cells #[.string ⟨pi.toArray⟩, .int .i64 pq] 34)) (by simp) (Nat.le_refl _) n0)
                have HP : Hid (PSl (wr.alloc (.cells #[.string ⟨pi.toArray⟩, .int .i64 pq] 34)) w.heap.size (.slice (some ad) k c) (ps.take k)) := Lib.hid ⟨some ad, c, by rw [List.length_take, Nat.min_eq_left (by omega)], by rw [List.length_take]; omega, hc2, hcz, by
                  have h6 := (hlw.below ((Below.refl _ _).alloc (by omega) (.cells #[.string ⟨pi.toArray⟩, .int .i64 pq] 34))).take_ (k * 2)
                  rwa [pcells_take _ _ (by omega)] at h6⟩
                rw [decide_eq_true h4, decide_eq_true h5, Bool.true_and, Bool.true_and] at HF
                clear hlw hp
                cases hany : (ps.take k).any (fun o => decide (o.1 = pi))
                · have hst : Hid (∀ j, j < k + 1 → freshB ps j = true) := Lib.hid (fun j hj => by
                    by_cases e : j = k
                    · subst e; rw [HF.out, hany]; rfl
                    · exact HN.out j (by omega))
                  go_wp2_with (go_at_call 71; ((with_reducible refine (containsP_any 70 _ enters_same _ _ (ps.take k) w.heap.size _ (by simp only [World.size_alloc]; omega) (by rw [List.length_take]; omega) HP.out HG.out).mono ?_); rintro e w2 ⟨rfl, hb2'⟩; have hb2 := Lib.hid hb2'; clear hb2'; rw [hany]))
                  have hbn := Lib.hid (HB1.out.trans (hb2.out.mono (by simp only [World.size_alloc]; omega)))
                  go_roundw
                  case rel => exact ⟨k + 1, by omega, by go_num, hst, hbn⟩
                  case measure => simp [intOf]; omega
                · have hno : Hid (v = false) := Lib.hid (by rw [← HV.out]; exact partsB_no hlt (by rw [HF.out, hany]; rfl))
                  go_wp2_with (go_at_call 71; ((with_reducible refine (containsP_any 70 _ enters_same _ _ (ps.take k) w.heap.size _ (by simp only [World.size_alloc]; omega) (by rw [List.length_take]; omega) HP.out HG.out).mono ?_); rintro e w2 ⟨rfl, hb2'⟩; have hb2 := Lib.hid hb2'; clear hb2'; rw [hany]))
                  go_ret
                  exact ⟨Cd.ret_bool hno.out.symm, below_box HB0.out (HB1.out.trans (hb2.out.mono (by simp only [World.size_alloc]; omega)))⟩
              · have d5 : decide (1073741824 < pq) = true := decide_eq_true (by omega)
                have hno : Hid (v = false) := Lib.hid (by rw [← HV.out]; exact partsB_no hlt (by rw [HF.out, decide_eq_false h5]; simp))
                go_wp2
                go_ret
                exact ⟨Cd.ret_bool hno.out.symm, below_box HB0.out HB1.out⟩
            · have d4 : decide (pq < 1) = true := decide_eq_true (by omega)
              have hno : Hid (v = false) := Lib.hid (by rw [← HV.out]; exact partsB_no hlt (by rw [HF.out, decide_eq_false h4]; simp))
              go_wp2
              go_ret
              exact ⟨Cd.ret_bool hno.out.symm, below_box HB0.out HB1.out⟩
          · obtain rfl : k = ps.length := by omega
            have hyes : Hid (v = true) := Lib.hid (by rw [← HV.out]; exact partsB_yes HN.out)
            go_wp2
            go_ret
            exact ⟨Cd.ret_bool hyes.out.symm, below_box HB0.out HB.out⟩
      · have d3 : decide ((8 : Int) < (ps.length : Int)) = true := decide_eq_true (by omega)
        rw [decide_eq_true rfl, decide_eq_true h2, decide_eq_false h3] at hv
        go_enter Try.func52, Try.ntmps52
        go_wp2
        go_ret
        exact ⟨Cd.ret_bool (by rw [← hv]; rfl), hb0⟩
    · have d2 : decide ((ps.length : Int) < 1) = true := decide_eq_true (by omega)
      rw [decide_eq_true rfl, decide_eq_false h2] at hv
      go_enter Try.func52, Try.ntmps52
      go_wp2
      go_ret
      exact ⟨Cd.ret_bool (by rw [← hv]; rfl), hb0⟩
  · have d1 : (life != 0) = true := by simp [h1]
    rw [decide_eq_false h1] at hv
    go_enter Try.func52, Try.ntmps52
    go_wp2
    go_ret
    exact ⟨Cd.ret_bool (by rw [← hv]; rfl), hb0⟩
end Kt
end Go.Proofs.Ytkdcpnbfeagggaa
end
