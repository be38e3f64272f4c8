/- Texts of this proof, one behind the other. -/
import Derived.RangeFuncNested
import Derived.RangeFuncBound
import Derived.RangeFuncCalls
import Derived.RangeFuncLeaves
import Derived.Shelf.Abstract
import Derived.OwnWalkIn
import Derived.TacticsInMore
import Derived.LoopNIn
import Derived.LoopIn
import Derived.OrdersHeld
import Derived.Deep.RegionHeld
import Derived.RangeFuncWrites
import Derived.RangeFuncFrom
import Derived.Maps.OwnIn
import Derived.Test.YtkdcpnbfeagggaaA03
import Derived.Test.YtkdcpnbfeagggaaA01
import Derived.Test.YtkdcpnbfeagggaaA02
import Derived.Test.YtkdcpnbfeagggaaA00
section
/- slices.Backward over items: the iterator's contract. -/
namespace Go.Proofs.Ytkdcpnbfeagggaa
namespace Kt
open Go.RowKit Go.Shelf
set_option linter.unusedVariables false
attribute [local go_sem] Oper.semAt_some

theorem abides_alloc {β : Type} {B : Nat} {J : β → World → Prop} (h : AbidesFrom B J) {s : β} {W : World} (o : Obj) (hs : J s W) : J s (W.alloc o) :=
  h s W _ none hs (World.grownBy_alloc W o none) (fun r e => by cases e)
/-- The places from the last one downwards, so many. -/
def downs (n m : Nat) : List (Fin n) := (List.range m).filterMap (fun j => if h : j < n then some ⟨n - 1 - j, by omega⟩ else none)
theorem downs_succ {n m : Nat} (h : m < n) : downs n (m + 1) = downs n m ++ [⟨n - 1 - m, by omega⟩] := by
  unfold downs
  rw [List.range_succ, List.filterMap_append]
  simp [h]
theorem downs_len {n : Nat} : ∀ m, m ≤ n → (downs n m).length = m
  | 0, _ => by simp [downs]
  | m + 1, h => by rw [downs_succ h, List.length_append, downs_len m (by omega)]; rfl
/-- What a round keeps: what lies below nb, and block Bs. -/
def KeepB (nb Bs : Nat) (W W' : World) : Prop := Below nb W W' ∧ W'.heap[Bs]? = W.heap[Bs]?
theorem KeepB.trans {nb Bs : Nat} {A B C : World} (h : KeepB nb Bs A B) (h' : KeepB nb Bs B C) : KeepB nb Bs A C := ⟨h.1.trans h'.1, h'.2.trans h.2⟩
theorem KeepB.alloc {nb Bs : Nat} {W : World} (hn : nb ≤ W.heap.size) (hB : Bs < W.heap.size) (o : Obj) : KeepB nb Bs W (W.alloc o) := ⟨(Below.refl _ _).alloc hn o, Below.heap_alloc W o Bs hB⟩
abbrev encsB (zs : List Iv) (k : Fin zs.length) : Array Value := #[.int .i64 (k.val : Nat), .agg #[.string ⟨zs[k].it.code.toArray⟩, .int .i64 zs[k].it.life, zs[k].pv, zs[k].ov]]

set_option maxRecDepth 100000 in
set_option maxHeartbeats 2000000 in
theorem back1_in (F : Fence) (n : Nat) (h7 : F.fn 55) (hro : F.round = none) (hn : 1 ≤ n) (l Bs nb B cap : Nat) (A : Option Addr) (zs : List Iv) (hlen : zs.length ≤ 1048576) (J Jx : List (Fin zs.length) → World → Prop) (hJ : AbidesFrom B J)
    (hY : ∀ pre x W, J pre W → pre.length < zs.length → YieldAt F (n - 1) Try.prog l (encsB zs x) W fun e W' =>
      (e = .returned (.bool true) ∧ J (pre ++ [x]) W' ∧ KeepB nb Bs W W') ∨ (e = .returned (.bool false) ∧ Jx (pre ++ [x]) W'))
    (W : World) (hBs : Boxed W Bs 22 (.slice A zs.length cap)) (hl : Lies W nb A (icells zs)) (hnb : nb ≤ W.heap.size) (h0 : J [] W) :
    CallsIn F n Try.prog 55 #[.func (.yield l) #[] #[], .pointer (some ⟨Bs, 0, none⟩)] W fun e W' => (∃ v, e = .returned v) ∧
      ((∃ ys, ys = downs zs.length zs.length ∧ J ys W') ∨ (∃ pre, (∃ m, m ≤ zs.length ∧ pre = downs zs.length m) ∧ Jx pre W')) := by
  refine callsIn_of_wp Try.func55 rfl h7 ?_ hro
  simp only [Try.ntmps55, List.size_toArray, List.length_cons, List.length_nil, Nat.reduceAdd, Nat.reduceSub, Array.replicate_succ, Array.replicate_zero, List.push_toArray, List.append_toArray, List.nil_append, List.cons_append]
  have HJ := Lib.hid hJ
  have HY := Lib.hid hY
  have HL := Lib.hid hl
  have HBX := Lib.hid hBs
  have hc0 := hBs.cell
  have hbl := hBs.lt
  clear hJ hY hl hBs
  gi_wp2
  gi_loopw [3] (fun i wr => ∃ m : Nat, m ≤ zs.length ∧ i = .int .i64 ((zs.length : Int) - 1 - (m : Int)) ∧ Hid (J (downs zs.length m) wr) ∧ Hid (KeepB nb Bs W wr) ∧ nb ≤ wr.heap.size ∧ Bs < wr.heap.size)
    (fun i _ => (intOf i + 1).toNat)
  case atStart => exact ⟨0, Nat.zero_le _, by simp, Lib.hid h0, Lib.hid ⟨Below.refl _ _, rfl⟩, hnb, hbl⟩
  case round =>
    clear hc0
    obtain ⟨m, hm, rfl, HJs, HB, hnr, hbr⟩ := hrel
    by_cases hlt : m < zs.length
    · obtain ⟨k, hkE⟩ : ∃ k : Nat, zs.length - 1 - m = k := ⟨_, rfl⟩
      have hk : k < zs.length := by omega
      have hz : (zs.length : Int) - 1 - (m : Int) = (k : Int) := by omega
      rw [hz]
      obtain ⟨x, hx⟩ : ∃ x, zs[k]? = some x := ⟨_, List.getElem?_eq_getElem hk⟩
      obtain ⟨ad, rfl, hab, x0, x1, x2, x3⟩ := (HL.out.below HB.out.1).rowI hx
      have hbx : Boxed wr Bs 22 (.slice (some ad) zs.length cap) := HB.out.2.trans HBX.out
      have hcr := hbx.cell
      have hxe : zs[k] = x := by have := List.getElem?_eq_getElem hk; rw [hx] at this; exact (Option.some.inj this).symm
      obtain ⟨fn, tmps, assign, body, hy, hR⟩ := HY.out _ ⟨k, hk⟩ wr HJs.out (by rw [downs_len m hm]; exact hlt)
      have hds : Hid (downs zs.length (m + 1) = downs zs.length m ++ [⟨k, hk⟩]) := Lib.hid (by rw [downs_succ hlt]; simp only [hkE])
      have HR := Lib.hid hR
      clear hR hx hbx
      dsimp only [encsB, Fin.getElem_fin] at hy
      rw [hxe] at hy
      have h0k : decide ((0 : Int) ≤ (k : Int)) = true := decide_eq_true (by omega)
      gi_wp2
      refine HR.out.mono ?_
      rintro e W3 (⟨rfl, hJ3', hk3'⟩ | ⟨rfl, hJx3⟩)
      · have hJ3 := Lib.hid hJ3'
        have hk3 := Lib.hid hk3'
        have hn3 : wr.heap.size ≤ W3.heap.size := hk3'.1.size
        have hx1 : (zs.length : Int) - 1 - ((m + 1 : Nat) : Int) = (k : Int) - 1 := by omega
        clear hJ3' hk3' hy
        gi_wp2
        go_roundw
        case rel => exact ⟨m + 1, by omega, by rw [hx1], Lib.hid (by rw [hds.out]; exact hJ3.out), Lib.hid (HB.out.trans hk3.out), by omega, by omega⟩
        case measure => simp [intOf]
      · have hJx4 := Lib.hid hJx3
        clear hJx3 hy
        gi_wp2
        refine bodyPost_ret (results_none rfl _ _ _) rfl ?_
        exact ⟨⟨_, rfl⟩, .inr ⟨_, ⟨m + 1, by omega, rfl⟩, by rw [hds.out]; exact hJx4.out⟩⟩
    · obtain rfl : m = zs.length := by omega
      have hneg : decide ((0 : Int) ≤ (zs.length : Int) - 1 - (zs.length : Int)) = false := decide_eq_false (by omega)
      gi_wp2
      go_end0
      exact ⟨⟨_, rfl⟩, .inl ⟨_, rfl, HJs.out⟩⟩

set_option maxHeartbeats 1000000 in
theorem back_in (F : Fence) (n : Nat) (h5 : F.fn 42) (hro : F.round = none) (A : Option Addr) (len cap : Nat) (w : World) :
    CallsIn F n Try.prog 42 #[.slice A len cap] w fun e w' => e = .returned (.func (.func 55) #[] #[.pointer (some ⟨w.heap.size, 0, none⟩)]) ∧ w' = w.alloc (.cells #[.slice A len cap] 22) := by
  refine callsIn_of_wp Try.func42 rfl h5 ?_ hro
  simp only [Try.ntmps42, List.size_toArray, List.length_cons, List.length_nil, Nat.reduceAdd, Nat.reduceSub, Array.replicate_succ, Array.replicate_zero, List.push_toArray, List.append_toArray, List.nil_append, List.cons_append]
  gi_wp2
  go_ret
  exact ⟨rfl, rfl⟩

theorem back_stops (F : Fence) (n : Nat) (h7 : F.fn 55) (hro : F.round = none) (hn : 1 ≤ n) (Bs nb cap : Nat) (A : Option Addr) (zs : List Iv) (hlen : zs.length ≤ 1048576) (w : World) (hnb : nb ≤ w.heap.size)
    (hc : Boxed w Bs 22 (.slice A zs.length cap)) (hl : Lies w nb A (icells zs)) :
    SeqStopsK F n Try.prog 55 #[.pointer (some ⟨Bs, 0, none⟩)] (encsB zs) (KeepB nb Bs) (fun ys => ys = downs zs.length zs.length) (fun pre => ∃ m, m ≤ zs.length ∧ pre = downs zs.length m) zs.length w := fun l J Jx W hW hJ _ hY h0 =>
  back1_in F n h7 hro hn l Bs nb W.heap.size cap A zs hlen J Jx hJ hY W ((hW.block Bs hc.lt).trans hc) (hl.below (hW.mono hnb)) (Nat.le_trans hnb hW.size) h0
end Kt
end Go.Proofs.Ytkdcpnbfeagggaa
end
section
/- A region that draws its order, in a round of a loop over a function: by what holds of it outside of any. -/
namespace Go.Proofs.Ytkdcpnbfeagggaa
namespace Kt
set_option linter.unusedVariables false

/-- Only the way on. -/
def Thus (R : Act → World → Prop) : Exit → Act → World → Prop := fun e a w => e = .normal ∧ R a w
theorem thus_no (R : Act → World → Prop) : ¬ LetsOut (Thus R) := fun ⟨_, _, h, _⟩ => by cases h
theorem ops_in {P : Program} {ops : Array Oper} {R : Act → World → Prop} (r n : Nat) (hnd : ∀ (i : Nat) o, ops[i]? = some o → ∀ c, o.op ≠ .defer c) :
    ∀ (l : List Nat) (a : Act) (w : World), wpOps P ops (Thus R) l a w → wpOpsIn (Fence.wide.inRound r) n P ops (Thus R) l a w := by
  intro l
  induction l with
  | nil => intro a w h; exact h
  | cons i rest ih =>
    intro a w h
    simp only [wpOps, wpOpsIn] at h ⊢
    cases ho : ops[i]? with
    | none => simp only [ho] at h ⊢; exact ih a w h
    | some o =>
      simp only [ho] at h ⊢
      split
      · rename_i hw
        simp only [hw, if_true] at h
        rcases h with h | ⟨_, h⟩
        · refine ⟨fun f _ => trivial, ?_⟩
          rw [Oper.semAt_eq _ _ _ (hnd i o ho)]
          unfold Oper.wp at h
          generalize (execOp a.eval o).run P w = res at *
          cases res with
          | ok x w' =>
            cases x <;> simp only [Oper.upon, Oper.uponIn] at h ⊢
            case value u => exact ih _ _ h
            case skip => exact ih _ _ h
            case defer d => exact ih _ _ h
            case enter f args =>
              refine ⟨fun hd => (by cases hd), CallsIn.inRound r (callsIn_wide.2 (Calls.mono h fun e w'' he => ?_))⟩
              cases e with
              | returned u => exact ih _ _ he
              | panicked c => exact he
              | outgrown => exact he
            case row row args => exact ⟨fun hd => (by cases hd), fun c cs _ => let ⟨v, w2, hr, hs⟩ := h c cs; ⟨v, w2, ih _ _ hr, stepsIn_wide.2 hs⟩⟩
          | halt x w' =>
            cases x <;> simp only [Oper.upon, Oper.uponIn] at h ⊢
            case panic u => exact h
        · exact absurd h (thus_no R)
      · rename_i hw
        simp only [hw] at h
        exact ⟨fun f _ => trivial, ih _ _ h⟩
theorem region_in {P : Program} {ops : Array Oper} {Q : Exit → Act → World → Prop} {R : Act → World → Prop} {id r n : Nat} {a : Act} {w : World} (hm : P.follows .mixedOrders = true) (hnd : ∀ (i : Nat) o, ops[i]? = some o → ∀ c, o.op ≠ .defer c)
    (S : World → Prop) (hS : S w.drew) (h : S w.drew → wpAnyH P .any ops (Thus R) S ops.size (Array.replicate ops.size false) a w.drew) (hQ : ∀ a w, R a w → Q .normal a w) : (Code.region id ops true).wpIn (Fence.wide.inRound r) n P Q a w := by
  refine wpIn_mono (wpIn_region_draw (Q := Thus R) fun t => ?_) (fun e a w ⟨he, hr⟩ => by subst he; exact hQ a w hr)
  simp only [Region.schedule, hm, Bool.true_or, if_true]
  exact ops_in r n hnd _ _ _ (wpAny_sound ops.size t _ a _ (wpAny_of_held _ _ _ _ (h hS)))
def noDefer (o : Oper) : Bool := match o.op with
  | .defer _ => false
  | _ => true
theorem region_lit {P : Program} {ops : Array Oper} {Q : Exit → Act → World → Prop} {R : Act → World → Prop} {id r n : Nat} {a : Act} {w : World} (hm : P.follows .mixedOrders = true) (hnd : ops.all noDefer = true)
    (S : World → Prop) (hS : S w.drew) (hQ : ∀ a w, R a w → Q .normal a w) (h : S w.drew → wpAnyH P .any ops (Thus R) S ops.size (Array.replicate ops.size false) a w.drew) : (Code.region id ops true).wpIn (Fence.wide.inRound r) n P Q a w := by
  refine region_in hm (fun i o ho c hc => ?_) S hS h hQ
  have h1 := (Array.all_eq_true.1 hnd) i (Array.getElem?_eq_some_iff.1 ho).1
  have h2 : ops[i]'(Array.getElem?_eq_some_iff.1 ho).1 = o := (Array.getElem?_eq_some_iff.1 ho).2
  rw [h2] at h1
  unfold noDefer at h1
  rw [hc] at h1
  cases h1
end Kt
end Go.Proofs.Ytkdcpnbfeagggaa
end
section
/- Kits: what is in so many of an item in the end. Lists and numbers alone. -/
namespace Go.Proofs.Ytkdcpnbfeagggaa
set_option linter.unusedVariables false
namespace Kt

/-- All that is in so many of an item in the end, way by way. -/
def flat (F : Fd) : Nat → List UInt8 → Int → List Pt
  | 0, _, _ => []
  | n + 1, c, q => match F c with
    | none => []
    | some x => if x.parts = [] then [(c, q)] else x.parts.flatMap (fun p => flat F n p.1 (q * p.2))
/-- How much of y is in one. -/
def amt (F : Fd) (y : List UInt8) : Nat → List UInt8 → Int
  | 0, _ => 0
  | n + 1, c => match F c with
    | none => 0
    | some x => if x.parts = [] then (if c = y then 1 else 0) else (x.parts.map (fun p => p.2 * amt F y n p.1)).sum

/-- What sound items are, as to what is in them. -/
structure Good (F : Fd) (N : Nat) : Prop where
  deep : ∀ c x, F c = some x → ∃ d, Dp F c d ∧ d ≤ N
  qty : ∀ c x, F c = some x → ∀ p ∈ x.parts, 1 ≤ p.2
theorem Good.part {F : Fd} {N : Nat} (h : Good F N) {c : List UInt8} {x : It} (hx : F c = some x) {p : Pt} (hp : p ∈ x.parts) : ∃ y, F p.1 = some y := by
  obtain ⟨d, hd, _⟩ := h.deep c x hx
  obtain ⟨e, he, _⟩ := hd.part hx hp
  exact he.found

theorem flatMap_eq {f g : Pt → List Pt} : ∀ {ps : List Pt}, (∀ p ∈ ps, f p = g p) → ps.flatMap f = ps.flatMap g
  | [], _ => rfl
  | p :: r, h => by rw [List.flatMap_cons, List.flatMap_cons, h p (by simp), flatMap_eq (fun q hq => h q (by simp [hq]))]
theorem flat_stable {F : Fd} : ∀ {d : Nat} {c : List UInt8}, Dp F c d → ∀ n, d ≤ n → ∀ q, flat F n c q = flat F d c q
  | d, c, h, n, hn, q => by
    obtain ⟨k, x, m, hk, hF, hm, hd⟩ := dep_open h
    have h1 := h.pos
    obtain ⟨n', rfl⟩ : ∃ n', n = n' + 1 := ⟨n - 1, by omega⟩
    subst hk
    rw [flat, flat, hF]
    simp only
    split
    · rfl
    · have : ∀ p ∈ x.parts, flat F n' p.1 (q * p.2) = flat F k p.1 (q * p.2) := by
        intro p hp
        obtain ⟨e, he, hlt⟩ := h.part hF hp
        rw [flat_stable he n' (by omega), flat_stable he k (by omega)]
      exact flatMap_eq this
  termination_by d => d
theorem amt_stable {F : Fd} {y : List UInt8} : ∀ {d : Nat} {c : List UInt8}, Dp F c d → ∀ n, d ≤ n → amt F y n c = amt F y d c
  | d, c, h, n, hn => by
    obtain ⟨k, x, m, hk, hF, hm, hd⟩ := dep_open h
    have h1 := h.pos
    obtain ⟨n', rfl⟩ : ∃ n', n = n' + 1 := ⟨n - 1, by omega⟩
    subst hk
    rw [amt, amt, hF]
    simp only
    split
    · rfl
    · have : ∀ p ∈ x.parts, amt F y n' p.1 = amt F y k p.1 := by
        intro p hp
        obtain ⟨e, he, hlt⟩ := h.part hF hp
        rw [amt_stable he n' (by omega), amt_stable he k (by omega)]
      congr 1
      exact List.map_congr_left (fun p hp => by rw [this p hp])
  termination_by d => d

theorem flat_kept {F : Fd} {N : Nat} (h : Good F N) {c : List UInt8} {x : It} (hx : F c = some x) (h0 : x.parts = []) (q : Int) : flat F N c q = [(c, q)] := by
  obtain ⟨d, hd, hle⟩ := h.deep c x hx
  have := hd.pos
  obtain ⟨n, rfl⟩ : ∃ n, N = n + 1 := ⟨N - 1, by omega⟩
  rw [flat, hx]
  simp [h0]
theorem flat_kit {F : Fd} {N : Nat} (h : Good F N) {c : List UInt8} {x : It} (hx : F c = some x) (h0 : x.parts ≠ []) (q : Int) : flat F N c q = x.parts.flatMap (fun p => flat F N p.1 (q * p.2)) := by
  obtain ⟨d, hd, hle⟩ := h.deep c x hx
  have hp := hd.pos
  obtain ⟨n, rfl⟩ : ∃ n, N = n + 1 := ⟨N - 1, by omega⟩
  have : ∀ p ∈ x.parts, flat F n p.1 (q * p.2) = flat F (n + 1) p.1 (q * p.2) := by
    intro p hp
    obtain ⟨e, he, hlt⟩ := hd.part hx hp
    rw [flat_stable he n (by omega), flat_stable he (n + 1) (by omega)]
  rw [flat, hx]
  simp only [if_neg h0]
  exact flatMap_eq this
theorem amt_kept {F : Fd} {N : Nat} (h : Good F N) {c : List UInt8} {x : It} (hx : F c = some x) (h0 : x.parts = []) (y : List UInt8) : amt F y N c = if c = y then 1 else 0 := by
  obtain ⟨d, hd, hle⟩ := h.deep c x hx
  have := hd.pos
  obtain ⟨n, rfl⟩ : ∃ n, N = n + 1 := ⟨N - 1, by omega⟩
  rw [amt, hx]
  simp [h0]
theorem amt_kit {F : Fd} {N : Nat} (h : Good F N) {c : List UInt8} {x : It} (hx : F c = some x) (h0 : x.parts ≠ []) (y : List UInt8) : amt F y N c = (x.parts.map (fun p => p.2 * amt F y N p.1)).sum := by
  obtain ⟨d, hd, hle⟩ := h.deep c x hx
  have hp := hd.pos
  obtain ⟨n, rfl⟩ : ∃ n, N = n + 1 := ⟨N - 1, by omega⟩
  have : ∀ p ∈ x.parts, amt F y n p.1 = amt F y (n + 1) p.1 := by
    intro p hp
    obtain ⟨e, he, hlt⟩ := hd.part hx hp
    rw [amt_stable he n (by omega), amt_stable he (n + 1) (by omega)]
  rw [amt, hx]
  simp only [if_neg h0]
  congr 1
  exact List.map_congr_left (fun p hp => by rw [this p hp])
/-- Induction: first the parts. -/
theorem Good.ind {F : Fd} {N : Nat} (h : Good F N) {P : List UInt8 → It → Prop} (hP : ∀ c x, F c = some x → (∀ p ∈ x.parts, ∀ y, F p.1 = some y → P p.1 y) → P c x) : ∀ c x, F c = some x → P c x := by
  have : ∀ n c x, F c = some x → (∃ d, Dp F c d ∧ d ≤ n) → P c x := by
    intro n
    induction n with
    | zero => intro c x _ ⟨d, hd, h0⟩; have := hd.pos; omega
    | succ n ih =>
      intro c x hx ⟨d, hd, hle⟩
      refine hP c x hx (fun p hp y hy => ih p.1 y hy ?_)
      obtain ⟨e, he, hlt⟩ := hd.part hx hp
      exact ⟨e, he, by omega⟩
  intro c x hx
  obtain ⟨d, hd, _⟩ := h.deep c x hx
  exact this d c x hx ⟨d, hd, Nat.le_refl _⟩
theorem sum_nonneg : ∀ {l : List Int}, (∀ a ∈ l, 0 ≤ a) → 0 ≤ l.sum
  | [], _ => by simp
  | a :: l, h => by
    have h1 := h a (by simp)
    have h2 := sum_nonneg (l := l) (fun b hb => h b (by simp [hb]))
    simp only [List.sum_cons]; omega
theorem sum_mem_le : ∀ {l : List Int} {a : Int}, (∀ a ∈ l, 0 ≤ a) → a ∈ l → a ≤ l.sum
  | [], a, _, h => by simp at h
  | b :: l, a, h, ha => by
    have h1 := h b (by simp)
    have h2 := sum_nonneg (l := l) (fun b hb => h b (by simp [hb]))
    simp only [List.sum_cons]
    rcases List.mem_cons.1 ha with rfl | ha
    · omega
    · have := sum_mem_le (fun b hb => h b (by simp [hb])) ha
      omega
theorem sum_mul (q : Int) : ∀ (l : List Int), (l.map (q * ·)).sum = q * l.sum
  | [] => by simp
  | a :: l => by simp only [List.map_cons, List.sum_cons, sum_mul q l, Int.mul_add]
theorem amt_nonneg {F : Fd} {N : Nat} (h : Good F N) (y : List UInt8) : ∀ c x, F c = some x → 0 ≤ amt F y N c := by
  refine h.ind (P := fun c x => 0 ≤ amt F y N c) (fun c x hx ih => ?_)
  by_cases h0 : x.parts = []
  · rw [amt_kept h hx h0]; split <;> omega
  · rw [amt_kit h hx h0]
    refine sum_nonneg (fun a ha => ?_)
    obtain ⟨p, hp, rfl⟩ := List.mem_map.1 ha
    obtain ⟨z, hz⟩ := h.part hx hp
    exact Int.mul_nonneg (by have := h.qty c x hx p hp; omega) (ih p hp z hz)
/-- In each item something is kept in the end. -/
theorem amt_some {F : Fd} {N : Nat} (h : Good F N) : ∀ c x, F c = some x → ∃ y z, F y = some z ∧ z.parts = [] ∧ 1 ≤ amt F y N c := by
  refine h.ind (P := fun c x => ∃ y z, F y = some z ∧ z.parts = [] ∧ 1 ≤ amt F y N c) (fun c x hx ih => ?_)
  by_cases h0 : x.parts = []
  · exact ⟨c, x, hx, h0, by rw [amt_kept h hx h0]; simp⟩
  · obtain ⟨p, hp⟩ : ∃ p, p ∈ x.parts := by
      cases hq : x.parts with
      | nil => exact absurd hq h0
      | cons p r => exact ⟨p, by simp⟩
    obtain ⟨z, hz⟩ := h.part hx hp
    obtain ⟨y, u, h1, h2, h3⟩ := ih p hp z hz
    refine ⟨y, u, h1, h2, ?_⟩
    rw [amt_kit h hx h0]
    have hq := h.qty c x hx p hp
    have hmem : p.2 * amt F y N p.1 ∈ x.parts.map (fun p => p.2 * amt F y N p.1) := List.mem_map.2 ⟨p, hp, rfl⟩
    have hle := sum_mem_le (fun a ha => by
      obtain ⟨p', hp', rfl⟩ := List.mem_map.1 ha
      obtain ⟨z', hz'⟩ := h.part hx hp'
      exact Int.mul_nonneg (by have := h.qty c x hx p' hp'; omega) (amt_nonneg h y p'.1 z' hz')) hmem
    have : 1 * 1 ≤ p.2 * amt F y N p.1 := Int.mul_le_mul hq h3 (by omega) (by omega)
    omega
theorem tot_flatMap (y : List UInt8) (f : Pt → List Pt) : ∀ ps : List Pt, tot y (ps.flatMap f) = (ps.map (fun p => tot y (f p))).sum
  | [] => by simp [tot]
  | p :: r => by rw [List.flatMap_cons, tot_append, tot_flatMap y f r]; simp
theorem tot_flat {F : Fd} {N : Nat} (h : Good F N) (y : List UInt8) : ∀ c x, F c = some x → ∀ q, tot y (flat F N c q) = q * amt F y N c := by
  refine h.ind (P := fun c x => ∀ q, tot y (flat F N c q) = q * amt F y N c) (fun c x hx ih q => ?_)
  by_cases h0 : x.parts = []
  · rw [flat_kept h hx h0, amt_kept h hx h0]
    simp only [tot]
    split <;> simp
  · rw [flat_kit h hx h0, amt_kit h hx h0, tot_flatMap, ← sum_mul, List.map_map]
    congr 1
    refine List.map_congr_left (fun p hp => ?_)
    obtain ⟨z, hz⟩ := h.part hx hp
    rw [ih p hp z hz]
    simp [Int.mul_assoc]
/-- What is in it in the end is kept, and as much as is asked, at least. -/
theorem flat_mem {F : Fd} {N : Nat} (h : Good F N) : ∀ c x, F c = some x → ∀ q, 0 ≤ q → ∀ p ∈ flat F N c q, (∃ z, F p.1 = some z ∧ z.parts = []) ∧ q ≤ p.2 ∧ Reach F c p.1 := by
  refine h.ind (P := fun c x => ∀ q, 0 ≤ q → ∀ p ∈ flat F N c q, (∃ z, F p.1 = some z ∧ z.parts = []) ∧ q ≤ p.2 ∧ Reach F c p.1) (fun c x hx ih q hq p hp => ?_)
  by_cases h0 : x.parts = []
  · rw [flat_kept h hx h0] at hp
    simp at hp
    subst hp
    exact ⟨⟨x, hx, h0⟩, Int.le_refl _, .refl _⟩
  · rw [flat_kit h hx h0] at hp
    obtain ⟨p', hp', hm⟩ := List.mem_flatMap.1 hp
    obtain ⟨z, hz⟩ := h.part hx hp'
    have h1 := h.qty c x hx p' hp'
    have h2 : q * 1 ≤ q * p'.2 := Int.mul_le_mul_of_nonneg_left h1 hq
    obtain ⟨h3, h4, h5⟩ := ih p' hp' z hz (q * p'.2) (by omega) p hm
    exact ⟨h3, by omega, (Reach.step (.refl _) ⟨x, hx, p', hp', rfl⟩).trans h5⟩
theorem flat_nonneg {F : Fd} {N : Nat} (h : Good F N) {c : List UInt8} {x : It} (hx : F c = some x) {q : Int} (hq : 0 ≤ q) : ∀ p ∈ flat F N c q, 0 ≤ p.2 := fun p hp => by
  have := (flat_mem h c x hx q hq p hp).2.1; omega
/-- When it can be put together. -/
theorem flat_ok {F : Fd} {N : Nat} (h : Good F N) {c : List UInt8} {x : It} (hx : F c = some x) {q : Int} (hq : 0 ≤ q) : JoinOk (flat F N c q) ↔ ∀ y, q * amt F y N c ≤ 1125899906842624 := by
  constructor
  · intro hj y
    rw [← tot_flat h y c x hx]
    exact hj.2 y
  · intro hy
    refine ⟨fun p hp => ⟨flat_nonneg h hx hq p hp, ?_⟩, fun y => by rw [tot_flat h y c x hx]; exact hy y⟩
    have h1 := tot_mem_le p.1 (flat F N c q) (flat_nonneg h hx hq) (q := p.2) hp
    rw [tot_flat h p.1 c x hx] at h1
    have := hy p.1
    omega
theorem flat_keys {F : Fd} {N : Nat} (h : Good F N) {c : List UInt8} {x : It} (hx : F c = some x) {q : Int} (hq : 1 ≤ q) (y : List UInt8) : y ∈ (flat F N c q).map (·.1) ↔ 1 ≤ amt F y N c := by
  have hn := amt_nonneg h y c x hx
  constructor
  · intro hy
    obtain ⟨p, hp, rfl⟩ := List.mem_map.1 hy
    have h1 := tot_mem_le p.1 (flat F N c q) (flat_nonneg h hx (by omega)) (q := p.2) hp
    have h2 := (flat_mem h c x hx q (by omega) p hp).2.1
    rw [tot_flat h p.1 c x hx] at h1
    by_cases h0 : amt F p.1 N c = 0
    · rw [h0] at h1; omega
    · omega
  · intro hy
    by_cases hm : y ∈ (flat F N c q).map (·.1)
    · exact hm
    · have h1 := tot_of_not_mem y _ hm
      rw [tot_flat h y c x hx] at h1
      have : 1 * 1 ≤ q * amt F y N c := Int.mul_le_mul hq hy (by omega) (by omega)
      omega
end Kt
end Go.Proofs.Ytkdcpnbfeagggaa
end
section
/- How much of each is needed, told from the kit downwards: what holds on the way. Lists and numbers alone. -/
namespace Go.Proofs.Ytkdcpnbfeagggaa
set_option linter.unusedVariables false
namespace Kt

theorem Topo.split {F : Fd} {l : List It} (h : Topo F l) : ∀ {l1 l2 : List It} {x : It}, l = l1 ++ x :: l2 → F x.code = some x ∧ x.code ∉ l1.map (·.code) ∧ ∀ p ∈ x.parts, (F p.1).isSome → p.1 ∈ l1.map (·.code) := by
  induction h with
  | nil => intro l1 l2 x h; simp at h
  | @snoc l z ht h1 h2 h3 ih =>
    intro l1 l2 x hl
    rcases List.eq_nil_or_concat l2 with rfl | ⟨l2', b, rfl⟩
    · have := List.append_inj' hl (by simp)
      obtain ⟨rfl, h4⟩ := this
      simp at h4
      subst h4
      exact ⟨h1, h2, h3⟩
    · have h4 : l ++ [z] = (l1 ++ x :: l2') ++ [b] := by rw [hl]; simp
      have := List.append_inj' h4 (by simp)
      exact ih this.1

/-- A sum over items. -/
def ssum (g : List UInt8 → Int) (w : List UInt8 → Int) : List It → Int
  | [] => 0
  | x :: l => w x.code * g x.code + ssum g w l
theorem ssum_append (g w : List UInt8 → Int) : ∀ l m : List It, ssum g w (l ++ m) = ssum g w l + ssum g w m
  | [], m => by simp [ssum]
  | x :: l, m => by simp [ssum, ssum_append g w l m]; omega
theorem ssum_congr {g w w' : List UInt8 → Int} : ∀ {l : List It}, (∀ x ∈ l, w x.code = w' x.code) → ssum g w l = ssum g w' l
  | [], _ => rfl
  | x :: l, h => by rw [ssum, ssum, h x (by simp), ssum_congr (fun y hy => h y (by simp [hy]))]
theorem ssum_put (g w : List UInt8 → Int) {c : List UInt8} (v : Int) {l : List It} (hn : (l.map (·.code)).Nodup) (hc : c ∈ l.map (·.code)) : ssum g (put w c v) l = ssum g w l + (v - w c) * g c := by
  obtain ⟨x, hx, rfl⟩ := List.mem_map.1 hc
  obtain ⟨l1, l2, rfl⟩ := List.append_of_mem hx
  rw [List.map_append, List.map_cons, List.nodup_append] at hn
  obtain ⟨_, h2, h3⟩ := hn
  have h4 := (List.nodup_cons.1 h2).1
  have e1 : ssum g (put w x.code v) l1 = ssum g w l1 := ssum_congr (fun y hy => put_other _ _ (fun e => h3 y.code (List.mem_map_of_mem hy) x.code (by simp) e))
  have e2 : ssum g (put w x.code v) l2 = ssum g w l2 := ssum_congr (fun y hy => put_other _ _ (fun e => h4 (e ▸ List.mem_map_of_mem hy)))
  rw [ssum_append, ssum_append, ssum, ssum, e1, e2, put_same, Int.sub_mul]
  omega
theorem ssum_nonneg {g w : List UInt8 → Int} : ∀ {l : List It}, (∀ x ∈ l, 0 ≤ w x.code ∧ 0 ≤ g x.code) → 0 ≤ ssum g w l
  | [], _ => by simp [ssum]
  | x :: l, h => by
    have h1 := Int.mul_nonneg (h x (by simp)).1 (h x (by simp)).2
    have h2 := ssum_nonneg (g := g) (w := w) (l := l) (fun y hy => h y (by simp [hy]))
    rw [ssum]; omega
theorem ssum_mem_le {g w : List UInt8 → Int} {c : List UInt8} : ∀ {l : List It}, (∀ x ∈ l, 0 ≤ w x.code ∧ 0 ≤ g x.code) → c ∈ l.map (·.code) → w c * g c ≤ ssum g w l
  | [], _, hc => by simp at hc
  | x :: l, h, hc => by
    have h1 := Int.mul_nonneg (h x (by simp)).1 (h x (by simp)).2
    have h2 := ssum_nonneg (g := g) (w := w) (l := l) (fun y hy => h y (by simp [hy]))
    rw [ssum]
    simp only [List.map_cons, List.mem_cons] at hc
    rcases hc with rfl | hc
    · omega
    · have := ssum_mem_le (g := g) (w := w) (l := l) (fun y hy => h y (by simp [hy])) hc
      omega

/-- What is needed, when the items behind place k are gone through. -/
structure Sp (F : Fd) (N : Nat) (l : List It) (root : List UInt8) (q : Int) (k : Nat) (w needs : List UInt8 → Int) : Prop where
  pot : ∀ y, ssum (amt F y N) w l = q * amt F y N root
  agree : ∀ x ∈ l.take k, w x.code = needs x.code
  kept : ∀ x ∈ l, x.parts = [] → w x.code = needs x.code
  zero : ∀ x ∈ l.drop k, x.parts ≠ [] → w x.code = 0
  rng : ∀ c, 0 ≤ needs c ∧ needs c ≤ 1125899906842624 ∧ 0 ≤ w c
/-- In the midst of x's parts. -/
structure SpMid (F : Fd) (N : Nat) (l : List It) (root : List UInt8) (q : Int) (k : Nat) (x : It) (nx : Int) (j : Nat) (w needs : List UInt8 → Int) : Prop where
  pot : ∀ y, ssum (amt F y N) w l + nx * ((x.parts.drop j).map (fun p => p.2 * amt F y N p.1)).sum = q * amt F y N root
  agree : ∀ x ∈ l.take k, w x.code = needs x.code
  kept : ∀ x ∈ l, x.parts = [] → w x.code = needs x.code
  zero : ∀ x ∈ l.drop k, x.parts ≠ [] → w x.code = 0
  rng : ∀ c, 0 ≤ needs c ∧ needs c ≤ 1125899906842624 ∧ 0 ≤ w c
  own : needs x.code = nx
theorem Sp.start {F : Fd} {N : Nat} {l l' : List It} {r : It} {q : Int} (hl : l = l' ++ [r]) (ht : Topo F l) (h0 : 0 ≤ q) (h1 : q ≤ 1125899906842624) : Sp F N l r.code q l.length (put (fun _ => 0) r.code q) (put (fun _ => 0) r.code q) := by
  refine ⟨fun y => ?_, fun _ _ => rfl, fun _ _ _ => rfl, fun x hx => by simp at hx, fun c => ?_⟩
  · have e : ssum (amt F y N) (fun _ => 0) l = 0 := by
      have : ∀ m : List It, ssum (amt F y N) (fun _ => 0) m = 0 := by
        intro m; induction m with
        | nil => rfl
        | cons a m ih => simp [ssum, ih]
      exact this l
    rw [ssum_put _ _ _ ht.nodup (by rw [hl]; simp), e]
    simp
  · by_cases e : c = r.code
    · subst e; rw [put_same]; omega
    · rw [put_other _ _ e]; simp
theorem nth_split {l : List It} {k : Nat} {x : It} (h : l[k]? = some x) : l = l.take k ++ x :: l.drop (k + 1) := by
  obtain ⟨hlt, he⟩ := List.getElem?_eq_some_iff.1 h
  rw [← he, ← List.drop_eq_getElem_cons hlt, List.take_append_drop]
theorem drop_succ {l : List It} {k : Nat} {x : It} (h : l[k]? = some x) : l.drop k = x :: l.drop (k + 1) := by
  obtain ⟨hlt, he⟩ := List.getElem?_eq_some_iff.1 h
  rw [← he, ← List.drop_eq_getElem_cons hlt]
/-- An item that is kept changes nothing. -/
theorem Sp.skip {F : Fd} {N : Nat} {l : List It} {root : List UInt8} {q : Int} {k : Nat} {w needs : List UInt8 → Int} (h : Sp F N l root q (k + 1) w needs) {x : It} (hx : l[k]? = some x) (h0 : x.parts = []) : Sp F N l root q k w needs :=
  ⟨h.pot, fun y hy => h.agree y (List.mem_of_mem_take (i := k) (by rw [List.take_take, Nat.min_eq_left (by omega)]; exact hy)), h.kept, fun y hy hp => by
    rw [drop_succ hx] at hy
    rcases List.mem_cons.1 hy with rfl | hy
    · exact absurd h0 hp
    · exact h.zero y hy hp, h.rng⟩
theorem Sp.enter {F : Fd} {N : Nat} (hg : Good F N) {l : List It} (ht : Topo F l) {root : List UInt8} {q : Int} {k : Nat} {w needs : List UInt8 → Int} (h : Sp F N l root q (k + 1) w needs) {x : It} (hx : l[k]? = some x) (h0 : x.parts ≠ []) : SpMid F N l root q k x (needs x.code) 0 (put w x.code 0) needs := by
  have hs := nth_split hx
  obtain ⟨hF, hn1, _⟩ := ht.split hs
  have hmem : x.code ∈ l.map (·.code) := List.mem_map_of_mem (List.mem_of_getElem? hx)
  have hw : w x.code = needs x.code := h.agree x (by rw [List.take_add_one, hx]; simp)
  have hnd := ht.nodup
  refine ⟨fun y => ?_, fun z hz => ?_, fun z hz hp => ?_, fun z hz hp => ?_, fun c => ?_, rfl⟩
  · rw [ssum_put _ _ _ hnd hmem, List.drop_zero, ← amt_kit hg hF h0 y, ← h.pot y, hw]
    rw [Int.sub_mul, Int.zero_mul]; omega
  · have hne : z.code ≠ x.code := fun e => hn1 (e ▸ List.mem_map_of_mem hz)
    rw [put_other _ _ hne]
    exact h.agree z (by rw [List.take_add_one]; exact List.mem_append_left _ hz)
  · have hne : z.code ≠ x.code := fun e => by
      have h1 := ht.found z hz
      rw [e, hF] at h1
      obtain rfl := Option.some.inj h1
      exact h0 hp
    rw [put_other _ _ hne]
    exact h.kept z hz hp
  · rw [drop_succ hx] at hz
    by_cases e : z.code = x.code
    · rw [e, put_same]
    · rw [put_other _ _ e]
      rcases List.mem_cons.1 hz with rfl | hz
      · exact absurd rfl e
      · exact h.zero z hz hp
  · have := h.rng c
    unfold put
    split <;> omega
theorem SpMid.leave {F : Fd} {N : Nat} {l : List It} {root : List UInt8} {q : Int} {k : Nat} {x : It} {nx : Int} {j : Nat} {w needs : List UInt8 → Int} (h : SpMid F N l root q k x nx j w needs) (hj : x.parts.length ≤ j) : Sp F N l root q k w needs := by
  refine ⟨fun y => ?_, h.agree, h.kept, h.zero, h.rng⟩
  have := h.pot y
  rw [List.drop_of_length_le hj] at this
  simpa using this
/-- What part j adds. -/
theorem SpMid.bound {F : Fd} {N : Nat} (hg : Good F N) {l : List It} (ht : Topo F l) {root : List UInt8} {q : Int} {k : Nat} {x : It} {nx : Int} {j : Nat} {w needs : List UInt8 → Int} (h : SpMid F N l root q k x nx j w needs) (hx : l[k]? = some x) {p : Pt} (hp : x.parts[j]? = some p) :
    w p.1 = needs p.1 ∧ 1 ≤ p.2 ∧ ∀ y, (needs p.1 + nx * p.2) * amt F y N p.1 ≤ q * amt F y N root := by
  have hs := nth_split hx
  obtain ⟨hF, hn1, hp1⟩ := ht.split hs
  have hpm := List.mem_of_getElem? hp
  obtain ⟨z, hz⟩ := hg.part hF hpm
  have hmem := hp1 p hpm (by rw [hz]; rfl)
  obtain ⟨z', hz', hzc⟩ := List.mem_map.1 hmem
  have hw : w p.1 = needs p.1 := by rw [← hzc]; exact h.agree z' hz'
  have hnx : 0 ≤ nx := by have := (h.rng x.code).1; rw [h.own] at this; exact this
  have hmem' : p.1 ∈ l.map (·.code) := by rw [hs, List.map_append, List.mem_append]; exact .inl hmem
  refine ⟨hw, hg.qty _ _ hF p hpm, fun y => ?_⟩
  have hnn : ∀ x ∈ l, 0 ≤ w x.code ∧ 0 ≤ amt F y N x.code := fun u hu => ⟨(h.rng u.code).2.2, amt_nonneg hg y _ _ (ht.found u hu)⟩
  have h1 := ssum_mem_le (g := amt F y N) (w := w) hnn hmem'
  have h2 := h.pot y
  have h3 : p.2 * amt F y N p.1 ≤ ((x.parts.drop j).map (fun p => p.2 * amt F y N p.1)).sum := by
    refine sum_mem_le (fun a ha => ?_) (List.mem_map.2 ⟨p, ?_, rfl⟩)
    · obtain ⟨p', hp', rfl⟩ := List.mem_map.1 ha
      have hm' := List.mem_of_mem_drop hp'
      obtain ⟨u, hu⟩ := hg.part hF hm'
      exact Int.mul_nonneg (by have := hg.qty _ _ hF p' hm'; omega) (amt_nonneg hg y _ _ hu)
    · exact List.mem_of_getElem? (i := 0) (by rw [List.getElem?_drop]; simpa using hp)
  have h4 := Int.mul_le_mul_of_nonneg_left h3 hnx
  rw [hw] at h1
  rw [Int.add_mul, Int.mul_assoc]
  omega
theorem SpMid.next {F : Fd} {N : Nat} (hg : Good F N) {l : List It} (ht : Topo F l) {root : List UInt8} {q : Int} {k : Nat} {x : It} {nx : Int} {j : Nat} {w needs : List UInt8 → Int} (h : SpMid F N l root q k x nx j w needs) (hx : l[k]? = some x) {p : Pt} (hp : x.parts[j]? = some p) (hle : needs p.1 + nx * p.2 ≤ 1125899906842624) :
    SpMid F N l root q k x nx (j + 1) (put w p.1 (w p.1 + nx * p.2)) (put needs p.1 (needs p.1 + nx * p.2)) := by
  have hs := nth_split hx
  obtain ⟨hF, hn1, hp1⟩ := ht.split hs
  have hpm := List.mem_of_getElem? hp
  obtain ⟨z, hz⟩ := hg.part hF hpm
  have hmem := hp1 p hpm (by rw [hz]; rfl)
  obtain ⟨hw, hq1, _⟩ := h.bound hg ht hx hp
  have hnx : 0 ≤ nx := by have := (h.rng x.code).1; rw [h.own] at this; exact this
  have hmem' : p.1 ∈ l.map (·.code) := by rw [hs, List.map_append, List.mem_append]; exact .inl hmem
  have hnd := ht.nodup
  have hd : x.parts.drop j = p :: x.parts.drop (j + 1) := by
    obtain ⟨hlt, he⟩ := List.getElem?_eq_some_iff.1 hp
    rw [← he, ← List.drop_eq_getElem_cons hlt]
  have hput : ∀ c, put w p.1 (w p.1 + nx * p.2) c = w c ∨ c = p.1 := fun c => by by_cases e : c = p.1; exact .inr e; exact .inl (put_other _ _ e)
  have hsame : ∀ c, w c = needs c → put w p.1 (w p.1 + nx * p.2) c = put needs p.1 (needs p.1 + nx * p.2) c := fun c hc => by
    by_cases e : c = p.1
    · subst e; rw [put_same, put_same, hw]
    · rw [put_other _ _ e, put_other _ _ e, hc]
  refine ⟨fun y => ?_, fun u hu => hsame _ (h.agree u hu), fun u hu hp' => hsame _ (h.kept u hu hp'), fun u hu hp' => ?_, fun c => ?_, ?_⟩
  · have h1 := h.pot y
    rw [hd, List.map_cons, List.sum_cons, Int.mul_add] at h1
    rw [ssum_put _ _ _ hnd hmem']
    have e : w p.1 + nx * p.2 - w p.1 = nx * p.2 := by omega
    rw [e, Int.mul_assoc]
    omega
  · have hne : u.code ≠ p.1 := fun e => by
      rw [hs, List.map_append, List.map_cons, List.nodup_append] at hnd
      rw [drop_succ hx] at hu
      exact hnd.2.2 p.1 hmem u.code (by rw [← List.map_cons (f := It.code)]; exact List.mem_map_of_mem hu) e.symm
    rw [put_other _ _ hne]
    exact h.zero u hu hp'
  · have h1 := h.rng c
    have h2 := h.rng p.1
    have h3 : 0 ≤ nx * p.2 := Int.mul_nonneg hnx (by omega)
    unfold put
    split <;> omega
  · have hne : x.code ≠ p.1 := fun e => hn1 (e ▸ hmem)
    rw [put_other _ _ hne]
    exact h.own
/-- In the end: of each that is kept it is needed what is in it in the end. -/
theorem Sp.finish {F : Fd} {N : Nat} (hg : Good F N) {l : List It} (ht : Topo F l) {root : List UInt8} {q : Int} {w needs : List UInt8 → Int} (h : Sp F N l root q 0 w needs) {x : It} (hx : x ∈ l) (h0 : x.parts = []) : needs x.code = q * amt F x.code N root := by
  rw [← h.pot x.code, ← h.kept x hx h0]
  obtain ⟨l1, l2, hl⟩ := List.append_of_mem hx
  have hnd := ht.nodup
  rw [hl, List.map_append, List.map_cons, List.nodup_append] at hnd
  obtain ⟨_, hn2, hn3⟩ := hnd
  have hn4 := (List.nodup_cons.1 hn2).1
  have hz : ∀ m : List It, (∀ y ∈ m, y ∈ l ∧ y.code ≠ x.code) → ssum (amt F x.code N) w m = 0 := by
    intro m
    induction m with
    | nil => intro _; rfl
    | cons y m ih =>
      intro hm
      obtain ⟨hy, hne⟩ := hm y (by simp)
      rw [ssum, ih (fun u hu => hm u (by simp [hu]))]
      by_cases hp : y.parts = []
      · rw [amt_kept hg (ht.found y hy) hp, if_neg hne]; simp
      · rw [h.zero y (by simpa using hy) hp]; simp
  have h1 := hz l1 (fun y hy => ⟨by rw [hl]; simp [hy], fun e => hn3 y.code (List.mem_map_of_mem hy) x.code (by simp) e⟩)
  have h2 := hz l2 (fun y hy => ⟨by rw [hl]; simp [hy], fun e => hn4 (e ▸ List.mem_map_of_mem hy)⟩)
  conv => rhs; rw [hl]
  rw [ssum_append, ssum, h1, h2, amt_kept hg (ht.found x hx) h0]
  simp
theorem reach_amt {F : Fd} {N : Nat} (hg : Good F N) {y : List UInt8} {z : It} (hz : F y = some z) (h0 : z.parts = []) : ∀ c x, F c = some x → Reach F c y → 1 ≤ amt F y N c := by
  refine hg.ind (P := fun c x => Reach F c y → 1 ≤ amt F y N c) (fun c x hx ih hr => ?_)
  by_cases hp0 : x.parts = []
  · rw [amt_kept hg hx hp0]
    have hno : ∀ b, Reach F c b → b = c := by
      intro b hb
      induction hb with
      | refl => rfl
      | step _ hs ih =>
        subst ih
        obtain ⟨u, hu, p, hp, _⟩ := hs
        rw [hx] at hu
        obtain rfl := Option.some.inj hu
        rw [hp0] at hp
        simp at hp
    rw [if_pos (hno y hr).symm]
    omega
  · have hsplit : ∀ b, Reach F c b → b = c ∨ ∃ p ∈ x.parts, Reach F p.1 b := by
      intro b hb
      induction hb with
      | refl => exact .inl rfl
      | step _ hs ih =>
        rcases ih with rfl | ⟨p, hp, h1⟩
        · obtain ⟨u, hu, p, hp, rfl⟩ := hs
          rw [hx] at hu
          obtain rfl := Option.some.inj hu
          exact .inr ⟨p, hp, .refl _⟩
        · exact .inr ⟨p, hp, h1.step hs⟩
    rcases hsplit y hr with rfl | ⟨p, hp, h1⟩
    · rw [hx] at hz
      obtain rfl := Option.some.inj hz
      exact absurd h0 hp0
    · obtain ⟨u, hu⟩ := hg.part hx hp
      have h2 := ih p hp u hu h1
      have hq := hg.qty c x hx p hp
      rw [amt_kit hg hx hp0]
      have hle := sum_mem_le (l := x.parts.map (fun p => p.2 * amt F y N p.1)) (fun a ha => by
        obtain ⟨p', hp', rfl⟩ := List.mem_map.1 ha
        obtain ⟨z', hz'⟩ := hg.part hx hp'
        exact Int.mul_nonneg (by have := hg.qty c x hx p' hp'; omega) (amt_nonneg hg y p'.1 z' hz')) (List.mem_map.2 ⟨p, hp, rfl⟩)
      have : 1 * 1 ≤ p.2 * amt F y N p.1 := Int.mul_le_mul hq h2 (by omega) (by omega)
      omega
end Kt
end Go.Proofs.Ytkdcpnbfeagggaa
end
section
/- kit.spread: what lies where on the way. No walk. -/
namespace Go.Proofs.Ytkdcpnbfeagggaa
namespace Kt
open Go.RowKit Go.Shelf Go.Maps
set_option linter.unusedVariables false

/-- From n0 on: the results, the map of what is needed; b: the box that holds the map, bs: the box of the list. -/
structure Sg (n0 b bs M : Nat) (sl : Value) (w6 W : World) (needs : List UInt8 → Int) (n : Nat) (S : List UInt8 → Prop) : Prop where
  r1 : Boxed W n0 55 (.map none)
  r2 : Boxed W (n0 + 1) 4 (.bool false)
  rm : SMap (.int .i64 0) W (n0 + 2) n (fun c => .int .i64 (needs c)) S
  rb : Boxed W b 55 (.map (some (n0 + 2)))
  rs : Boxed W bs 22 sl
  low : Below n0 w6 W
  rng : ∀ c, 0 ≤ needs c ∧ needs c ≤ 1125899906842624
  ord : n0 + 2 < b ∧ b < M ∧ bs < M ∧ n0 + 2 < bs ∧ M ≤ W.heap.size
section
variable {n0 b bs M : Nat} {sl : Value} {w6 W W' : World} {needs : List UInt8 → Int} {n : Nat} {S : List UInt8 → Prop}
theorem Sg.grown (h : Sg n0 b bs M sl w6 W needs n S) {row : Option Nat} (hg : W.grownBy W' row) (hr : ∀ r, row = some r → M ≤ r) : Sg n0 b bs M sl w6 W' needs n S := by
  obtain ⟨o1, o2, o3, o4, o5⟩ := h.ord
  have hne : ∀ k, k < M → some k ≠ row := fun k hk e => by have := hr k e.symm; omega
  refine ⟨h.r1.kept hg (hne _ (by omega)), h.r2.kept hg (hne _ (by omega)), h.rm.kept hg (hne _ (by omega)), h.rb.kept hg (hne _ (by omega)), h.rs.kept hg (hne _ (by omega)), ?_, h.rng, o1, o2, o3, o4, Nat.le_trans o5 hg.size⟩
  have := h.r1.lt
  exact h.low.grown hg (by omega) (fun j e => by have := hr j e; omega)
theorem Sg.below (h : Sg n0 b bs M sl w6 W needs n S) (hb : Below M W W') : Sg n0 b bs M sl w6 W' needs n S := by
  obtain ⟨o1, o2, o3, o4, o5⟩ := h.ord
  exact ⟨boxed_below h.r1 hb (by omega), boxed_below h.r2 hb (by omega), h.rm.at_block (hb.block _ (by omega)), boxed_below h.rb hb o2, boxed_below h.rs hb o3, h.low.trans (hb.mono (by omega)), h.rng, o1, o2, o3, o4, Nat.le_trans o5 hb.size⟩
theorem Sg.alloc (h : Sg n0 b bs M sl w6 W needs n S) (o : Obj) : Sg n0 b bs M sl w6 (W.alloc o) needs n S := h.below ((Below.refl _ _).alloc h.ord.2.2.2.2 o)
theorem Sg.put (h : Sg n0 b bs M sl w6 W needs n S) {c : List UInt8} {v : Int} {n' : Nat} {S' : List UInt8 → Prop} (hg : W.grownBy W' (some (n0 + 2))) (hm : SMap (.int .i64 0) W' (n0 + 2) n' (updK (fun c => .int .i64 (needs c)) c (.int .i64 v)) S') (h0 : 0 ≤ v) (h1 : v ≤ 1125899906842624) :
    Sg n0 b bs M sl w6 W' (put needs c v) n' S' := by
  obtain ⟨o1, o2, o3, o4, o5⟩ := h.ord
  have hne : ∀ k, k ≠ n0 + 2 → some k ≠ some (n0 + 2) := fun k hk e => hk (by cases e; rfl)
  refine ⟨h.r1.kept hg (hne _ (by omega)), h.r2.kept hg (hne _ (by omega)), hm.congr (fun u => ?_) (fun _ => Iff.rfl), h.rb.kept hg (hne _ (by omega)), h.rs.kept hg (hne _ (by omega)), ?_, fun u => ?_, o1, o2, o3, o4, Nat.le_trans o5 hg.size⟩
  · unfold updK Kt.put
    split <;> rfl
  · exact h.low.grown hg (by omega) (fun j e => by cases e; omega)
  · unfold Kt.put
    split
    · exact ⟨h0, h1⟩
    · exact h.rng u
theorem Sg.keep (h : Sg n0 b bs M sl w6 W needs n S) {needs' : List UInt8 → Int} {n' : Nat} {S' : List UInt8 → Prop} (h' : Sg n0 b bs M sl w6 W' needs' n' S') (hb : Below n0 W W') : KeepB n0 bs W W' := ⟨hb, h'.rs.trans h.rs.symm⟩
end
section
variable {n0 b bs M : Nat} {sl : Value} {w6 W W' : World} {needs : List UInt8 → Int} {n : Nat} {S : List UInt8 → Prop}
/-- Both results are stored anew. -/
theorem Sg.res (h : Sg n0 b bs M sl w6 W needs n S) : Boxed (W.setCell ⟨n0, 0, none⟩ (.map none)) (n0 + 1) 4 (.bool false) ∧ Sg n0 b bs M sl w6 ((W.setCell ⟨n0, 0, none⟩ (.map none)).setCell ⟨n0 + 1, 0, none⟩ (.bool false)) needs n S ∧ KeepsFrom M W ((W.setCell ⟨n0, 0, none⟩ (.map none)).setCell ⟨n0 + 1, 0, none⟩ (.bool false)) := by
  obtain ⟨o1, o2, o3, o4, o5⟩ := h.ord
  have h2 : Boxed (W.setCell ⟨n0, 0, none⟩ (.map none)) (n0 + 1) 4 (.bool false) := h.r2.other (by omega) _
  have hset : ∀ i, i ≠ n0 → i ≠ n0 + 1 → ((W.setCell ⟨n0, 0, none⟩ (.map none)).setCell ⟨n0 + 1, 0, none⟩ (.bool false)).heap[i]? = W.heap[i]? := fun i hi hi' =>
    (Below.heap_setCell _ ⟨n0 + 1, 0, none⟩ (.bool false) i (fun e => hi' e)).trans (Below.heap_setCell W ⟨n0, 0, none⟩ (.map none) i (fun e => hi e))
  refine ⟨h2, ⟨(h.r1.set _).other (by omega) _, h2.set _, h.rm.at_block (hset _ (by omega) (by omega)), (hset _ (by omega) (by omega)).trans h.rb, (hset _ (by omega) (by omega)).trans h.rs, ?_, h.rng, o1, o2, o3, o4, ?_⟩, ?_⟩
  · exact (h.low.setCell (p := ⟨n0, 0, none⟩) (Nat.le_refl _) _).setCell (p := ⟨n0 + 1, 0, none⟩) (by show n0 ≤ n0 + 1; omega) _
  · simpa [World.setCell] using o5
  · exact ((KeepsOthers.setCell _ _ _).from _).trans ((KeepsOthers.setCell _ _ _).from _)
end
theorem times_no {a b : Int} (h0 : 0 ≤ a) (h1 : a ≤ 1125899906842624) (h2 : 1 ≤ b) (h3 : b ≤ 1073741824) (h : timesB a b = false) : 1125899906842624 < a * b := by
  unfold timesB at h
  rw [rightB_true h0 h1, rightB_true (by omega) (by omega)] at h
  have h4 : 0 ≤ a * b := Int.mul_nonneg h0 (by omega)
  rcases of_not_rightB (by simpa using h) with h5 | h5 <;> omega
theorem times_yes {a b : Int} (h : timesB a b = true) : timesV a b = a * b ∧ 0 ≤ a * b ∧ a * b ≤ 1125899906842624 := by
  unfold timesV
  rw [if_pos h]
  unfold timesB at h
  rw [Bool.and_eq_true, Bool.and_eq_true] at h
  have := of_rightB h.2.2
  exact ⟨rfl, this⟩
theorem add_no {a b : Int} (h0 : 0 ≤ a) (h1 : a ≤ 1125899906842624) (h2 : 0 ≤ b) (h3 : b ≤ 1125899906842624) (h : addB a b = false) : 1125899906842624 < a + b := by
  unfold addB at h
  rw [rightB_true h0 h1, rightB_true h2 h3] at h
  rcases of_not_rightB (by simpa using h) with h5 | h5 <;> omega
theorem add_yes {a b : Int} (h : addB a b = true) : addV a b = a + b ∧ 0 ≤ a + b ∧ a + b ≤ 1125899906842624 := by
  unfold addV
  rw [if_pos h]
  unfold addB at h
  rw [Bool.and_eq_true, Bool.and_eq_true] at h
  have := of_rightB h.2.2
  exact ⟨rfl, this⟩
/-- What goes beyond can't be put together in the end. -/
theorem SpMid.over {F : Fd} {N : Nat} (hg : Good F N) {l : List It} (ht : Topo F l) {root : List UInt8} {q : Int} (hq : 0 ≤ q) {xr : It} (hr : F root = some xr) {k : Nat} {x : It} {nx : Int} {j : Nat} {w needs : List UInt8 → Int} (h : SpMid F N l root q k x nx j w needs) (hx : l[k]? = some x) {p : Pt} (hp : x.parts[j]? = some p)
    (ho : 1125899906842624 < needs p.1 + nx * p.2) : ¬ JoinOk (flat F N root q) := by
  intro hj
  have hs := nth_split hx
  obtain ⟨hF, _, _⟩ := ht.split hs
  obtain ⟨z, hz⟩ := hg.part hF (List.mem_of_getElem? hp)
  obtain ⟨y, u, h1, h2, h3⟩ := amt_some hg p.1 z hz
  have h4 := (h.bound hg ht hx hp).2.2 y
  have h5 := (flat_ok hg hr hq).1 hj y
  have h6 : (needs p.1 + nx * p.2) * 1 ≤ (needs p.1 + nx * p.2) * amt F y N p.1 := Int.mul_le_mul_of_nonneg_left h3 (by omega)
  omega
theorem Sp.enterAny {F : Fd} {N : Nat} (hg : Good F N) {l : List It} (ht : Topo F l) {root : List UInt8} {q : Int} {k : Nat} {w needs : List UInt8 → Int} (h : Sp F N l root q (k + 1) w needs) {x : It} (hx : l[k]? = some x) : ∃ ww, SpMid F N l root q k x (needs x.code) 0 ww needs := by
  by_cases h0 : x.parts = []
  · have h1 := h.skip hx h0
    exact ⟨w, fun y => by rw [h0]; simpa using h1.pot y, h1.agree, h1.kept, h1.zero, h1.rng, rfl⟩
  · exact ⟨_, h.enter hg ht hx h0⟩
theorem downs_snoc {n : Nat} {pre : List (Fin n)} {k : Fin n} (h : pre ++ [k] = downs n (pre.length + 1)) (hp : pre.length < n) : pre = downs n pre.length ∧ n - pre.length = k.val + 1 := by
  rw [downs_succ hp] at h
  have h1 := List.append_inj' h rfl
  obtain ⟨h2, h3⟩ := h1
  simp at h3
  refine ⟨h2, ?_⟩
  rw [h3]
  simp only
  omega
theorem results2 {P : Program} {fn : Func} {p u : Tmp} {t s : TypeId} (h : fn.results = #[.cell p t, .cell u s]) (tmps : Array Value) (w : World) (a b : Addr) (va vb : Value) (ha : tmps.getD p undef = .pointer (some a)) (hb : tmps.getD u undef = .pointer (some b)) (h1 : (loadVar t a).run P w = .ok va w) (h2 : (loadVar s b).run P w = .ok vb w) :
    (results fn tmps).run P w = .ok (.tuple #[va, vb]) w := by
  have ha' : tmps[p]?.getD undef = .pointer (some a) := by simpa using ha
  have hb' : tmps[u]?.getD undef = .pointer (some b) := by simpa using hb
  simp [results, h, ha', hb', asAddr, h1, h2, Result.andThen]
end Kt
end Go.Proofs.Ytkdcpnbfeagggaa
end
