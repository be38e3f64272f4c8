/- Texts of this proof, one behind the other. -/
import Derived.Laws.Cover1
import Derived.Maps.OwnSet
import Derived.RangeFuncBox
import Derived.Test.YtkdcpnbfeagggaaA01
section
/- kit.shaped: whether codes are right and rise, and each item is kept, or a kit. -/
namespace Go.Proofs.Ytkdcpnbfeagggaa
namespace Kt
open Go.ChangeShapes Go.WideShapes Go.ChangeAt Go.RowKit Go.Maps Go.Shelf
set_option linter.unusedVariables false

def lastOf (l : List It) (k : Nat) : List UInt8 := if k = 0 then [] else match l[k - 1]? with
  | some x => x.code
  | none => []
theorem lastOf_succ {l : List It} {k : Nat} {x : It} (h : l[k]? = some x) : lastOf l (k + 1) = x.code := by simp [lastOf, h]
def shapeAt (l : List It) (k : Nat) : Bool := match l[k]? with
  | some x => Cd.rightL x.code && (decide (lastOf l k < x.code) && (keptB x || kitB x))
  | none => true
def shapedB (l : List It) : Bool := (List.range l.length).all (shapeAt l)
theorem str_tri {a b : List UInt8} (h : ¬ b < a) (he : ¬ a = b) : a < b := Classical.byContradiction (fun h' => he (List.le_antisymm (List.not_lt.1 h) (List.not_lt.1 h')))
theorem shapedB_no {l : List It} {k : Nat} (hk : k < l.length) (h : shapeAt l k = false) : shapedB l = false := by
  unfold shapedB
  rw [List.all_eq_false]
  exact ⟨k, List.mem_range.2 hk, by rw [h]; simp⟩
theorem shapedB_yes {l : List It} (h : ∀ j, j < l.length → shapeAt l j = true) : shapedB l = true := by
  unfold shapedB
  rw [List.all_eq_true]
  exact fun j hj => h j (List.mem_range.1 hj)

set_option maxRecDepth 100000 in
set_option maxHeartbeats 4000000 in
theorem shaped_any (v : Value) (l : List Iv) (w : World) (hv : ISl w w.heap.size v l) (hs : SizedI l) (hlen : l.length ≤ 1099511627776) : Calls Try.prog 35 #[v] w fun e w' => e = .returned (.bool (shapedB (l.map (·.it)))) ∧ Go.RowKit.Below w.heap.size w w' := by
  obtain ⟨⟨A, c, rfl, hc1, hc2, hcz, hl⟩, hsub⟩ := id hv
  obtain ⟨vv, hvv⟩ : ∃ vv, shapedB (l.map (·.it)) = vv := ⟨_, rfl⟩
  have HV := Lib.hid hvv
  simp only [hvv]
  have HL := Lib.hid hl
  have HU := Lib.hid hsub
  have HS : Hid (SizedI l) := Lib.hid hs
  clear hl hsub hv hvv hs
  go_enter Try.func35, Try.ntmps35
  go_wp2
  go_loopw [3, 8] (fun la i wr => ∃ k : Nat, k ≤ l.length ∧ i = .int .i64 k ∧ la = .string ⟨(lastOf (l.map (·.it)) k).toArray⟩ ∧ Hid (∀ j, j < k → shapeAt (l.map (·.it)) j = true) ∧ Hid (Go.RowKit.Below w.heap.size w wr)) (fun _ i _ => l.length - (intOf i).toNat)
  case atStart => exact ⟨0, Nat.zero_le _, rfl, rfl, Lib.hid (by omega), Lib.hid (Below.refl _ _)⟩
  case round =>
    obtain ⟨k, hk, rfl, rfl, HN, HB⟩ := hrel
    by_cases hlt : k < l.length
    · obtain ⟨x, hx⟩ : ∃ x, l[k]? = some x := ⟨_, List.getElem?_eq_getElem hlt⟩
      have hxm := List.mem_of_getElem? hx
      have hxi : (l.map (·.it))[k]? = some x.it := by simp [hx]
      obtain ⟨⟨code, life, ps⟩, os, pv, ov⟩ := x
      obtain ⟨Ap, cp, Ao, co, rfl, rfl, hcp, hcq⟩ := (HU.out _ hxm).form
      obtain ⟨ad, rfl, hab, x0, x1, x2, x3⟩ := (HL.out.below HB.out).rowI hx
      have HF : Hid (shapeAt (l.map (·.it)) k = (Cd.rightL code && (decide (lastOf (l.map (·.it)) k < code) && (keptB ⟨code, life, ps⟩ || kitB ⟨code, life, ps⟩)))) := Lib.hid (by unfold shapeAt; rw [hxi])
      have HLS := Lib.hid (lastOf_succ hxi)
      have HX := Lib.hid (Box4.new wr ⟨⟨code, life, ps⟩, os, .slice Ap ps.length cp, .slice Ao os.length co⟩)
      have HB1 : Hid (Go.RowKit.Below w.heap.size w (wr.alloc (.cells #[.string ⟨code.toArray⟩, .int .i64 life, .slice Ap ps.length cp, .slice Ao os.length co] 32))) := Lib.hid (HB.out.alloc HB.out.size _)
      have HSb := Lib.hid ((HU.out _ hxm).below HB1.out)
      have hcs := (HS.out _ hxm).1
      have HPS := Lib.hid (HS.out _ hxm).2.2.1
      have hss : (ByteArray.mk code.toArray).size = code.length := str_size hcs
      obtain ⟨e0, e1, e2, e3⟩ := HX.out.cells
      clear hx hxi
      obtain ⟨la, hla⟩ : ∃ la, lastOf (l.map (·.it)) k = la := ⟨_, rfl⟩
      rw [hla] at HF ⊢
      have HLA := Lib.hid hla
      clear hla
      have hno : Hid (shapeAt (l.map (·.it)) k = false → vv = false) := Lib.hid (fun h => by rw [← HV.out]; exact shapedB_no (by simpa using hlt) h)
      have HR := Lib.hid (Cd.right_any ⟨code.toArray⟩)
      have HK := Lib.hid (kept_any ⟨⟨code, life, ps⟩, os, .slice Ap ps.length cp, .slice Ao os.length co⟩ w.heap.size)
      have HT := Lib.hid (isKit_any ⟨⟨code, life, ps⟩, os, .slice Ap ps.length cp, .slice Ao os.length co⟩ w.heap.size)
      have hrl : (ByteArray.mk code.toArray).data.toList = code := rfl
      simp only at *
      have hbx := HB1.out.size
      cases hr : Cd.rightL code
      · go_wp2_with (go_at_call 51; ((with_reducible refine (HR.out _).mono ?_); rintro e w2 ⟨rfl, hb2'⟩; have hb2 := Lib.hid (HB1.out.trans (hb2'.mono HB1.out.size)); clear hb2'; rw [hr]))
        go_ret
        exact ⟨Cd.ret_bool (hno.out (by rw [HF.out, hr]; rfl)).symm, hb2.out⟩
      · cases hlc : decide (la < code)
        · have hnl : ¬ la < code := of_decide_eq_false hlc
          have hno2 := hno.out (by rw [HF.out, hr, hlc]; rfl)
          by_cases he : code = la
          · subst he
            go_wp2_with (go_at_call 51; ((with_reducible refine (HR.out _).mono ?_); rintro e w2 ⟨rfl, hb2'⟩; have hb2 := Lib.hid (HB1.out.trans (hb2'.mono HB1.out.size)); obtain ⟨m0, m1, m2, m3⟩ := (HX.out.below hb2' HX.out.lt).cells; simp only at m0 m1 m2 m3; clear hb2'; rw [hr]))
            go_ret
            exact ⟨Cd.ret_bool (by rw [hno2]), hb2.out⟩
          · have hbl : Op.bytesLess code la = true := by rw [bytesLess_eq]; exact decide_eq_true (str_tri hnl he)
            go_wp2_with (go_at_call 51; ((with_reducible refine (HR.out _).mono ?_); rintro e w2 ⟨rfl, hb2'⟩; have hb2 := Lib.hid (HB1.out.trans (hb2'.mono HB1.out.size)); obtain ⟨m0, m1, m2, m3⟩ := (HX.out.below hb2' HX.out.lt).cells; simp only at m0 m1 m2 m3; clear hb2'; rw [hr]))
            go_ret
            exact ⟨Cd.ret_bool (by rw [hno2]), hb2.out⟩
        · have hl1 : la < code := of_decide_eq_true hlc
          have hbl : Op.bytesLess code la = false := by rw [bytesLess_eq]; exact decide_eq_false (List.lt_asymm hl1)
          have hbe : (code == la) = false := beq_eq_false_iff_ne.2 (fun e => List.lt_irrefl _ (e ▸ hl1))
          cases hkp : keptB ⟨code, life, ps⟩
          · cases hkt : kitB ⟨code, life, ps⟩
            · have hno2 := hno.out (by rw [HF.out, hr, hlc, hkp, hkt]; rfl)
              go_wp2_with (first
                | (go_at_call 51; ((with_reducible refine (HR.out _).mono ?_); rintro e w2 ⟨rfl, hb2'⟩; have hb2 := Lib.hid (HB1.out.trans (hb2'.mono HB1.out.size)); have HX2 := Lib.hid (HX.out.below hb2' HX.out.lt); obtain ⟨m0, m1, m2, m3⟩ := HX2.out.cells; simp only at m0 m1 m2 m3; clear hb2'; rw [hr]))
                | (go_at_call 45; ((with_reducible refine (HK.out _ ((HU.out _ hxm).below hb2.out)).mono ?_); rintro e w3 ⟨rfl, hb3'⟩; have hb3 := Lib.hid (below_two hb2.out hb3'); have HX3 := Lib.hid (HX2.out.below hb3' HX2.out.lt); obtain ⟨q0, q1, q2, q3⟩ := HX3.out.cells; simp only at q0 q1 q2 q3; clear hb3'; rw [hkp]))
                | (go_at_call 52; ((with_reducible refine (HT.out _ hb3.out.size ((HU.out _ hxm).below hb3.out) HPS.out).mono ?_); rintro e w4 ⟨rfl, hb4'⟩; have hb4 := Lib.hid (below_two hb3.out hb4'); obtain ⟨u0, u1, u2', u3⟩ := (HX3.out.below hb4' HX3.out.lt).cells; simp only at u0 u1 u2' u3; clear hb4'; rw [hkt])))
              go_ret
              exact ⟨Cd.ret_bool (by rw [hno2]), hb4.out⟩
            · have hst : Hid (∀ j, j < k + 1 → shapeAt (l.map (·.it)) j = true) := Lib.hid (fun j hj => by
                by_cases e : j = k
                · subst e; rw [HF.out, hr, hlc, hkp, hkt]; rfl
                · exact HN.out j (by omega))
              go_wp2_with (first
                | (go_at_call 51; ((with_reducible refine (HR.out _).mono ?_); rintro e w2 ⟨rfl, hb2'⟩; have hb2 := Lib.hid (HB1.out.trans (hb2'.mono HB1.out.size)); have HX2 := Lib.hid (HX.out.below hb2' HX.out.lt); obtain ⟨m0, m1, m2, m3⟩ := HX2.out.cells; simp only at m0 m1 m2 m3; clear hb2'; rw [hr]))
                | (go_at_call 45; ((with_reducible refine (HK.out _ ((HU.out _ hxm).below hb2.out)).mono ?_); rintro e w3 ⟨rfl, hb3'⟩; have hb3 := Lib.hid (below_two hb2.out hb3'); have HX3 := Lib.hid (HX2.out.below hb3' HX2.out.lt); obtain ⟨q0, q1, q2, q3⟩ := HX3.out.cells; simp only at q0 q1 q2 q3; clear hb3'; rw [hkp]))
                | (go_at_call 52; ((with_reducible refine (HT.out _ hb3.out.size ((HU.out _ hxm).below hb3.out) HPS.out).mono ?_); rintro e w4 ⟨rfl, hb4'⟩; have hb4 := Lib.hid (below_two hb3.out hb4'); obtain ⟨u0, u1, u2', u3⟩ := (HX3.out.below hb4' HX3.out.lt).cells; simp only at u0 u1 u2' u3; clear hb4'; rw [hkt])))
              go_roundw
              case rel => exact ⟨k + 1, by omega, by go_num, by rw [HLS.out], hst, hb4⟩
              case measure => simp [intOf]; omega
          · have hst : Hid (∀ j, j < k + 1 → shapeAt (l.map (·.it)) j = true) := Lib.hid (fun j hj => by
              by_cases e : j = k
              · subst e; rw [HF.out, hr, hlc, hkp]; rfl
              · exact HN.out j (by omega))
            go_wp2_with (first
                | (go_at_call 51; ((with_reducible refine (HR.out _).mono ?_); rintro e w2 ⟨rfl, hb2'⟩; have hb2 := Lib.hid (HB1.out.trans (hb2'.mono HB1.out.size)); have HX2 := Lib.hid (HX.out.below hb2' HX.out.lt); obtain ⟨m0, m1, m2, m3⟩ := HX2.out.cells; simp only at m0 m1 m2 m3; clear hb2'; rw [hr]))
                | (go_at_call 45; ((with_reducible refine (HK.out _ ((HU.out _ hxm).below hb2.out)).mono ?_); rintro e w3 ⟨rfl, hb3'⟩; have hb3 := Lib.hid (below_two hb2.out hb3'); have HX3 := Lib.hid (HX2.out.below hb3' HX2.out.lt); obtain ⟨q0, q1, q2, q3⟩ := HX3.out.cells; simp only at q0 q1 q2 q3; clear hb3'; rw [hkp])))
            go_roundw
            case rel => exact ⟨k + 1, by omega, by go_num, by rw [HLS.out], hst, hb3⟩
            case measure => simp [intOf]; omega
    · obtain rfl : k = l.length := by omega
      have hyes : Hid (vv = true) := Lib.hid (by rw [← HV.out]; exact shapedB_yes (by simpa using HN.out))
      go_wp2
      go_ret
      exact ⟨Cd.ret_bool hyes.out.symm, HB.out⟩
end Kt
end Go.Proofs.Ytkdcpnbfeagggaa
end
section
/- Maps whose elements are taken as they stand: what is looked up, what is put. No walk. -/
namespace Go.Proofs.Ytkdcpnbfeagggaa
namespace Kt
open Go.ChangeShapes Go.WideShapes Go.ChangeAt Go.RowKit Go.Maps
set_option linter.unusedVariables false

def rawE (v : Value) : Option (DataW Value × List MemPlace) := some (.held v, [])
def updK {κ : Type} [DecidableEq κ] (f : κ → Value) (x : κ) (v : Value) (y : κ) : Value := if y = x then v else f y
theorem updK_same {κ : Type} [DecidableEq κ] (f : κ → Value) (x : κ) (v : Value) : updK f x v x = v := by simp [updK]
theorem updK_other {κ : Type} [DecidableEq κ] (f : κ → Value) (x : κ) (v : Value) (y : κ) (h : y ≠ x) : updK f x v y = f y := by simp [updK, h]

/-- Block b is a map that says f, and z where it has no key; S: the keys that it has. -/
def MapOf {κ : Type} (kl : κ → Lit) (P : Program) (k : TypeId) (z : Value) (w : World) (b n : Nat) (f : κ → Value) (S : κ → Prop) : Prop :=
  ∃ D : DataW Value, w.ownsMap P k rawE b n D ∧ (∀ x, D.atKey (kl x) (.held z) = .held (f x)) ∧ ∀ x, Maps.has D (kl x) = true ↔ S x

/-- Keys that are told apart. -/
structure KeyLits {κ : Type} (kl : κ → Lit) : Prop where
  inj : ∀ x y, kl x = kl y → x = y
  key : ∀ x, WideAt.IsKeyLit (kl x)
theorem strKeyLits : KeyLits (fun s : List UInt8 => Lit.string s) := ⟨fun x y h => by simpa using h, fun x => by simp [WideAt.IsKeyLit]⟩
theorem intKeyLits : KeyLits (fun n : Int => Lit.int .i64 n) := ⟨fun x y h => by simpa using h, fun x => by simp [WideAt.IsKeyLit]⟩

section
variable {κ : Type} {kl : κ → Lit} {P : Program} {k : TypeId} {z : Value} {w w' : World} {b n : Nat} {f : κ → Value} {S : κ → Prop}
theorem mapOf_made (kl : κ → Lit) (P : Program) (k : TypeId) (z : Value) (w : World) : MapOf kl P k z (w.alloc (.map #[] 0)) w.heap.size 0 (fun _ => z) (fun _ => False) :=
  ⟨_, World.ownsMap_made _ _ _ _, fun _ => rfl, fun x => by simp [Maps.has]⟩
theorem MapOf.kept {row : Option Nat} (h : MapOf kl P k z w b n f S) (hg : w.grownBy w' row) (hne : some b ≠ row) : MapOf kl P k z w' b n f S := by
  obtain ⟨D, h1, h2⟩ := h
  exact ⟨D, h1.kept hg hne, h2⟩
theorem MapOf.alloc (h : MapOf kl P k z w b n f S) (o : Obj) : MapOf kl P k z (w.alloc o) b n f S := h.kept (World.grownBy_alloc w o none) (by simp)
theorem MapOf.below (h : MapOf kl P k z w b n f S) (hb : Below w.heap.size w w') : MapOf kl P k z w' b n f S :=
  h.kept (row := none) ⟨hb.os, hb.tape, hb.output, hb.size, fun i hi _ => hb.block i hi⟩ (by simp)
theorem MapOf.lt (h : MapOf kl P k z w b n f S) : b < w.heap.size := by obtain ⟨D, h1, _⟩ := h; exact h1.lt
theorem MapOf.mono {n' : Nat} (h : MapOf kl P k z w b n f S) (hn : n ≤ n') : MapOf kl P k z w b n' f S := by obtain ⟨D, h1, h2⟩ := h; exact ⟨D, h1.mono hn, h2⟩
theorem MapOf.cell (h : MapOf kl P k z w b n f S) {a : Addr} (ha : b ≠ a.block) (u : Value) : MapOf kl P k z (w.setCell a u) b n f S := by
  obtain ⟨D, h1, h2⟩ := h
  exact ⟨D, h1.setCell ha u, h2⟩
theorem MapOf.look {t e : TypeId} (h : MapOf kl P k z w b n f S) (K : Keyed P k) (ht : P.underlying t = some (.map k e)) (hz : (zeroValue e).run P w = .ok z w) {key : Value} {x : κ} (hkey : keyOf P k key = some (kl x)) :
    (Instr.lookup t (.map (some b)) key false).run P w = .ok (f x) w := by
  obtain ⟨D, h1, h2, _⟩ := h
  obtain ⟨v, ps, hr, hv⟩ := h1.lookup (zp := []) K ht hz (by rfl : rawE z = some (.held z, [])) hkey
  rw [h2] at hv
  simp only [rawE, Option.some.injEq, Prod.mk.injEq, DataW.held.injEq] at hv
  rw [hr, hv.1]
theorem ownsMap_lower {R : Value → Option (DataW Value × List MemPlace)} {n' : Nat} {D : DataW Value} (h : w.ownsMap P k R b n' D) (hs : Maps.size D ≤ n) : w.ownsMap P k R b n D := by
  obtain ⟨es, clock, hb, F, _, rfl⟩ := h
  exact ⟨es, clock, hb, F, by simpa [Maps.size, length_sorted] using hs, rfl⟩
theorem MapOf.put [DecidableEq κ] {t e : TypeId} (h : MapOf kl P k z w b n f S) (L : KeyLits kl) (K : Keyed P k) (ht : P.underlying t = some (.map k e)) (hn : n < maxLen) {key val : Value} {x : κ} (hkey : keyOf P k key = some (kl x)) :
    ∃ w', (Instr.mapUpdate t (.map (some b)) key val).run P w = .ok () w' ∧ MapOf kl P k z w' b (n + 1) (updK f x val) (fun y => y = x ∨ S y) ∧ w.grownBy w' (some b) := by
  obtain ⟨D, h1, h2, h3⟩ := h
  obtain ⟨w', hr, h4, hg⟩ := h1.update K ht hn hkey (by rfl : rawE val = some (.held val, []))
  refine ⟨w', hr, ⟨_, h4, fun y => ?_, fun y => ?_⟩, hg⟩
  · by_cases e : y = x
    · subst e; rw [updK_same, atKey_put_same h1.isMap (L.key _)]
    · rw [updK_other _ _ _ _ e, atKey_put_other (fun e' => e (L.inj _ _ e')), h2]
  · by_cases e : y = x
    · subst e; rw [has_put_same h1.isMap (L.key _)]; simp
    · rw [has_put_other (fun e' => e (L.inj _ _ e')), h3]; simp [e]
/-- .. at a key that is there already: no more room is taken. -/
theorem MapOf.put_old [DecidableEq κ] {t e : TypeId} (h : MapOf kl P k z w b n f S) (L : KeyLits kl) (K : Keyed P k) (ht : P.underlying t = some (.map k e)) (hn : n < maxLen) {key val : Value} {x : κ} (hx : S x) (hkey : keyOf P k key = some (kl x)) :
    ∃ w', (Instr.mapUpdate t (.map (some b)) key val).run P w = .ok () w' ∧ MapOf kl P k z w' b n (updK f x val) S ∧ w.grownBy w' (some b) := by
  obtain ⟨D, h1, h2, h3⟩ := h
  obtain ⟨w', hr, h4, hg⟩ := h1.update K ht hn hkey (by rfl : rawE val = some (.held val, []))
  have hsz : Maps.size (D.put (kl x) (.held val)) ≤ n := by
    rw [size_put (h1.tidy K), (h3 x).2 hx]
    exact h1.size_le
  refine ⟨w', hr, ⟨_, ownsMap_lower h4 hsz, fun y => ?_, fun y => ?_⟩, hg⟩
  · by_cases e : y = x
    · subst e; rw [updK_same, atKey_put_same h1.isMap (L.key _)]
    · rw [updK_other _ _ _ _ e, atKey_put_other (fun e' => e (L.inj _ _ e')), h2]
  · by_cases e : y = x
    · subst e; rw [has_put_same h1.isMap (L.key _)]; simp [hx]
    · rw [has_put_other (fun e' => e (L.inj _ _ e')), h3]
end

/-- The store at the operation, for the walk. -/
theorem wpList_put {κ : Type} [DecidableEq κ] {kl : κ → Lit} {P : Program} (w : World) {ops : Array Oper} {rest : List Oper} {o : Oper} {a : Act} {Q : Exit → Act → World → Prop}
    (hg : o.guard = none) (m x v : Operand) (t : TypeId) (hop : o.op = Op.mapUpdate t m x v) (k e : TypeId) (L : KeyLits kl) (K : Keyed P k) (ht : P.underlying t = some (.map k e)) (z : Value) (b n : Nat) (f : κ → Value) (S : κ → Prop)
    (hm : a.eval m = .map (some b)) (hown : MapOf kl P k z w b n f S) (hn : n < maxLen) (key val : Value) (y : κ) (hx : a.eval x = key) (hv : a.eval v = val) (hkey : keyOf P k key = some (kl y))
    (hK : ∀ w', MapOf kl P k z w' b (n + 1) (updK f y val) (fun u => u = y ∨ S u) → w.grownBy w' (some b) → wpList P ops Q rest (a.put o.dst undef) w') :
    wpList P ops Q (o :: rest) a w := by
  refine wpList_plain hg fun K' hK' => ?_
  obtain ⟨w', hrun, r1, r2⟩ := hown.put L K ht hn (val := val) hkey
  unfold Oper.wp
  simp [execOp, hop, hm, hx, hv, hrun, Result.andThen]
  exact hK' _ _ (hK w' r1 r2)
theorem wpList_put_old {κ : Type} [DecidableEq κ] {kl : κ → Lit} {P : Program} (w : World) {ops : Array Oper} {rest : List Oper} {o : Oper} {a : Act} {Q : Exit → Act → World → Prop}
    (hg : o.guard = none) (m x v : Operand) (t : TypeId) (hop : o.op = Op.mapUpdate t m x v) (k e : TypeId) (L : KeyLits kl) (K : Keyed P k) (ht : P.underlying t = some (.map k e)) (z : Value) (b n : Nat) (f : κ → Value) (S : κ → Prop)
    (hm : a.eval m = .map (some b)) (hown : MapOf kl P k z w b n f S) (hn : n < maxLen) (key val : Value) (y : κ) (hy : S y) (hx : a.eval x = key) (hv : a.eval v = val) (hkey : keyOf P k key = some (kl y))
    (hK : ∀ w', MapOf kl P k z w' b n (updK f y val) S → w.grownBy w' (some b) → wpList P ops Q rest (a.put o.dst undef) w') :
    wpList P ops Q (o :: rest) a w := by
  refine wpList_plain hg fun K' hK' => ?_
  obtain ⟨w', hrun, r1, r2⟩ := hown.put_old L K ht hn (val := val) hy hkey
  unfold Oper.wp
  simp [execOp, hop, hm, hx, hv, hrun, Result.andThen]
  exact hK' _ _ (hK w' r1 r2)
/-- The store at a step of a region that draws its order. -/
theorem step_put {κ : Type} [DecidableEq κ] {kl : κ → Lit} {P : Program} {w : World} {ops : Array Oper} {o : Oper} {a : Act} {K' : Act → World → Prop} {Q : Exit → Act → World → Prop} {E : Prop}
    (hg : o.guard = none) (m x v : Operand) (t : TypeId) (hop : o.op = Op.mapUpdate t m x v) (k e : TypeId) (L : KeyLits kl) (K : Keyed P k) (ht : P.underlying t = some (.map k e)) (z : Value) (b n : Nat) (f : κ → Value) (S : κ → Prop)
    (hm : a.eval m = .map (some b)) (hown : MapOf kl P k z w b n f S) (hn : n < maxLen) (key val : Value) (y : κ) (hx : a.eval x = key) (hv : a.eval v = val) (hkey : keyOf P k key = some (kl y))
    (hK : ∀ w', MapOf kl P k z w' b (n + 1) (updK f y val) (fun u => u = y ∨ S u) → w.grownBy w' (some b) → K' (a.put o.dst undef) w') :
    if Region.wanted o (yielded ops a.tmps) = true then Oper.wp P o a w K' Q else E := by
  have hw : Region.wanted o (yielded ops a.tmps) = true := by simp [Region.wanted, hg]
  rw [if_pos hw]
  obtain ⟨w', hrun, r1, r2⟩ := hown.put L K ht hn (val := val) hkey
  unfold Oper.wp
  simp [execOp, hop, hm, hx, hv, hrun, Result.andThen]
  exact hK w' r1 r2
theorem step_put_old {κ : Type} [DecidableEq κ] {kl : κ → Lit} {P : Program} {w : World} {ops : Array Oper} {o : Oper} {a : Act} {K' : Act → World → Prop} {Q : Exit → Act → World → Prop} {E : Prop}
    (hg : o.guard = none) (m x v : Operand) (t : TypeId) (hop : o.op = Op.mapUpdate t m x v) (k e : TypeId) (L : KeyLits kl) (K : Keyed P k) (ht : P.underlying t = some (.map k e)) (z : Value) (b n : Nat) (f : κ → Value) (S : κ → Prop)
    (hm : a.eval m = .map (some b)) (hown : MapOf kl P k z w b n f S) (hn : n < maxLen) (key val : Value) (y : κ) (hy : S y) (hx : a.eval x = key) (hv : a.eval v = val) (hkey : keyOf P k key = some (kl y))
    (hK : ∀ w', MapOf kl P k z w' b n (updK f y val) S → w.grownBy w' (some b) → K' (a.put o.dst undef) w') :
    if Region.wanted o (yielded ops a.tmps) = true then Oper.wp P o a w K' Q else E := by
  have hw : Region.wanted o (yielded ops a.tmps) = true := by simp [Region.wanted, hg]
  rw [if_pos hw]
  obtain ⟨w', hrun, r1, r2⟩ := hown.put_old L K ht hn (val := val) hy hkey
  unfold Oper.wp
  simp [execOp, hop, hm, hx, hv, hrun, Result.andThen]
  exact hK w' r1 r2

theorem skeyed : Keyed Try.prog 9 := string_keyed Try.underlying9
theorem ikeyed : Keyed Try.prog 3 := int_keyed Try.underlying3
theorem skey_of (s : List UInt8) (h : s.length ≤ maxLen) : keyOf Try.prog 9 (.string ⟨s.toArray⟩) = some (.string s) := Go.WideMaps.keyOf_string_mk Try.underlying9 (by simpa [ByteArray.size] using h)
theorem ikey_of (n : Int) (h1 : -9223372036854775808 ≤ n) (h2 : n ≤ 9223372036854775807) : keyOf Try.prog 3 (.int .i64 n) = some (.int .i64 n) := keyOf_int_mk Try.underlying3 (WalkArith.wf_i64 ⟨h1, h2⟩)
end Kt
end Go.Proofs.Ytkdcpnbfeagggaa
end
section
/- Going through items once each, parts first: what holds on the way. Lists and numbers alone. -/
namespace Go.Proofs.Ytkdcpnbfeagggaa
set_option linter.unusedVariables false
namespace Kt

def put {β : Type} (f : List UInt8 → β) (c : List UInt8) (v : β) : List UInt8 → β := fun a => if a = c then v else f a
theorem put_same {β : Type} (f : List UInt8 → β) (c : List UInt8) (v : β) : put f c v c = v := by simp [put]
theorem put_other {β : Type} (f : List UInt8 → β) {c a : List UInt8} (v : β) (h : a ≠ c) : put f c v a = f a := by simp [put, h]

/-- What is so all the way: 1: begun, 2: done. -/
structure Inv (F : Fd) (seen : List UInt8 → Nat) (l : List It) : Prop where
  topo : Topo F l
  done : ∀ c, seen c = 2 ↔ c ∈ l.map (·.code)
  opened : ∀ c, seen c = 1 → (F c).isSome
  rng : ∀ c, seen c ≤ 2
theorem Inv.start (F : Fd) : Inv F (fun _ => 0) [] := ⟨.nil, by simp, by simp, by simp⟩
/-- All that are begun are on the way to c. -/
def OnWay (F : Fd) (seen : List UInt8 → Nat) (c : List UInt8) : Prop := ∀ g, seen g = 1 → ∃ b, Step F g b ∧ Reach F b c
/-- c was gone through. -/
structure Went (F : Fd) (seen : List UInt8 → Nat) (l : List It) (c : List UInt8) (seen' : List UInt8 → Nat) (l' : List It) : Prop where
  inv : Inv F seen' l'
  same : ∀ g, seen' g = 1 ↔ seen g = 1
  ext : ∃ e, l' = l ++ e ∧ ∀ x ∈ e, Reach F c x.code
  got : (F c).isSome → c ∈ l'.map (·.code)
  last : ∀ x, F c = some x → seen c = 0 → ∃ e, l' = l ++ e ++ [x]
theorem Went.none {F : Fd} {seen : List UInt8 → Nat} {l : List It} {c : List UInt8} (h : Inv F seen l) (hc : F c = none) : Went F seen l c seen l :=
  ⟨h, fun _ => Iff.rfl, ⟨[], by simp, by simp⟩, fun h => (by rw [hc] at h; cases h), fun x hx => (by rw [hc] at hx; cases hx)⟩
theorem Went.done {F : Fd} {seen : List UInt8 → Nat} {l : List It} {c : List UInt8} (h : Inv F seen l) (hc : seen c = 2) : Went F seen l c seen l :=
  ⟨h, fun _ => Iff.rfl, ⟨[], by simp, by simp⟩, fun _ => (h.done c).1 hc, fun x _ h0 => by omega⟩
theorem round_hit {F : Fd} {seen : List UInt8 → Nat} {c : List UInt8} (h : OnWay F seen c) (hc : seen c = 1) : Round F := by
  obtain ⟨b, h1, h2⟩ := h c hc
  exact ⟨c, b, h1, h2⟩
/-- In the midst of c's parts, j of which are gone through. -/
structure Midst (F : Fd) (seen : List UInt8 → Nat) (l : List It) (c : List UInt8) (x : It) (j : Nat) (seen' : List UInt8 → Nat) (l' : List It) : Prop where
  inv : Inv F seen' l'
  same : ∀ g, seen' g = 1 ↔ (seen g = 1 ∨ g = c)
  ext : ∃ e, l' = l ++ e ∧ ∀ y ∈ e, Reach F c y.code
  got : ∀ p ∈ x.parts.take j, (F p.1).isSome → p.1 ∈ l'.map (·.code)
theorem Midst.start {F : Fd} {seen : List UInt8 → Nat} {l : List It} {c : List UInt8} {x : It} (h : Inv F seen l) (hx : F c = some x) (h0 : seen c = 0) : Midst F seen l c x 0 (put seen c 1) l := by
  refine ⟨⟨h.topo, fun a => ?_, fun a ha => ?_, fun a => ?_⟩, fun g => ?_, ⟨[], by simp, by simp⟩, by simp⟩
  · by_cases e : a = c
    · subst e
      rw [put_same]
      constructor
      · intro h; omega
      · intro hm; have := (h.done a).2 hm; omega
    · rw [put_other _ _ e]; exact h.done a
  · by_cases e : a = c
    · subst e; rw [hx]; rfl
    · rw [put_other _ _ e] at ha; exact h.opened a ha
  · by_cases e : a = c
    · subst e; rw [put_same]; omega
    · rw [put_other _ _ e]; exact h.rng a
  · by_cases e : g = c
    · subst e; simp [put_same]
    · rw [put_other _ _ e]; simp [e]
theorem Midst.way {F : Fd} {seen seen' : List UInt8 → Nat} {l l' : List It} {c : List UInt8} {x : It} {j : Nat} (h : Midst F seen l c x j seen' l') (hx : F c = some x) (hw : OnWay F seen c) {p : Pt} (hp : p ∈ x.parts) : OnWay F seen' p.1 := by
  intro g hg
  have hs : Step F c p.1 := ⟨x, hx, p, hp, rfl⟩
  rcases (h.same g).1 hg with h1 | rfl
  · obtain ⟨b, h2, h3⟩ := hw g h1
    exact ⟨b, h2, h3.step hs⟩
  · exact ⟨p.1, hs, .refl _⟩
theorem Midst.next {F : Fd} {seen seen' seen'' : List UInt8 → Nat} {l l' l'' : List It} {c : List UInt8} {x : It} {j : Nat} (h : Midst F seen l c x j seen' l') (hx : F c = some x) {p : Pt} (hp : x.parts[j]? = some p) (hw : Went F seen' l' p.1 seen'' l'') : Midst F seen l c x (j + 1) seen'' l'' := by
  obtain ⟨e1, he1, hr1⟩ := h.ext
  obtain ⟨e2, he2, hr2⟩ := hw.ext
  have hs : Step F c p.1 := ⟨x, hx, p, List.mem_of_getElem? hp, rfl⟩
  refine ⟨hw.inv, fun g => (hw.same g).trans (h.same g), ⟨e1 ++ e2, by rw [he2, he1, List.append_assoc], fun y hy => ?_⟩, fun q hq hf => ?_⟩
  · rcases List.mem_append.1 hy with hy | hy
    · exact hr1 y hy
    · exact (Reach.step (.refl _) hs).trans (hr2 y hy)
  · rw [List.take_add_one, hp] at hq
    rcases List.mem_append.1 hq with hq | hq
    · have := h.got q hq hf
      rw [he2, List.map_append, List.mem_append]
      exact .inl this
    · simp at hq
      subst hq
      exact hw.got hf
theorem Midst.finish {F : Fd} {seen seen' : List UInt8 → Nat} {l l' : List It} {c : List UInt8} {x : It} {j : Nat} (h : Midst F seen l c x j seen' l') (hx : F c = some x) (hxc : x.code = c) (h0 : seen c = 0) (hj : x.parts.length ≤ j) : Went F seen l c (put seen' c 2) (l' ++ [x]) := by
  have hc1 : seen' c = 1 := (h.same c).2 (.inr rfl)
  have hcl : c ∉ l'.map (·.code) := fun hm => by have := (h.inv.done c).2 hm; omega
  have hg := h.got
  rw [List.take_of_length_le hj] at hg
  obtain ⟨e, he, hr⟩ := h.ext
  refine ⟨⟨.snoc h.inv.topo (by rw [hxc]; exact hx) (by rw [hxc]; exact hcl) hg, fun a => ?_, fun a ha => ?_, fun a => ?_⟩, fun g => ?_, ⟨e ++ [x], by rw [he, List.append_assoc], fun y hy => ?_⟩, fun _ => by simp [hxc], fun y hy _ => ⟨e, ?_⟩⟩
  · rw [List.map_append, List.mem_append]
    by_cases ea : a = c
    · subst ea; simp [put_same, hxc]
    · rw [put_other _ _ ea, h.inv.done a]
      simp [hxc, ea]
  · by_cases ea : a = c
    · subst ea; rw [hx]; rfl
    · rw [put_other _ _ ea] at ha; exact h.inv.opened a ha
  · by_cases ea : a = c
    · subst ea; rw [put_same]; omega
    · rw [put_other _ _ ea]; exact h.inv.rng a
  · by_cases ea : g = c
    · subst ea; rw [put_same]; omega
    · rw [put_other _ _ ea, h.same g]; simp [ea]
  · rcases List.mem_append.1 hy with hy | hy
    · exact hr y hy
    · simp at hy; subst hy; rw [hxc]; exact .refl _
  · rw [hx] at hy
    obtain rfl := Option.some.inj hy
    rw [he]

/-- How many are not begun. -/
def left (K : List (List UInt8)) (seen : List UInt8 → Nat) : Nat := (K.filter (fun c => decide (seen c = 0))).length
theorem left_le {K : List (List UInt8)} {seen seen' : List UInt8 → Nat} (h : ∀ c, seen' c = 0 → seen c = 0) : left K seen' ≤ left K seen := by
  unfold left
  induction K with
  | nil => simp
  | cons a K ih =>
    simp only [List.filter_cons]
    by_cases h1 : seen' a = 0
    · rw [if_pos (by simpa using h1), if_pos (by simpa using h a h1)]
      simp only [List.length_cons]; omega
    · rw [if_neg (by simpa using h1)]
      split
      · simp only [List.length_cons]; omega
      · exact ih
theorem left_lt {K : List (List UInt8)} {seen seen' : List UInt8 → Nat} (h : ∀ c, seen' c = 0 → seen c = 0) {c : List UInt8} (hc : c ∈ K) (h0 : seen c = 0) (h1 : seen' c ≠ 0) : left K seen' < left K seen := by
  obtain ⟨a, b, rfl⟩ := List.append_of_mem hc
  have e1 := left_le (K := a) h
  have e2 := left_le (K := b) h
  unfold left at e1 e2 ⊢
  simp only [List.filter_append, List.filter_cons, List.length_append]
  rw [if_neg (by simpa using h1), if_pos (by simpa using h0)]
  simp only [List.length_cons]
  omega
theorem Midst.zero {F : Fd} {seen seen' : List UInt8 → Nat} {l l' : List It} {c : List UInt8} {x : It} {j : Nat} (h : Midst F seen l c x j seen' l') (hi : Inv F seen l) (h0 : seen c = 0) : ∀ a, seen' a = 0 → seen a = 0 := by
  intro a ha
  by_cases h1 : seen a = 1
  · have := (h.same a).2 (.inl h1); omega
  · by_cases h2 : seen a = 2
    · have hm := (hi.done a).1 h2
      obtain ⟨e, he, _⟩ := h.ext
      have : seen' a = 2 := (h.inv.done a).2 (by rw [he, List.map_append, List.mem_append]; exact .inl hm)
      omega
    · have := hi.rng a; omega
theorem Midst.less {F : Fd} {seen seen' : List UInt8 → Nat} {l l' : List It} {c : List UInt8} {x : It} {j : Nat} (h : Midst F seen l c x j seen' l') (hi : Inv F seen l) (h0 : seen c = 0) {K : List (List UInt8)} (hc : c ∈ K) : left K seen' < left K seen :=
  left_lt (h.zero hi h0) hc h0 (by have := (h.same c).2 (.inr rfl); omega)

/-- What going through some codes makes: each item once, behind its parts; no others than are within. -/
structure Inward (F : Fd) (from_ : List (List UInt8)) (l : List It) : Prop where
  topo : Topo F l
  all : ∀ c ∈ from_, (F c).isSome → c ∈ l.map (·.code)
  only : ∀ x ∈ l, ∃ c ∈ from_, Reach F c x.code
  last : ∀ c x, from_ = [c] → F c = some x → ∃ e, l = e ++ [x]
/-- On the way: some of the codes are gone through. -/
structure Going (F : Fd) (from_ : List (List UInt8)) (j : Nat) (seen : List UInt8 → Nat) (l : List It) : Prop where
  inv : Inv F seen l
  none : ∀ g, seen g ≠ 1
  inw : Inward F (from_.take j) l
theorem Going.start (F : Fd) (from_ : List (List UInt8)) : Going F from_ 0 (fun _ => 0) [] := ⟨Inv.start F, by simp, ⟨.nil, by simp, by simp, by simp⟩⟩
theorem Going.way {F : Fd} {from_ : List (List UInt8)} {j : Nat} {seen : List UInt8 → Nat} {l : List It} (h : Going F from_ j seen l) (c : List UInt8) : OnWay F seen c := fun g hg => absurd hg (h.none g)
theorem Going.next {F : Fd} {from_ : List (List UInt8)} {j : Nat} {seen seen' : List UInt8 → Nat} {l l' : List It} {c : List UInt8} (h : Going F from_ j seen l) (hc : from_[j]? = some c) (hw : Went F seen l c seen' l') : Going F from_ (j + 1) seen' l' := by
  obtain ⟨e, he, hr⟩ := hw.ext
  refine ⟨hw.inv, fun g hg => h.none g ((hw.same g).1 hg), hw.inv.topo, fun a ha hf => ?_, fun x hx => ?_, fun a x ha hx => ?_⟩
  · rw [List.take_add_one, hc] at ha
    rcases List.mem_append.1 ha with ha | ha
    · rw [he, List.map_append, List.mem_append]
      exact .inl (h.inw.all a ha hf)
    · simp at ha; subst ha; exact hw.got hf
  · rw [List.take_add_one, hc]
    rw [he] at hx
    rcases List.mem_append.1 hx with hx | hx
    · obtain ⟨a, ha, h1⟩ := h.inw.only x hx
      exact ⟨a, List.mem_append_left _ ha, h1⟩
    · exact ⟨c, by simp, hr x hx⟩
  · rw [List.take_add_one, hc] at ha
    have hl := congrArg List.length ha
    simp only [Option.toList_some, List.length_append, List.length_singleton] at hl
    have h0 : from_.take j = [] := List.eq_nil_of_length_eq_zero (by omega)
    rw [h0] at ha
    simp at ha
    subst ha
    have hl0 : l = [] := by
      cases l with
      | nil => rfl
      | cons y l =>
        obtain ⟨b, hb, _⟩ := h.inw.only y (by simp)
        rw [h0] at hb
        simp at hb
    have hs : seen c = 0 := by
      have h1 := h.none c
      have h2 := h.inv.rng c
      by_cases h3 : seen c = 2
      · have := (h.inv.done c).1 h3
        rw [hl0] at this
        simp at this
      · omega
    obtain ⟨e', he'⟩ := hw.last x hx hs
    exact ⟨l ++ e', he'⟩
theorem Going.done {F : Fd} {from_ : List (List UInt8)} {j : Nat} {seen : List UInt8 → Nat} {l : List It} (h : Going F from_ j seen l) (hj : from_.length ≤ j) : Inward F from_ l := by
  have := h.inw
  rwa [List.take_of_length_le hj] at this
end Kt
end Go.Proofs.Ytkdcpnbfeagggaa
end
section
/- Items by their codes: kit.byCode, kit.closed; what is looked up. -/
namespace Go.Proofs.Ytkdcpnbfeagggaa
namespace Kt
open Go.ChangeShapes Go.WideShapes Go.ChangeAt Go.RowKit Go.Maps Go.Shelf
set_option linter.unusedVariables false

abbrev zI : Value := .agg #[.string ⟨#[]⟩, .int .i64 0, .slice none 0 0, .slice none 0 0]
theorem zI_run (w : World) : (zeroValue 32).run Try.prog w = .ok zI w := by kernel_rfl
theorem zInt_run (w : World) : (zeroValue 3).run Try.prog w = .ok (.int .i64 0) w := by kernel_rfl
def elI (o : Option Iv) : Value := match o with
  | some x => aggI x
  | none => zI
abbrev SMap (z : Value) (w : World) (b n : Nat) (f : List UInt8 → Value) (S : List UInt8 → Prop) : Prop := MapOf (fun s : List UInt8 => Lit.string s) Try.prog 9 z w b n f S
section
variable {κ : Type} {kl : κ → Lit} {P : Program} {k : TypeId} {z : Value} {w w' : World} {b n : Nat} {f : κ → Value} {S : κ → Prop}
theorem MapOf.at_block (h : MapOf kl P k z w b n f S) (hb : w'.heap[b]? = w.heap[b]?) : MapOf kl P k z w' b n f S := by
  obtain ⟨D, ⟨es, clock, h1, F, h2, h3⟩, h4⟩ := h
  exact ⟨D, ⟨es, clock, hb.trans h1, F, h2, h3⟩, h4⟩
theorem MapOf.look2 {t e : TypeId} (h : MapOf kl P k z w b n f S) (K : Keyed P k) (ht : P.underlying t = some (.map k e)) (hz : (zeroValue e).run P w = .ok z w) {key : Value} {x : κ} (hkey : keyOf P k key = some (kl x)) {r : Bool} (hr : r = true ↔ S x) :
    (Instr.lookup t (.map (some b)) key true).run P w = .ok (.tuple #[f x, .bool r]) w := by
  obtain ⟨D, h1, h2, h3⟩ := h
  obtain ⟨v, ps, hrun, hv⟩ := h1.look_ok (zp := []) K ht hz (by rfl : rawE z = some (.held z, [])) hkey
  rw [h2] at hv
  simp only [rawE, Option.some.injEq, Prod.mk.injEq, DataW.held.injEq] at hv
  have hh : Maps.has D (kl x) = r := by
    have := h3 x
    cases hb : Maps.has D (kl x) <;> cases r <;> simp_all
  rw [hrun, hv.1, hh]
theorem MapOf.congr {f' : κ → Value} {S' : κ → Prop} (h : MapOf kl P k z w b n f S) (hf : ∀ x, f x = f' x) (hS : ∀ x, S x ↔ S' x) : MapOf kl P k z w b n f' S' := by
  obtain ⟨D, h1, h2, h3⟩ := h
  exact ⟨D, h1, fun x => by rw [h2, hf], fun x => (h3 x).trans (hS x)⟩
end
/-- What is found: nothing, or the map of items G. -/
def Fnd (w : World) (B : Nat) (mv : Value) (G : List UInt8 → Option Iv) : Prop :=
  (mv = .map none ∧ ∀ c, G c = none) ∨ ∃ b n, mv = .map (some b) ∧ b < B ∧ SMap zI w b n (fun c => elI (G c)) (fun c => (G c).isSome = true)
theorem Fnd.below {w w' : World} {B : Nat} {mv : Value} {G : List UInt8 → Option Iv} (h : Fnd w B mv G) (hb : Go.RowKit.Below B w w') : Fnd w' B mv G := by
  rcases h with h | ⟨b, n, h1, h2, h3⟩
  · exact .inl h
  · exact .inr ⟨b, n, h1, h2, h3.at_block (hb.block b h2)⟩
theorem Fnd.mono {w : World} {B B' : Nat} {mv : Value} {G : List UInt8 → Option Iv} (h : Fnd w B mv G) (hB : B ≤ B') : Fnd w B' mv G := by
  rcases h with h | ⟨b, n, h1, h2, h3⟩
  · exact .inl h
  · exact .inr ⟨b, n, h1, by omega, h3⟩
theorem Fnd.look {w : World} {B : Nat} {mv : Value} {G : List UInt8 → Option Iv} (h : Fnd w B mv G) (c : List UInt8) (hc : c.length ≤ maxLen) :
    (Instr.lookup 44 mv (.string ⟨c.toArray⟩) true).run Try.prog w = .ok (.tuple #[elI (G c), .bool (G c).isSome]) w := by
  rcases h with ⟨rfl, h⟩ | ⟨b, n, rfl, _, h3⟩
  · rw [h c]
    have hkey := skey_of c hc
    rcases skeyed.find w hkey [] (by simp) with ⟨f1, _⟩ | ⟨j, e0, _, f2, _⟩
    · simp [Instr.lookup, run_underlying Try.underlying44, skeyed.check w _ hkey, f1, Result.andThen, elI]
    · simp at f2
  · exact h3.look2 skeyed Try.underlying44 (zI_run w) (skey_of c hc) Iff.rfl

theorem found_step {l : List Iv} {k : Nat} {x : Iv} {w : World} {b n : Nat} (hx : l[k]? = some x) (h : SMap zI w b n (updK (fun c => elI (lastC (l.take k) c)) x.it.code (aggI x)) (fun u => u = x.it.code ∨ (lastC (l.take k) u).isSome = true)) :
    SMap zI w b n (fun c => elI (lastC (l.take (k + 1)) c)) (fun c => (lastC (l.take (k + 1)) c).isSome = true) := by
  have e : l.take (k + 1) = l.take k ++ [x] := by rw [List.take_add_one, hx]; rfl
  refine h.congr (fun c => ?_) (fun c => ?_)
  · rw [e, lastC_snoc]
    unfold updK
    split <;> rfl
  · rw [e, lastC_snoc]
    by_cases h : c = x.it.code <;> simp [h]
/-- What byCode answers. -/
def ByCodeTo (l : List Iv) (w : World) (e : Ending) (w' : World) : Prop := ∃ b, e = .returned (.map (some b)) ∧ Fnd w' w'.heap.size (.map (some b)) (lastC l) ∧ Go.RowKit.Below w.heap.size w w'
set_option maxHeartbeats 1000000 in
theorem byCode_any (v : Value) (l : List Iv) (w : World) (hlen : l.length ≤ 1099511627776) (hs : SizedI l) (hv : ISl w w.heap.size v l) :
    Calls Try.prog 36 #[v] w (ByCodeTo l w) := by
  obtain ⟨⟨A, c, rfl, hc1, hc2, hcz, hl⟩, hsub⟩ := id hv
  have hmm := @run_makeMap Try.prog
  have HL := Lib.hid hl
  have HS := Lib.hid hs
  have HU := Lib.hid hsub
  clear hl hv hs hsub
  go_enter Try.func36, Try.ntmps36
  go_wp2
  clear hmm
  go_loopw [9] (fun i wr => ∃ k : Nat, k ≤ l.length ∧ i = .int .i64 k ∧ Hid (SMap zI wr w.heap.size k (fun c => elI (lastC (l.take k) c)) (fun c => (lastC (l.take k) c).isSome = true)) ∧ Hid (Go.RowKit.Below w.heap.size w wr) ∧ w.heap.size < wr.heap.size) (fun i _ => l.length - (intOf i).toNat)
  case atStart => exact ⟨0, Nat.zero_le _, rfl, Lib.hid ((mapOf_made (fun s : List UInt8 => Lit.string s) Try.prog 9 zI w).congr (fun c => rfl) (fun c => by simp [lastC])), Lib.hid (below_alloc1 _ _), by simp⟩
  case round =>
    obtain ⟨k, hk, rfl, HM, HB, hz⟩ := hrel
    by_cases hlt : k < l.length
    · obtain ⟨x, hx⟩ : ∃ x, l[k]? = some x := ⟨_, List.getElem?_eq_getElem hlt⟩
      have hxm := List.mem_of_getElem? hx
      obtain ⟨⟨code, life, ps⟩, os, pv, ov⟩ := x
      obtain ⟨Ap, cp, Ao, co, rfl, rfl, hcp, hcq⟩ := (HU.out _ hxm).form
      obtain ⟨ad, rfl, hab, x0, x1, x2, x3⟩ := (HL.out.below HB.out).rowI hx
      have hcs : code.length ≤ maxLen := (HS.out _ hxm).1
      have HX := Lib.hid hx
      clear hx
      go_wp2_with (at_mapUpdate; refine wpList_put _ rfl _ _ _ 44 rfl 9 32 strKeyLits skeyed Try.underlying44 zI w.heap.size k _ _ rfl (HM.out.alloc _) (by unfold maxLen; omega) _ _ code rfl rfl (skey_of code hcs) ?_; intro w2 hown2' hg2')
      have hown2 := Lib.hid (found_step HX.out hown2')
      have hg2 := Lib.hid hg2'
      clear hown2' hg2'
      have hb2 : Hid (Go.RowKit.Below w.heap.size w w2) := Lib.hid ((HB.out.alloc HB.out.size _).grown hg2.out (by simp only [World.size_alloc]; omega) (fun j hj => by cases hj; exact Nat.le_refl _))
      have hz2 := hg2.out.size
      simp only [World.size_alloc] at hz2
      go_roundw
      case rel => exact ⟨k + 1, by omega, by go_num, hown2, hb2, by omega⟩
      case measure => simp [intOf]; omega
    · obtain rfl : k = l.length := by omega
      go_wp2
      go_ret
      exact ⟨w.heap.size, rfl, .inr ⟨w.heap.size, l.length, rfl, hz, by have := HM.out; rwa [List.take_of_length_le (Nat.le_refl _)] at this⟩, HB.out⟩
end Kt
end Go.Proofs.Ytkdcpnbfeagggaa
end
section
/- kit.closed: whether all that items are made of is found; kit.codes. -/
namespace Go.Proofs.Ytkdcpnbfeagggaa
namespace Kt
open Go.ChangeShapes Go.WideShapes Go.ChangeAt Go.RowKit Go.Maps Go.Shelf
set_option linter.unusedVariables false

def GSub (w : World) (B : Nat) (G : List UInt8 → Option Iv) : Prop := ∀ c y, G c = some y → ISub w B y
theorem GSub.last {w : World} {B : Nat} {l : List Iv} (h : ∀ x ∈ l, ISub w B x) : GSub w B (lastC l) := fun c y hy => h y (lastC_some l hy).1
theorem GSub.none (w : World) (B : Nat) : GSub w B (fun _ => Option.none) := fun c y hy => by cases hy
theorem GSub.below {w w' : World} {B : Nat} {G : List UInt8 → Option Iv} (h : GSub w B G) (hb : Go.RowKit.Below B w w') : GSub w' B G := fun c y hy => (h c y hy).below hb
theorem GSub.mono {w : World} {B B' : Nat} {G : List UInt8 → Option Iv} (h : GSub w B G) (hB : B ≤ B') : GSub w B' G := fun c y hy => (h c y hy).mono hB
/-- What is looked up, in the form that a walk stores. -/
theorem el_form {w : World} {B : Nat} {G : List UInt8 → Option Iv} (h : GSub w B G) (c : List UInt8) : ∃ (s : List UInt8) (n : Int) (Ap : Option Addr) (lp cp : Nat) (Ao : Option Addr) (lo co : Nat), elI (G c) = .agg #[.string ⟨s.toArray⟩, .int .i64 n, .slice Ap lp cp, .slice Ao lo co] := by
  cases hg : G c with
  | none => exact ⟨[], 0, Option.none, 0, 0, Option.none, 0, 0, rfl⟩
  | some y =>
    obtain ⟨⟨code, life, ps⟩, os, pv, ov⟩ := y
    obtain ⟨Ap, cp, Ao, co, rfl, rfl, _, _⟩ := (h c _ hg).form
    exact ⟨code, life, Ap, ps.length, cp, Ao, os.length, co, rfl⟩
def partsIn (G : List UInt8 → Option Iv) (ps : List Pt) : Bool := ps.all (fun p => (G p.1).isSome)
def closedB (G : List UInt8 → Option Iv) (l : List It) : Bool := l.all (fun x => partsIn G x.parts)
theorem all_no {α : Type} {p : α → Bool} {l : List α} {x : α} (hx : x ∈ l) (h : p x = false) : l.all p = false := by
  rw [List.all_eq_false]; exact ⟨x, hx, by rw [h]; simp⟩
theorem all_succ {α : Type} {p : α → Bool} {l : List α} {k : Nat} {x : α} (hx : l[k]? = some x) (h : (l.take k).all p = true) (hp : p x = true) : (l.take (k + 1)).all p = true := by
  rw [List.take_add_one, hx, List.all_append, h]; simp [hp]

set_option maxRecDepth 100000 in
set_option maxHeartbeats 4000000 in
theorem closed_any (mv v : Value) (G : List UInt8 → Option Iv) (l : List Iv) (w : World) (hf : Fnd w w.heap.size mv G) (hg : GSub w w.heap.size G) (hv : ISl w w.heap.size v l) (hs : SizedI l) (hlen : l.length ≤ 1099511627776) :
    Calls Try.prog 37 #[mv, v] w fun e w' => e = .returned (.bool (closedB G (l.map (·.it)))) ∧ Go.RowKit.Below w.heap.size w w' := by
  obtain ⟨⟨A, c, rfl, hc1, hc2, hcz, hl⟩, hsub⟩ := id hv
  have hmf : ∃ mo, mv = .map mo := by rcases hf with ⟨rfl, _⟩ | ⟨b, _, rfl, _⟩ <;> exact ⟨_, rfl⟩
  obtain ⟨mo, rfl⟩ := hmf
  obtain ⟨vv, hvv⟩ : ∃ vv, closedB G (l.map (·.it)) = vv := ⟨_, rfl⟩
  have HV := Lib.hid hvv
  simp only [hvv]
  have HF := Lib.hid hf
  have HG := Lib.hid hg
  have HL := Lib.hid hl
  have HU := Lib.hid hsub
  have HS : Hid (SizedI l) := Lib.hid hs
  clear hl hsub hv hvv hs hf hg
  go_enter Try.func37, Try.ntmps37
  go_wp2
  go_loopw [13] (fun i wr => ∃ k : Nat, k ≤ l.length ∧ i = .int .i64 k ∧ Hid (((l.map (·.it)).take k).all (fun x => partsIn G x.parts) = true) ∧ Hid (Go.RowKit.Below w.heap.size w wr)) (fun i _ => l.length - (intOf i).toNat)
  case atStart => exact ⟨0, Nat.zero_le _, rfl, Lib.hid rfl, Lib.hid (Below.refl _ _)⟩
  case round =>
    obtain ⟨k, hk, rfl, HN, HB⟩ := hrel
    by_cases hlt : k < l.length
    · obtain ⟨x, hx⟩ : ∃ x, l[k]? = some x := ⟨_, List.getElem?_eq_getElem hlt⟩
      have hxm := List.mem_of_getElem? hx
      have HXI : Hid ((l.map (·.it))[k]? = some x.it) := Lib.hid (by simp [hx])
      have HPS := Lib.hid (HS.out _ hxm).2.2.1
      have hpsl := (HS.out _ hxm).2.2.2.2.1
      have HPL := Lib.hid (HU.out _ hxm).parts
      obtain ⟨⟨code, life, ps⟩, os, pv, ov⟩ := x
      obtain ⟨Ap, cp, Ao, co, rfl, rfl, hcp, hcq⟩ := (HU.out _ hxm).form
      obtain ⟨ad, rfl, hab, x0, x1, x2, x3⟩ := (HL.out.below HB.out).rowI hx
      have HX := Lib.hid (Box4.new wr ⟨⟨code, life, ps⟩, os, .slice Ap ps.length cp, .slice Ao os.length co⟩)
      have HB1 : Hid (Go.RowKit.Below w.heap.size w (wr.alloc (.cells #[.string ⟨code.toArray⟩, .int .i64 life, .slice Ap ps.length cp, .slice Ao os.length co] 32))) := Lib.hid (HB.out.alloc HB.out.size _)
      obtain ⟨e0, e1, e2, e3⟩ := HX.out.cells
      simp only at *
      clear hx
      have HXM := Lib.hid hxm
      clear hxm
      have hpl0 := HPL.out
      obtain ⟨Ap', cp', hpe, hp1, hp2, hpz, hpl⟩ := hpl0
      cases hpe
      have HPA := Lib.hid hpl
      clear hpl
      have hbw := HB1.out.size
      go_wp2
      obtain ⟨wo, rfl⟩ : ∃ wo : World, wo = wr := ⟨_, rfl⟩
      go_loopw [20] (fun i wr => ∃ j : Nat, j ≤ ps.length ∧ i = .int .i64 j ∧ Hid ((ps.take j).all (fun p => (G p.1).isSome) = true) ∧ Hid (Go.RowKit.Below w.heap.size w wr)) (fun i _ => ps.length - (intOf i).toNat)
      case atStart => exact ⟨0, Nat.zero_le _, rfl, Lib.hid rfl, HB1⟩
      case round =>
        clear e0 e1 e2 e3 HX HB HB1 hbw x0 x1 x2 x3
        obtain ⟨j, hj, rfl, HJ, HB⟩ := hrel
        by_cases hjt : j < ps.length
        · obtain ⟨p, hp⟩ : ∃ p, ps[j]? = some p := ⟨_, List.getElem?_eq_getElem hjt⟩
          obtain ⟨ap, rfl, hapb, y0, y1⟩ := (HPA.out.below HB.out).part hp
          have hpl1 := (HPS.out p (List.mem_of_getElem? hp)).1
          have HP := Lib.hid hp
          have HB2 : Hid (Go.RowKit.Below w.heap.size w (wr.alloc (.cells #[.string ⟨p.1.toArray⟩, .int .i64 p.2] 34))) := Lib.hid (HB.out.alloc HB.out.size _)
          have hlk := ((HF.out.below HB2.out).look p.1 hpl1)
          obtain ⟨s, n, Aq, lq, cq, Ar, lr, cr, hel⟩ := el_form HG.out p.1
          rw [hel] at hlk
          have HB3 : Hid (Go.RowKit.Below w.heap.size w ((wr.alloc (.cells #[.string ⟨p.1.toArray⟩, .int .i64 p.2] 34)).alloc (.cells #[.string ⟨s.toArray⟩, .int .i64 n, .slice Aq lq cq, .slice Ar lr cr] 32))) := Lib.hid (HB2.out.alloc HB2.out.size _)
          obtain ⟨n0, n1⟩ := part_new wr p
          clear hp hel
          cases hso : (G p.1).isSome
          · rw [hso] at hlk
            have hno : Hid (vv = false) := Lib.hid (by
              rw [← HV.out]
              exact all_no (List.mem_of_getElem? HXI.out) (all_no (List.mem_of_getElem? HP.out) hso))
            go_wp2
            go_ret
            exact ⟨Cd.ret_bool hno.out.symm, HB3.out⟩
          · rw [hso] at hlk
            have hst := Lib.hid (all_succ (p := fun p : Pt => (G p.1).isSome) HP.out HJ.out hso)
            go_wp2
            go_roundw
            case rel => exact ⟨j + 1, by omega, by go_num, hst, HB3⟩
            case measure => simp [intOf]; omega
        · obtain rfl : j = ps.length := by omega
          have hst := Lib.hid (all_succ (p := fun x : It => partsIn G x.parts) HXI.out HN.out (by have := HJ.out; rwa [List.take_of_length_le (Nat.le_refl _)] at this))
          go_wp2
          go_roundw
          case rel => exact ⟨k + 1, by omega, by go_num, hst, HB⟩
          case measure => simp [intOf]; omega
    · obtain rfl : k = l.length := by omega
      have hyes : Hid (vv = true) := Lib.hid (by rw [← HV.out]; have := HN.out; rwa [List.take_of_length_le (by simp)] at this)
      go_wp2
      go_ret
      exact ⟨Cd.ret_bool hyes.out.symm, HB.out⟩

/-- What codes answers: texts of its own memory. -/
def CodesTo (out : List (List UInt8)) (w : World) (e : Ending) (w' : World) : Prop := ∃ v, e = .returned v ∧ w'.ownsRow w.heap.size 9 1 v out.length (tcells out) ∧ Go.RowKit.Below w.heap.size w w'
theorem one_new (w : World) (s : List UInt8) (t : TypeId) : ∀ j u, [strV s][j]? = some u → (w.alloc (.cells #[strV s] t)).cell? ((⟨w.heap.size, 0, none⟩ : Addr).add j) = some u := by
  intro j u h
  rw [fresh_cell, ← h, ← Array.getElem?_toList]
theorem one_txt (s : List UInt8) : ∀ u ∈ [strV s], u.oneCell' = true := by
  intro u hu
  simp at hu
  subst hu
  rfl
theorem txtI : (Try.prog.info? 9).map (fun i => (i.zero, i.size, i.bytes)) = some (some (.string ⟨#[]⟩), 1, 16) := by kernel_rfl
set_option maxRecDepth 100000 in
set_option maxHeartbeats 2000000 in
theorem codes_any (v : Value) (l : List Iv) (w : World) (hv : ISl w w.heap.size v l) (hs : SizedI l) (hlen : l.length ≤ 1048576) :
    Calls Try.prog 30 #[v] w (CodesTo (l.map (·.it.code)) w) := by
  obtain ⟨i0, hi, hz0, hz1, hz2⟩ := info_parts txtI
  obtain ⟨⟨A, c, rfl, hc1, hc2, hcz, hl⟩, hsub⟩ := id hv
  have HL := Lib.hid hl
  have HU := Lib.hid hsub
  have HS : Hid (SizedI l) := Lib.hid hs
  have H1 := Lib.hid hi
  have H2 := Lib.hid hz0
  have H3 := Lib.hid hz1
  have H4 := Lib.hid hz2
  clear hl hsub hv hs hi hz0 hz1 hz2
  go_enter Try.func30, Try.ntmps30
  go_wp2
  go_loopw [3, 8] (fun o i wr => ∃ k : Nat, k ≤ l.length ∧ i = .int .i64 k ∧ Hid (wr.ownsRow w.heap.size 9 1 o k (tcells ((l.map (·.it.code)).take k))) ∧ Hid (Go.RowKit.Below w.heap.size w wr)) (fun _ i _ => l.length - (intOf i).toNat)
  case atStart => exact ⟨0, Nat.zero_le _, rfl, Lib.hid ⟨rfl, .inl ⟨rfl, rfl⟩⟩, Lib.hid (Below.refl _ _)⟩
  case round =>
    obtain ⟨k, hk, rfl, HO, HB⟩ := hrel
    by_cases hlt : k < l.length
    · obtain ⟨x, hx⟩ : ∃ x, l[k]? = some x := ⟨_, List.getElem?_eq_getElem hlt⟩
      have hxm := List.mem_of_getElem? hx
      obtain ⟨⟨code, life, ps⟩, os, pv, ov⟩ := x
      obtain ⟨Ap, cp, Ao, co, rfl, rfl, hcp, hcq⟩ := (HU.out _ hxm).form
      obtain ⟨ad, rfl, hab, x0, x1, x2, x3⟩ := (HL.out.below HB.out).rowI hx
      have hst : Hid (tcells ((l.map (·.it.code)).take k) ++ [strV code] = tcells ((l.map (·.it.code)).take (k + 1))) := Lib.hid (by rw [List.take_add_one]; simp [hx, tcells])
      have HB1 : Hid (Go.RowKit.Below w.heap.size w (wr.alloc (.cells #[.string ⟨code.toArray⟩, .int .i64 life, .slice Ap ps.length cp, .slice Ao os.length co] 32))) := Lib.hid (HB.out.alloc HB.out.size _)
      have HX := Lib.hid (Box4.new wr ⟨⟨code, life, ps⟩, os, .slice Ap ps.length cp, .slice Ao os.length co⟩)
      obtain ⟨e0, e1, e2, e3⟩ := HX.out.cells
      simp only at e0 e1 e2 e3
      clear hx hxm
      have HN := Lib.hid (one_new (wr.alloc (.cells #[.string ⟨code.toArray⟩, .int .i64 life, .slice Ap ps.length cp, .slice Ao os.length co] 32)) code 9)
      have hbs := HB.out.size
      go_wp2_with (at_builtin; refine wpList_append_own _ rfl _ _ 30 rfl w.heap.size 9 i0 _ 1 16 Try.underlying30 H1.out H2.out H3.out H4.out rfl (by decide) _ _ _ rfl ((HO.out.alloc _).alloc _) ⟨wr.heap.size + 1, 0, none⟩ 1 1 [strV code] rfl rfl (by simpa using HN.out) (one_txt code) (by unfold maxLen; omega) (by omega) (by simp only [World.size_alloc]; omega) ?_; intro v' w3 hown3 hg3 _; have ho3 := Lib.hid hown3; have hG3 := Lib.hid hg3; clear hown3 hg3)
      have hb3 : Hid (Go.RowKit.Below w.heap.size w w3) := Lib.hid ((HB1.out.alloc (by simp only [World.size_alloc]; omega) _).grown hG3.out (by simp only [World.size_alloc]; omega) (fun j hj => (HO.out.lt j hj).1))
      go_roundw
      case rel => exact ⟨k + 1, by omega, by go_num, Lib.hid (by rw [← hst.out]; exact ho3.out), hb3⟩
      case measure => simp [intOf]; omega
    · obtain rfl : k = l.length := by omega
      go_wp2
      go_ret
      exact ⟨_, rfl, by have := HO.out; rw [List.take_of_length_le (by simp)] at this; simpa using this, HB.out⟩
end Kt
end Go.Proofs.Ytkdcpnbfeagggaa
end
section
/- Going through items: what lies where on the way. No walk. -/
namespace Go.Proofs.Ytkdcpnbfeagggaa
namespace Kt
open Go.ChangeShapes Go.WideShapes Go.ChangeAt Go.RowKit Go.Maps Go.Shelf
set_option linter.unusedVariables false

/-- The items that are found, without where they lie. -/
def fdOf (G : List UInt8 → Option Iv) : Fd := fun c => (G c).map (·.it)
/-- What is found: each under its own code, within K; what a program can hold. -/
structure Stat (G : List UInt8 → Option Iv) (K : List (List UInt8)) : Prop where
  code : ∀ c x, G c = some x → x.it.code = c
  fits : ∀ c x, G c = some x → x.Fits
  inK : ∀ c x, G c = some x → c ∈ K
  few : K.length ≤ 1048576

abbrev entV (n₀ : Nat) : Value := .func (.func 41) #[] #[.pointer (some ⟨n₀, 0, none⟩), .pointer (some ⟨n₀ + 3, 0, none⟩), .pointer (some ⟨n₀ + 4, 0, none⟩), .pointer (some ⟨n₀ + 1, 0, none⟩)]
/-- From block n₀ on: what is found, the items that are done, what was seen, the function that calls itself. -/
structure At (mv : Value) (n₀ : Nat) (G : List UInt8 → Option Iv) (K : List (List UInt8)) (W : World) (v : Value) (seen : List UInt8 → Nat) (l : List Iv) (n β : Nat) : Prop where
  cf : Boxed W n₀ 44 mv
  cl : Boxed W (n₀ + 1) 22 v
  sm : SMap (.int .i64 0) W (n₀ + 2) n (fun c => .int .i64 (seen c : Nat)) (fun c => seen c ≠ 0)
  cs : Boxed W (n₀ + 3) 59 (.map (some (n₀ + 2)))
  ce : Boxed W (n₀ + 4) 47 (entV n₀)
  row : W.ownsRow (n₀ + 5) 32 4 v l.length (icells l)
  fnd : Fnd W n₀ mv G
  gs : GSub W n₀ G
  lg : ∀ x ∈ l, G x.it.code = some x
  nk : n + left K seen ≤ K.length
  lb : l.length + β ≤ n
section
variable {mv : Value} {n₀ : Nat} {G : List UInt8 → Option Iv} {K : List (List UInt8)} {W W' : World} {v : Value} {seen : List UInt8 → Nat} {l : List Iv} {n β : Nat}
theorem At.size (h : At mv n₀ G K W v seen l n β) : n₀ + 5 ≤ W.heap.size := by have := h.ce.lt; omega
theorem boxed_below {B m : Nat} {t : TypeId} {u : Value} (h : Boxed W B t u) (hb : Below m W W') (hB : B < m) : Boxed W' B t u := (hb.block B hB).trans h
theorem At.below (h : At mv n₀ G K W v seen l n β) (hb : Below W.heap.size W W') : At mv n₀ G K W' v seen l n β :=
  ⟨boxed_below h.cf hb h.cf.lt, boxed_below h.cl hb h.cl.lt, h.sm.at_block (hb.block _ h.sm.lt), boxed_below h.cs hb h.cs.lt, boxed_below h.ce hb h.ce.lt, h.row.kept (below_none hb) (by cases v.ownBlock <;> simp), h.fnd.below (hb.mono (by have := h.size; omega)), h.gs.below (hb.mono (by have := h.size; omega)), h.lg, h.nk, h.lb⟩
/-- What stays while items are gone through. -/
structure Fr (n₀ : Nat) (W W' : World) (v v' : Value) : Prop where
  low : Below n₀ W W'
  block : ∀ i, i < W.heap.size → i ≠ n₀ + 1 → i ≠ n₀ + 2 → v.ownBlock ≠ some i → W'.heap[i]? = W.heap[i]?
  row : ∀ b, v'.ownBlock = some b → v.ownBlock = some b ∨ W.heap.size ≤ b
theorem Fr.refl (n₀ : Nat) (W : World) (v : Value) : Fr n₀ W W v v := ⟨Below.refl _ _, fun _ _ _ _ _ => rfl, fun _ h => .inl h⟩
theorem Fr.trans {W'' : World} {v' v'' : Value} (h : Fr n₀ W W' v v') (h' : Fr n₀ W' W'' v' v'') : Fr n₀ W W'' v v'' := by
  have hz := h.low.size
  refine ⟨h.low.trans h'.low, fun i hi h1 h2 h3 => ?_, fun b hb => ?_⟩
  · refine (h'.block i (by omega) h1 h2 (fun e => ?_)).trans (h.block i hi h1 h2 h3)
    rcases h.row i e with h4 | h4
    · exact h3 h4
    · omega
  · rcases h'.row b hb with h4 | h4
    · exact h.row b h4
    · exact .inr (by omega)
theorem Fr.below (hb : Below W.heap.size W W') (hn : n₀ ≤ W.heap.size) (v : Value) : Fr n₀ W W' v v := ⟨hb.mono hn, fun i hi _ _ _ => hb.block i hi, fun _ h => .inl h⟩
theorem Fr.box4 {v' : Value} {B : Nat} {x : Iv} (h : Fr n₀ W W' v v') (hB : n₀ + 5 ≤ B) (hv : v.ownBlock ≠ some B) (hb : Box4 W B x) : Box4 W' B x := (h.block B hb.lt (by omega) (by omega) hv).trans hb
theorem Fr.away {v' : Value} {B : Nat} (h : Fr n₀ W W' v v') (hv : v.ownBlock ≠ some B) (hB : B < W.heap.size) : v'.ownBlock ≠ some B := fun e => by
  rcases h.row B e with h1 | h1
  · exact hv h1
  · omega
/-- A store into what was seen. -/
theorem At.put (h : At mv n₀ G K W v seen l n β) {c : List UInt8} {k n' β' : Nat} (hk : k ≠ 0) (hg : W.grownBy W' (some (n₀ + 2)))
    (hm : SMap (.int .i64 0) W' (n₀ + 2) n' (updK (fun c => .int .i64 (seen c : Nat)) c (.int .i64 (k : Nat))) (fun u => u = c ∨ seen u ≠ 0)) (hn : n' + left K (put seen c k) ≤ K.length) (hl : l.length + β' ≤ n') :
    At mv n₀ G K W' v (put seen c k) l n' β' ∧ Fr n₀ W W' v v := by
  have hz := h.size
  have hlow : Below n₀ W W' := ⟨hg.os, hg.tape, hg.output, hg.size, fun i hi => hg.block i (by omega) (fun e => by cases e; omega)⟩
  refine ⟨⟨h.cf.kept hg (by simp), h.cl.kept hg (by simp), hm.congr (fun u => ?_) (fun u => ?_), h.cs.kept hg (by simp), h.ce.kept hg (by simp), h.row.kept hg (.inr (fun e => ?_)), h.fnd.below hlow, h.gs.below hlow, h.lg, hn, hl⟩, hlow, fun i hi h1 h2 _ => hg.block i hi (fun e => by cases e; omega), fun _ h => .inl h⟩
  · unfold updK Kt.put
    split <;> rfl
  · unfold Kt.put
    by_cases e : u = c <;> simp [e, hk]
  · have := (h.row.lt _ e).1; omega
/-- One more is done. -/
theorem At.app (h : At mv n₀ G K W v seen l n (β + 1)) {x : Iv} (hx : G x.it.code = some x) {tmp : Obj} {w1 : World} {v' : Value} (hown : w1.ownsRow (n₀ + 5) 32 4 v' (l.length + 1) (icells l ++ encI x)) (hg : (W.alloc tmp).grownBy w1 v.ownBlock)
    (hnew : ∀ b, v'.ownBlock = some b → v.ownBlock = some b ∨ (W.alloc tmp).heap.size ≤ b) :
    Boxed w1 (n₀ + 1) 22 v ∧ At mv n₀ G K (w1.setCell ⟨n₀ + 1, 0, none⟩ v') v' seen (l ++ [x]) n β ∧ Fr n₀ W (w1.setCell ⟨n₀ + 1, 0, none⟩ v') v v' := by
  have hz := h.size
  have hne : ∀ {B : Nat}, B < n₀ + 5 → some B ≠ v.ownBlock := fun hB e => by have := (h.row.lt _ e.symm).1; omega
  have hsz := hg.size
  simp only [World.size_alloc] at hsz hnew
  have hlow1 : Below n₀ W w1 := ((Below.refl n₀ W).alloc (by omega) tmp).grown hg (by simp only [World.size_alloc]; omega) (fun j hj => by have := (h.row.lt j hj).1; omega)
  have hlow : Below n₀ W (w1.setCell ⟨n₀ + 1, 0, none⟩ v') := hlow1.setCell (p := ⟨n₀ + 1, 0, none⟩) (by show n₀ ≤ n₀ + 1; omega) v'
  have hset : ∀ i, i ≠ n₀ + 1 → (w1.setCell ⟨n₀ + 1, 0, none⟩ v').heap[i]? = w1.heap[i]? := fun i hi => Below.heap_setCell w1 ⟨n₀ + 1, 0, none⟩ v' i (fun e => hi e)
  have hcl : Boxed w1 (n₀ + 1) 22 v := (h.cl.alloc tmp).kept hg (hne (by omega))
  refine ⟨hcl, ⟨?_, hcl.set v', ?_, ?_, ?_, ?_, h.fnd.below hlow, h.gs.below hlow, ?_, h.nk, ?_⟩, hlow, ?_, ?_⟩
  · exact (hset _ (by omega)).trans ((h.cf.alloc tmp).kept hg (hne (by omega)))
  · exact ((h.sm.alloc tmp).kept hg (hne (by omega))).at_block (hset _ (by omega))
  · exact (hset _ (by omega)).trans ((h.cs.alloc tmp).kept hg (hne (by omega)))
  · exact (hset _ (by omega)).trans ((h.ce.alloc tmp).kept hg (hne (by omega)))
  · have h1 := hown.kept (grownBy_setCell' w1 (n₀ + 1) v') (.inr (fun e => by have := (hown.lt _ e).1; omega))
    rw [icells_append]
    simpa [icells] using h1
  · intro y hy
    rcases List.mem_append.1 hy with hy | hy
    · exact h.lg y hy
    · simp at hy; subst hy; exact hx
  · have := h.lb; simp only [List.length_append, List.length_singleton]; omega
  · intro i hi h1 h2 h3
    refine (hset i h1).trans ((hg.block i (by simp only [World.size_alloc]; omega) (fun e => h3 e.symm)).trans ?_)
    exact Below.heap_alloc W tmp i hi
  · intro b hb
    rcases hnew b hb with h1 | h1
    · exact .inl h1
    · exact .inr (by omega)
end
/-- What going through one answers. -/
def EnterTo (mv : Value) (n₀ : Nat) (G : List UInt8 → Option Iv) (K : List (List UInt8)) (W : World) (v : Value) (seen : List UInt8 → Nat) (l : List Iv) (β : Nat) (c : List UInt8) (e : Ending) (W' : World) : Prop :=
  (e = .returned (.bool true) ∧ ∃ v' seen' l' n', At mv n₀ G K W' v' seen' l' n' β ∧ Went (fdOf G) seen (l.map (·.it)) c seen' (l'.map (·.it)) ∧ Fr n₀ W W' v v') ∨
  (e = .returned (.bool false) ∧ Round (fdOf G) ∧ Below n₀ W W')
end Kt
end Go.Proofs.Ytkdcpnbfeagggaa
end
