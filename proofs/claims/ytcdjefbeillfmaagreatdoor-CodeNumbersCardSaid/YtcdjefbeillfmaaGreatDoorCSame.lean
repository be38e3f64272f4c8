/- The contracts of storemankit.SameBytes, CopyBytes and the reference's Put. -/
import Derived.Test.YtcdjefbeillfmaaGreatDoorCPut
import Derived.Deep.QuietTactic
import Derived.BigQuiet
namespace Go.Proofs.YtcdjefbeillfmaaGreatDoor
open Go.ChangeShapes Go.WideShapes Go.ChangeAt Go.RowKit
set_option linter.unusedVariables false
set_option maxRecDepth 100000

theorem below_draws {B : Nat} {a w : World} (h : Below B a w) (n : Nat) : Below B a (w.drewN n) := h.trans ⟨rfl, rfl, rfl, Nat.le_refl _, fun _ _ => rfl⟩
theorem u8_eq {a b : UInt8} (h : ((a.toNat : Int)) = (b.toNat : Int)) : a = b := UInt8.toNat_inj.1 (by omega)
theorem take_next {l m : List UInt8} {k : Nat} {c : UInt8} (h : l.take k = m.take k) (h1 : l[k]? = some c) (h2 : m[k]? = some c) : l.take (k + 1) = m.take (k + 1) := by
  rw [List.take_add_one, List.take_add_one, h, h1, h2]

set_option maxHeartbeats 1000000 in
theorem same_any (va vb : Value) (la lb : List UInt8) (B : Nat) (w : World) (ha : BSl w B va la) (hb : BSl w B vb lb) (hB : B ≤ w.heap.size) (hla : la.length ≤ 1099511627776) (hlb : lb.length ≤ 1099511627776) :
    Calls Tryz.prog 19 #[va, vb] w fun e w' => e = .returned (.bool (decide (la = lb))) ∧ Below w.heap.size w w' := by
  obtain ⟨A, c, rfl, _⟩ := id ha
  obtain ⟨A', c', rfl, _⟩ := id hb
  by_cases hl : la.length = lb.length
  · have hd1 : ((la.length : Int) != (lb.length : Int)) = false := by simp [hl]
    have HL := Lib.hid hl
    clear hl
    go_enter Tryz.func19, Tryz.ntmps19
    go_wp2
    go_loopw [5] (fun i wr => ∃ k : Nat, k ≤ la.length ∧ i = .int .i64 k ∧ Below w.heap.size w wr ∧ Hid (la.take k = lb.take k)) (fun i _ => la.length - (intOf i).toNat)
    case atStart => exact ⟨0, Nat.zero_le _, rfl, Below.refl _ _, Lib.hid rfl⟩
    case round =>
      obtain ⟨k, hk, rfl, hbr, HT⟩ := hrel
      by_cases hlt : k < la.length
      · obtain ⟨x, hx⟩ : ∃ x, la[k]? = some x := ⟨_, List.getElem?_eq_getElem hlt⟩
        obtain ⟨y, hy⟩ : ∃ y, lb[k]? = some y := ⟨_, List.getElem?_eq_getElem (by have := HL.out; omega)⟩
        obtain ⟨ad, c1, hv1, _, hc1⟩ := (ha.below (hbr.mono hB)).cell hx
        injection hv1 with e1 _ e2
        subst e1 e2
        obtain ⟨ad', c2, hv2, _, hc2⟩ := (hb.below (hbr.mono hB)).cell hy
        injection hv2 with e1 _ e2
        subst e1 e2
        have hkb : (k : Int) < (lb.length : Int) := by have := HL.out; omega
        by_cases hxy : x = y
        · subst hxy
          have hst := take_next HT.out hx hy
          have HST := Lib.hid hst
          clear hst hx hy
          go_wp2
          go_quiet (fail)
          go_wp2
          go_roundw
          case rel => exact ⟨k + 1, by omega, by go_num, below_draws hbr _, HST⟩
          case measure => simp [intOf]; omega
        · have hne : ((x.toNat : Int) != (y.toNat : Int)) = true := by
            rw [bne_iff_ne]
            exact fun e => hxy (u8_eq e)
          have hdif : decide (la = lb) = false := decide_eq_false (fun e => hxy (by rw [e, hy] at hx; injection hx with hx; exact hx.symm))
          have HD := Lib.hid hdif
          have HXY := Lib.hid hxy
          clear hdif hx hy hxy
          go_wp2
          go_quiet (fail)
          go_wp2
          go_ret
          exact ⟨ret_bool HD.out.symm, below_draws hbr _⟩
      · have hall : decide (la = lb) = true := decide_eq_true (by
          have h1 := HT.out
          rwa [List.take_of_length_le (by omega), List.take_of_length_le (by have := HL.out; omega)] at h1)
        have HA := Lib.hid hall
        clear hall
        go_wp2
        go_ret
        exact ⟨ret_bool HA.out.symm, hbr⟩
  · have hd1 : ((la.length : Int) != (lb.length : Int)) = true := by rw [bne_iff_ne]; omega
    have hdif : decide (la = lb) = false := decide_eq_false (fun e => hl (by rw [e]))
    have HD := Lib.hid hdif
    have HL := Lib.hid hl
    clear hdif hl
    go_enter Tryz.func19, Tryz.ntmps19
    go_wp2
    go_ret
    exact ⟨ret_bool HD.out.symm, Below.refl _ _⟩
end Go.Proofs.YtcdjefbeillfmaaGreatDoor
