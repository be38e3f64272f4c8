/- storemankit.SameParts: are two lists of parts the same? -/
import Derived.Test.YtfppiigmibjbnaaGreatJoin
import Derived.Laws.StructEq
import Derived.Deep.QuietTactic
import Derived.BigQuiet
namespace Go.Proofs.YtfppiigmibjbnaaGreat
open Go.ChangeShapes Go.WideShapes Go.ChangeAt Go.RowKit Go.Maps
set_option linter.unusedVariables false

theorem below_draws {B : Nat} {a w : World} (h : Below B a w) (n : Nat) : Below B a (w.drewN n) := ⟨h.os, h.tape, h.output, h.size, h.block⟩

theorem eq_part (p q : Pt) (w : World) : (Op.equalIn 10000 38 (.agg #[encStr p.1, .int .i64 p.2]) (.agg #[encStr q.1, .int .i64 q.2])).run Tryz.prog w = .ok (decide (p = q)) w := by
  have u2 := Tryz.underlying2
  have a2 := Tryz.isAgg2
  have z2 := Tryz.sizeOf2
  have u9 := Tryz.underlying9
  have a9 := Tryz.isAgg9
  have z9 := Tryz.sizeOf9
  have hS : Tryz.prog.underlying 38 = some (.struct (Tryz.prog.fieldsOf 38)) := by kernel_rfl
  have hp : Tryz.prog.stoodInHeld 38 = false := by kernel_rfl
  rw [show (10000 : Nat) = 9999 + 1 from rfl, run_equalIn_agg w 9999 38 _ _ hS hp]
  simp only [Program.fieldsOf, Tryz.underlying38]
  go_simp
  obtain ⟨a, b⟩ := p
  obtain ⟨c, d⟩ := q
  by_cases h1 : a = c <;> by_cases h2 : b = d <;> simp [h1, h2]

theorem neq_part (p q : Pt) (w : World) : (binOp .neq 38 (.agg #[encStr p.1, .int .i64 p.2]) (.agg #[encStr q.1, .int .i64 q.2])).run Tryz.prog w = .ok (.bool (!decide (p = q))) w := by
  rw [run_neq_struct, eq_part]; rfl

/-- The two cells of part k. -/
theorem PSl.cells {w : World} {B : Nat} {v : Value} {l : List Pt} (h : PSl w B v l) {k : Nat} {p : Pt} (hk : l[k]? = some p) :
    ∃ ad c, v = .slice (some ad) l.length c ∧ c ≤ maxLen ∧ ad.block < B ∧ w.cell? (ad.add (k * 2)) = some (encStr p.1) ∧ w.cell? ⟨(ad.add (k * 2)).block, (ad.add (k * 2)).off + 1, none⟩ = some (.int .i64 p.2) := by
  obtain ⟨A, c, rfl, h1, h2, _, hl⟩ := h
  obtain ⟨ad, rfl, hb, hc0⟩ := hl.get (pcells_item l k p hk)
  obtain ⟨ad', ha, _, hc1⟩ := hl.get (pcells_qty l k p hk)
  obtain rfl : ad = ad' := by simpa using ha
  rw [← addr_add] at hc1
  exact ⟨ad, c, rfl, h2, hb, hc0, hc1⟩

def sameB (l m : List Pt) : Bool := decide (l = m)

set_option maxHeartbeats 1000000 in
theorem same_any (l m : List Pt) (v1 v2 : Value) (w : World) (h1 : PSl w w.heap.size v1 l) (h2 : PSl w w.heap.size v2 m) (hl : l.length ≤ 1099511627776) (hm : m.length ≤ 1099511627776) :
    Calls Tryz.prog 12 #[v1, v2] w fun e w' => e = .returned (.bool (sameB l m)) ∧ Below w.heap.size w w' := by
  obtain ⟨A, c, rfl, hc1, hc2, _, hl1⟩ := id h1
  obtain ⟨A', c', rfl, hc1', hc2', _, hl1'⟩ := id h2
  by_cases hlen : l.length = m.length
  · have hn1 : (decide ((l.length : Int) = (m.length : Int))) = true := by simp [hlen]
    have hle1 : l.length ≤ m.length := by omega
    have hle2 : m.length ≤ l.length := by omega
    have hb1 : ((l.length : Int) == (m.length : Int)) = true := by simp [hlen]
    have hb2 : ((l.length : Int) != (m.length : Int)) = false := by simp [hlen]
    have HLEN := Lib.hid hlen
    clear hlen
    go_enter Tryz.func12, Tryz.ntmps12
    go_wp2
    clear hn1 hb1 hb2
    go_loopw [5] (fun i wr => ∃ k : Nat, k ≤ l.length ∧ i = .int .i64 k ∧ Below w.heap.size w wr ∧ l.take k = m.take k) (fun i _ => l.length - (intOf i).toNat)
    case atStart => exact ⟨0, Nat.zero_le _, rfl, Below.refl _ _, rfl⟩
    case round =>
      obtain ⟨k, hk, rfl, hbr, htk⟩ := hrel
      have HTK := Lib.hid htk
      clear htk
      by_cases hlt : k < l.length
      · obtain ⟨p, hp⟩ : ∃ p, l[k]? = some p := ⟨_, List.getElem?_eq_getElem hlt⟩
        obtain ⟨q, hq⟩ : ∃ q, m[k]? = some q := ⟨_, List.getElem?_eq_getElem (by omega)⟩
        obtain ⟨ap, cp, hvp, _, _, hp0, hp1⟩ := (h1.below hbr).cells hp
        obtain ⟨aq, cq, hvq, _, _, hq0, hq1⟩ := (h2.below hbr).cells hq
        injection hvp with hA _ hC
        injection hvq with hA' _ hC'
        subst hA hA' hC hC'
        have HP := Lib.hid hp
        have HQ := Lib.hid hq
        clear hp hq
        have hltm : k < m.length := by omega
        by_cases hpq : p = q
        · have hne : ∀ w, (binOp .neq 38 (.agg #[encStr p.1, .int .i64 p.2]) (.agg #[encStr q.1, .int .i64 q.2])).run Tryz.prog w = .ok (.bool false) w := fun w => by rw [neq_part]; simp [hpq]
          have HPQ := Lib.hid hpq
          clear hpq
          go_wp2
          go_quiet (fail)
          go_wp2
          go_roundw
          case rel => exact ⟨k + 1, by omega, by go_num, below_draws hbr _, by rw [List.take_add_one, List.take_add_one, HTK.out, HP.out, HQ.out, HPQ.out]⟩
          case measure => simp [intOf]; omega
        · have hne : ∀ w, (binOp .neq 38 (.agg #[encStr p.1, .int .i64 p.2]) (.agg #[encStr q.1, .int .i64 q.2])).run Tryz.prog w = .ok (.bool true) w := fun w => by rw [neq_part]; simp [hpq]
          have HPQ := Lib.hid hpq
          clear hpq
          go_wp2
          go_quiet (fail)
          go_wp2
          go_ret
          refine ⟨ret_bool ?_, below_draws hbr _⟩
          symm
          simp only [sameB, decide_eq_false_iff_not]
          intro e
          subst e
          exact HPQ.out (Option.some.inj (HP.out.symm.trans HQ.out))
      · obtain rfl : k = l.length := by omega
        go_wp2
        go_ret
        refine ⟨ret_bool ?_, hbr⟩
        have h := HTK.out
        rw [List.take_of_length_le (Nat.le_refl _), List.take_of_length_le (by omega)] at h
        simp [sameB, h]
  · have hb1 : ((l.length : Int) == (m.length : Int)) = false := by simp; omega
    have hb2 : ((l.length : Int) != (m.length : Int)) = true := by simp; omega
    have HLEN := Lib.hid hlen
    clear hlen
    go_enter Tryz.func12, Tryz.ntmps12
    go_wp2
    go_ret
    refine ⟨ret_bool ?_, Below.refl _ _⟩
    symm
    simp only [sameB, decide_eq_false_iff_not]
    rintro rfl
    exact HLEN.out rfl

theorem same_yes (l : List Pt) (v1 v2 : Value) (w : World) (h1 : PSl w w.heap.size v1 l) (h2 : PSl w w.heap.size v2 l) (hl : l.length ≤ 1099511627776) :
    Calls Tryz.prog 12 #[v1, v2] w fun e w' => e = .returned (.bool true) ∧ Below w.heap.size w w' := by
  refine (same_any l l v1 v2 w h1 h2 hl hl).mono ?_
  rintro e w' ⟨rfl, hb⟩
  exact ⟨ret_bool (by simp [sameB]), hb⟩
end Go.Proofs.YtfppiigmibjbnaaGreat
