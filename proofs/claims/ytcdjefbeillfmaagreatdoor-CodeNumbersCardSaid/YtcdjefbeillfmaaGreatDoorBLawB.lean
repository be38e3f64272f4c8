/- The law CodeBytes; the walk. -/
import Derived.Test.YtcdjefbeillfmaaGreatDoorCAwake
import Derived.Test.YtcdjefbeillfmaaGreatDoorBApart
import Derived.Test.YtcdjefbeillfmaaGreatDoorBGetR
import Derived.Deep.DeepCutAuto
import Derived.Deep.RegionWith
namespace Go.Proofs.YtcdjefbeillfmaaGreatDoor
open Go.ChangeShapes Go.WideShapes Go.ChangeAt Go.RowKit Go.Shelf Go.Sort
set_option linter.unusedVariables false
set_option maxRecDepth 100000

theorem below_overB {w w1 w2 : World} {g : Nat} (h : Go.RowKit.Below w.heap.size w w1) (hg : w1.grownBy w2 (some g)) (hb : w.heap.size ≤ g) : Go.RowKit.Below w.heap.size w w2 :=
  h.grown hg h.size (fun k hk => by cases hk; exact hb)
/-- Bytes that were lent, with their marks. -/
def LentAt (w : World) (g : Nat) (l : List UInt8) : Prop := w.ownsRow g 5 1 (.slice (some ⟨g, 0, none⟩) (l.length + 12) (l.length + 12)) (l.length + 12) (bcells l ++ mcells 1 12)
theorem LentAt.row {w : World} {g : Nat} {l : List UInt8} (h : LentAt w g l) : w.ownsRow g 5 1 (.slice (some ⟨g, 0, none⟩) (l.length + 12) (l.length + 12)) (l.length + 12) (bcells l ++ mcells 1 12) := h
theorem LentAt.still {w w' : World} {g : Nat} {l : List UInt8} (h : LentAt w g l) (hb : w.grownBy w' none) : LentAt w' g l := World.ownsRow.kept h hb (.inr (by simp [Value.ownBlock]))
theorem LentAt.block {w : World} {g : Nat} {l : List UInt8} (h : LentAt w g l) : g < w.heap.size := (World.ownsRow.lt h g rfl).2
theorem LentAt.lies {w : World} {g B : Nat} {l : List UInt8} (h : LentAt w g l) (hB : g < B) : Lies w B (some ⟨g, 0, none⟩) (bcells l ++ mcells 1 12) := fun _ =>
  ⟨⟨g, 0, none⟩, rfl, hB, fun j u hj => by
    rw [addr0]
    have hlen : j < (bcells l ++ mcells 1 12).length := (List.getElem?_eq_some_iff.mp hj).1
    have h1 := h.1
    exact (World.ownsRow.cellAt h j (by omega)).trans hj⟩
theorem LentAt.bsl {w : World} {g : Nat} {l : List UInt8} (h : LentAt w g l) : BSl w w.heap.size (.slice (some ⟨g, 0, none⟩) l.length (l.length + 12)) l := by
  have h1 := own_prefix (n := l.length) (m := 12) h
  rw [Nat.mul_one, List.take_append_of_le_length (by rw [bcells_len]; omega), List.take_of_length_le (by rw [bcells_len]; omega)] at h1
  exact BSl.own h1

def pairV (a b : Value) : Nat → Value := fun j => if j = 0 then a else b
theorem pair_new (w : World) (a b : Value) : (w.alloc (.cells #[a, b] 22)).ownsRow w.heap.size 22 1 (.slice (some ⟨w.heap.size, 0, none⟩) 2 2) 2 (listOf 2 (pairV a b)) :=
  ⟨rfl, .inr ⟨w.heap.size, 2, _, rfl, Nat.le_refl _, heap_alloc_new w _, Nat.le_refl _, by decide, rfl, rfl⟩⟩
theorem apart2 {W : World} {v1 v2 : Value} {n b1 b2 B0 : Nat} {xs : List Value} (g : Nat) (hg : W.heap.size = g) (h1 : W.ownsRow b1 5 1 v1 n xs) (h2 : W.ownsRow b2 5 1 v2 n xs) (hlt : ∀ b, v1.ownBlock = some b → b < b2) (hB1 : B0 ≤ b1) (hB2 : B0 ≤ b2) (hBW : B0 ≤ W.heap.size) (hn : n ≤ 1048576) :
    Calls Tryz.prog 11 #[.slice (some ⟨g, 0, none⟩) 2 2] (W.alloc (.cells #[v1, v2] 22)) fun e w' => e = .returned (.bool true) ∧ Go.RowKit.Below B0 W w' := by
  subst hg
  refine (apartb_any 2 W.heap.size 2 W.heap.size B0 B0 (pairV v1 v2) (fun _ => n) (fun _ => xs) _ (by omega) (by omega) (fun _ _ => hn) (pair_new W v1 v2) (fun j hj => ?_) (fun i j hi hj hne b hb => ?_) (Nat.le_refl _) (by simp only [World.size_alloc]; omega)).mono ?_
  · match j, hj with
    | 0, _ => exact (own_base h1 hB1).alloc _
    | 1, _ => exact (own_base h2 hB2).alloc _
  · match i, j, hi, hj, hne, hb with
    | 0, 1, _, _, _, hb => exact fun hb' => by have h3 := hlt b hb; have h4 := (h2.lt b hb').1; omega
    | 1, 0, _, _, _, hb => exact fun hb' => by have h3 := hlt b hb'; have h4 := (h2.lt b hb).1; omega
    | 0, 0, _, _, hne, _ => exact absurd rfl hne
    | 1, 1, _, _, hne, _ => exact absurd rfl hne
  · rintro e w' ⟨he, hb⟩
    exact ⟨he, ((Below.refl _ W).alloc hBW _).trans hb⟩

theorem getS_len (l : List UInt8) : (getS l).length ≤ 255 := by
  unfold getS
  cases h : getL l with
  | none => simp
  | some t =>
    cases l with
    | nil => cases h
    | cons c r =>
      simp only [getL] at h
      split at h
      · injection h with h
        subst h
        have := c.toNat_lt
        simp only [Option.getD_some, List.length_take]
        omega
      · cases h

set_option maxHeartbeats 4000000 in
theorem bytes_any (v : Value) (l : List UInt8) (w : World) (hv : Vars w) (hl : BSl w w.heap.size v l) (hll : l.length ≤ 140737488355327) :
    Calls Tryz.prog 3 #[v] w fun e w' => e = .returned (.bool true) ∧ Below w.heap.size w w' := by
  have HV := Lib.hid hv
  obtain ⟨A, c, rfl, hc1, hc2, hcz, hli⟩ := id hl
  have HL := Lib.hid hl
  clear hv hl hcz hli
  by_cases hlong : 100000 < l.length
  · go_enter Tryz.func3, Tryz.ntmps3
    go_wp2_with fail
    refine (awake_any _ HV.out).mono ?_
    rintro e w1 ⟨rfl, h1⟩
    go_wp2_with fail
    go_ret
    exact ⟨rfl, h1⟩
  · obtain ⟨S, hS⟩ : ∃ S : ByteArray, ⟨(getS l).toArray⟩ = S := ⟨_, rfl⟩
    obtain ⟨N, hN⟩ : ∃ N, getN l = N := ⟨_, rfl⟩
    obtain ⟨K, hK⟩ : ∃ K, getB l = K := ⟨_, rfl⟩
    have HG : Hid (∀ v B w, BSl w B v l → B ≤ w.heap.size → Calls Tryz.prog 7 #[v] w fun e w' => e = .returned (.tuple #[.string S, .int .i64 N, .bool K]) ∧ Below w.heap.size w w') := Lib.hid (fun v B w h hB => (get_any v l B w h hB (by omega)).mono fun e w' h => by rw [← hS, ← hN, ← hK]; exact h)
    have HR : Hid (∀ v B w, BSl w B v l → B ≤ w.heap.size → Calls Tryz.prog 10 #[v] w fun e w' => e = .returned (.tuple #[.string S, .int .i64 N, .bool K]) ∧ w = w') := Lib.hid (fun v B w h hB => (rget_any v l B w h hB (by omega)).mono fun e w' h => by rw [← hS, ← hN, ← hK]; exact h)
    have HP : Hid (∀ w, Calls Tryz.prog 12 #[.string S] w (Bytes (putL S.data.toList) w)) := Lib.hid (fun w => put_any S w)
    have hpl : (putL S.data.toList).length ≤ 256 := by
      have h := getS_len l
      have e1 : S.data.toList = getS l := by rw [← hS]
      rw [e1]
      unfold putL
      split
      · rw [List.length_cons]; omega
      · simp
    clear hS hN hK
    go_enter Tryz.func3, Tryz.ntmps3
    go_wp2_with (first
      | (go_at_call 6; ((with_reducible refine (lentb_any (.slice A l.length c) l w.heap.size _ HL.out (Nat.le_refl _) (by omega)).mono ?_); rintro e w1 ⟨rfl, hbx, hox⟩; have hb1 : Hid (Below w.heap.size w w1) := Lib.hid hbx; have X1 : Hid (LentAt w1 w.heap.size l) := Lib.hid hox; clear hbx hox))
      | (go_at_call 7; ((with_reducible refine (HG.out _ _ _ X1.out.bsl (Nat.le_refl _)).mono ?_); rintro e w2 ⟨rfl, hbx⟩; have hb2 : Hid (Below w.heap.size w w2) := Lib.hid (hb1.out.trans (hbx.mono hb1.out.size)); have X2 : Hid (LentAt w2 w.heap.size l) := Lib.hid (X1.out.still (below_none hbx)); clear hbx))
      | (go_at_call 8; ((with_reducible refine (keptb_any (.slice A l.length c) l w2.heap.size w.heap.size _ ((HL.out.below hb2.out).mono hb2.out.size) (X2.out.lies X2.out.block) (Nat.le_refl _) (by omega)).mono ?_); rintro e w3 ⟨rfl, hbx⟩; have hb3 : Hid (Below w.heap.size w w3) := Lib.hid (hb2.out.trans (hbx.mono hb2.out.size)); have X3 : Hid (LentAt w3 w.heap.size l) := Lib.hid (X2.out.still (below_none hbx)); clear hbx))
      | (go_at_call 9; ((with_reducible refine (overb_any l.length w.heap.size w.heap.size _ _ X3.out.row (by omega)).mono ?_); rintro e w4 ⟨rfl, hbx⟩; have hb4 : Hid (Below w.heap.size w w4) := Lib.hid (below_overB hb3.out hbx (Nat.le_refl _)); clear hbx))
      | (go_at_call 10; ((with_reducible refine (HR.out _ _ _ (HL.out.below hb4.out) hb4.out.size).mono ?_); rintro e w5 ⟨rfl, rfl⟩)))
    obtain ⟨R, hR⟩ : ∃ R, putL S.data.toList = R := ⟨_, rfl⟩
    rw [hR] at HP hpl
    clear hR HG HR hb1 hb2 hb3 X1 X2 X3
    refine (HP.out _).mono ?_
    rintro e w6 ⟨v6, rfl, hrow6, hb6⟩
    have h6 := hb4.out.trans (hb6.mono hb4.out.size)
    obtain ⟨P6, p6, rfl, q1, q2, q3⟩ := own_form hrow6
    clear q1 q2 q3
    have L6 := Lib.hid hrow6
    have B6 := Lib.hid h6
    clear hrow6 hb6 h6
    go_wp2_with fail
    refine (HP.out _).mono ?_
    rintro e w7 ⟨v7, rfl, hrow7, hb7⟩
    have h7 := B6.out.trans (hb7.mono B6.out.size)
    obtain ⟨P7, p7, rfl, q1, q2, q3⟩ := own_form hrow7
    clear q1 q2 q3
    have L7 := Lib.hid hrow7
    have M7 := Lib.hid (L6.out.kept (below_none hb7) (by cases (Value.slice P6 R.length p6).ownBlock <;> simp))
    have T7 : Hid (∀ b, (Value.slice P6 R.length p6).ownBlock = some b → b < w6.heap.size) := Lib.hid (fun b hb => (L6.out.lt b hb).2)
    have B7 := Lib.hid h7
    clear hrow7 hb7 h7 
    go_wp2_with (first
      | (go_at_call 11; go_loud ((with_reducible refine (apart2 (B0 := w.heap.size) _ rfl M7.out L7.out T7.out hb4.out.size B6.out.size B7.out.size (by omega)).mono ?_); rintro e w8 ⟨rfl, hbx⟩; have B8 := Lib.hid (B7.out.trans hbx); clear hbx))
      | (go_at_call 5; go_loud ((with_reducible refine (awake_any _ (HV.out.below B8.out)).mono ?_); rintro e w9 ⟨rfl, hbx⟩; have B9 := Lib.hid (B8.out.trans (hbx.mono B8.out.size)); clear hbx)))
    go_ret
    exact ⟨rfl, B9.out⟩
end Go.Proofs.YtcdjefbeillfmaaGreatDoor
