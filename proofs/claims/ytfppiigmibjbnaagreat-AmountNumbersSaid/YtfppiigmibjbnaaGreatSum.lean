/- Sums of lists of numbers: amount.Sum and the reference's. -/
import Derived.Test.YtfppiigmibjbnaaGreatAwake
namespace Go.Proofs.YtfppiigmibjbnaaGreat
open Go.ChangeShapes Go.WideShapes Go.ChangeAt Go.RowKit Go.Maps
set_option linter.unusedVariables false

def sumFrom : Int → List Int → Option Int
  | s, [] => some s
  | s, n :: l => if addB s n = true then sumFrom (s + n) l else none
theorem sumFrom_app : ∀ (s : Int) (l m : List Int), sumFrom s (l ++ m) = (sumFrom s l).bind fun t => sumFrom t m
  | s, [], m => rfl
  | s, n :: l, m => by
    simp only [List.cons_append, sumFrom]
    split
    · exact sumFrom_app _ l m
    · rfl
def sumV (l : List Int) : Int := (sumFrom 0 l).getD 0
def sumB (l : List Int) : Bool := (sumFrom 0 l).isSome
theorem sum_yes {l : List Int} {s : Int} (h : sumFrom 0 l = some s) : sumV l = s ∧ sumB l = true := by simp [sumV, sumB, h]
theorem sum_no {l : List Int} (h : sumFrom 0 l = none) : sumV l = 0 ∧ sumB l = false := by simp [sumV, sumB, h]
theorem sum_step {l : List Int} {k : Nat} {s n : Int} (h : sumFrom 0 (l.take k) = some s) (hn : l[k]? = some n) (ha : addB s n = true) : sumFrom 0 (l.take (k + 1)) = some (s + n) := by
  rw [List.take_add_one, hn, sumFrom_app, h]
  simp [sumFrom, ha]
theorem sum_stop {l : List Int} {k : Nat} {s n : Int} (h : sumFrom 0 (l.take k) = some s) (hn : l[k]? = some n) (ha : addB s n = false) : sumFrom 0 l = none := by
  have hk := List.getElem?_eq_some_iff.1 hn
  have e : l = l.take k ++ n :: l.drop (k + 1) := by
    conv => lhs; rw [← List.take_append_drop k l, List.drop_eq_getElem_cons hk.1, hk.2]
  rw [e, sumFrom_app, h]
  simp [sumFrom, ha]
theorem addV_yes {a b : Int} (h : addB a b = true) : addV a b = a + b := by unfold addV; rw [if_pos h]

/-- A slice value that reads as numbers. -/
def ISl (w : World) (B : Nat) (v : Value) (l : List Int) : Prop := ∃ A c, v = .slice A l.length c ∧ l.length ≤ c ∧ c ≤ maxLen ∧ (A = none → c = 0) ∧ Lies w B A (l.map (Value.int .i64))
theorem ISl.cell {w : World} {B : Nat} {v : Value} {l : List Int} (h : ISl w B v l) {k : Nat} {n : Int} (hk : l[k]? = some n) : ∃ ad c, v = .slice (some ad) l.length c ∧ ad.block < B ∧ w.cell? (ad.add k) = some (.int .i64 n) := by
  obtain ⟨A, c, rfl, h1, h2, _, hl⟩ := h
  obtain ⟨ad, rfl, hb, hc⟩ := hl.get (j := k) (u := .int .i64 n) (by rw [List.getElem?_map, hk]; rfl)
  exact ⟨ad, c, rfl, hb, hc⟩
theorem ISl.below {w w' : World} {B : Nat} {v : Value} {l : List Int} (h : ISl w B v l) (hb : Below B w w') : ISl w' B v l := by
  obtain ⟨A, c, h1, h2, h3, hz, h4⟩ := h
  exact ⟨A, c, h1, h2, h3, hz, h4.below hb⟩
theorem ISl.mono {w : World} {B B' : Nat} {v : Value} {l : List Int} (h : ISl w B v l) (hB : B ≤ B') : ISl w B' v l := by
  obtain ⟨A, c, h1, h2, h3, hz, h4⟩ := h
  exact ⟨A, c, h1, h2, h3, hz, h4.mono hB⟩

set_option maxHeartbeats 1000000 in
theorem sum_any (v : Value) (l : List Int) (B : Nat) (w : World) (hv : ISl w B v l) (hlen : l.length ≤ 1099511627776) :
    Calls Tryz.prog 17 #[v] w fun e w' => e = .returned (.tuple #[.int .i64 (sumV l), .bool (sumB l)]) ∧ w = w' := by
  obtain ⟨A, c, rfl, _⟩ := id hv
  go_enter Tryz.func17, Tryz.ntmps17
  go_wp2
  go_loop [4, 11] (fun t i => ∃ (k : Nat) (s : Int), k ≤ l.length ∧ i = .int .i64 k ∧ t = .int .i64 s ∧ Hid (sumFrom 0 (l.take k) = some s)) (fun _ i => l.length - (intOf i).toNat)
  case atStart => exact ⟨0, 0, Nat.zero_le _, rfl, rfl, Lib.hid rfl⟩
  case round =>
    obtain ⟨k, s, hk, rfl, rfl, HS⟩ := hrel
    by_cases hlt : k < l.length
    · obtain ⟨n, hn⟩ : ∃ n, l[k]? = some n := ⟨_, List.getElem?_eq_getElem hlt⟩
      obtain ⟨ad, c', hvv, _, hcell⟩ := hv.cell hn
      injection hvv with hA _ hC
      subst hA hC
      have HN := Lib.hid hn
      clear hn
      by_cases ha : addB s n = true
      · have hst := sum_step HS.out HN.out ha
        have hav := addV_yes ha
        have HST := Lib.hid hst
        have hc : Calls Tryz.prog 18 #[.int .i64 s, .int .i64 n] w fun e w' => e = .returned (.tuple #[.int .i64 (s + n), .bool true]) ∧ w = w' := add_ok s n (s + n) w ha rfl
        have HC := hc
        clear hst hav ha hc
        go_wp2_with (go_at_call 18; ((with_reducible refine HC.mono ?_); rintro e w' ⟨rfl, rfl⟩))
        go_round
        case rel => exact ⟨k + 1, s + n, by omega, by go_num, rfl, HST⟩
        case measure => simp [intOf]; omega
      · have ha : addB s n = false := by simpa using ha
        have hst := sum_no (sum_stop HS.out HN.out ha)
        have HST := Lib.hid hst
        have HC := add_no s n w ha
        clear hst ha
        go_wp2_with (go_at_call 18; ((with_reducible refine HC.mono ?_); rintro e w' ⟨rfl, rfl⟩))
        go_ret2
        exact ⟨ret_ib HST.out.1.symm HST.out.2.symm, rfl⟩
    · obtain rfl : k = l.length := by omega
      go_wp2
      go_ret2
      have h := HS.out
      rw [List.take_of_length_le (Nat.le_refl _)] at h
      exact ⟨ret_ib (sum_yes h).1.symm (sum_yes h).2.symm, rfl⟩

theorem radd_ok (a b s : Int) (w : World) (h1 : addB a b = true) (h2 : a + b = s) : Calls Tryz.prog 22 #[.int .i64 a, .int .i64 b] w fun e w' => e = .returned (.tuple #[.int .i64 s, .bool true]) ∧ w = w' := by
  have := radd_any a b w; rw [h1, show addV a b = s by unfold addV; rw [if_pos h1, h2]] at this; exact this
theorem radd_no (a b : Int) (w : World) (h1 : addB a b = false) : Calls Tryz.prog 22 #[.int .i64 a, .int .i64 b] w fun e w' => e = .returned (.tuple #[.int .i64 0, .bool false]) ∧ w = w' := by
  have := radd_any a b w; rw [h1, show addV a b = 0 by unfold addV; rw [if_neg (by simp [h1])]] at this; exact this
set_option maxHeartbeats 1000000 in
theorem rsum_any (v : Value) (l : List Int) (B : Nat) (w : World) (hv : ISl w B v l) (hlen : l.length ≤ 1099511627776) :
    Calls Tryz.prog 28 #[v] w fun e w' => e = .returned (.tuple #[.int .i64 (sumV l), .bool (sumB l)]) ∧ w = w' := by
  obtain ⟨A, c, rfl, _⟩ := id hv
  go_enter Tryz.func28, Tryz.ntmps28
  go_wp2
  go_loop [4, 5] (fun t i => ∃ (k : Nat) (s : Int), k ≤ l.length ∧ i = .int .i64 k ∧ t = .int .i64 s ∧ Hid (sumFrom 0 (l.take k) = some s)) (fun _ i => l.length - (intOf i).toNat)
  case atStart => exact ⟨0, 0, Nat.zero_le _, rfl, rfl, Lib.hid rfl⟩
  case round =>
    obtain ⟨k, s, hk, rfl, rfl, HS⟩ := hrel
    by_cases hlt : k < l.length
    · obtain ⟨n, hn⟩ : ∃ n, l[k]? = some n := ⟨_, List.getElem?_eq_getElem hlt⟩
      obtain ⟨ad, c', hvv, _, hcell⟩ := hv.cell hn
      injection hvv with hA _ hC
      subst hA hC
      have HN := Lib.hid hn
      clear hn
      by_cases ha : addB s n = true
      · have hst := sum_step HS.out HN.out ha
        have hav := addV_yes ha
        have HST := Lib.hid hst
        have hc : Calls Tryz.prog 22 #[.int .i64 s, .int .i64 n] w fun e w' => e = .returned (.tuple #[.int .i64 (s + n), .bool true]) ∧ w = w' := radd_ok s n (s + n) w ha rfl
        have HC := hc
        clear hst hav ha hc
        go_wp2_with (go_at_call 22; ((with_reducible refine HC.mono ?_); rintro e w' ⟨rfl, rfl⟩))
        go_round
        case rel => exact ⟨k + 1, s + n, by omega, by go_num, rfl, HST⟩
        case measure => simp [intOf]; omega
      · have ha : addB s n = false := by simpa using ha
        have hst := sum_no (sum_stop HS.out HN.out ha)
        have HST := Lib.hid hst
        have HC := radd_no s n w ha
        clear hst ha
        go_wp2_with (go_at_call 22; ((with_reducible refine HC.mono ?_); rintro e w' ⟨rfl, rfl⟩))
        go_ret2
        exact ⟨ret_ib HST.out.1.symm HST.out.2.symm, rfl⟩
    · obtain rfl : k = l.length := by omega
      go_wp2
      go_ret2
      have h := HS.out
      rw [List.take_of_length_le (Nat.le_refl _)] at h
      exact ⟨ret_ib (sum_yes h).1.symm (sum_yes h).2.symm, rfl⟩
end Go.Proofs.YtfppiigmibjbnaaGreat
