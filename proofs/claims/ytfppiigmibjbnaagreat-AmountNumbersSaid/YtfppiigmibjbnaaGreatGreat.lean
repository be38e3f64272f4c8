/- storemanlaw02.great: whether there are more parts than are gone through. -/
import Derived.Test.YtfppiigmibjbnaaGreatAwake
namespace Go.Proofs.YtfppiigmibjbnaaGreat
open Go.ChangeShapes Go.WideShapes Go.ChangeAt Go.RowKit Go.Maps
set_option linter.unusedVariables false

/-- Whether there are more parts than are gone through: if not, they are few. -/
def Few (ls : List (List Pt)) (w : World) (e : Ending) (w' : World) : Prop := ∃ b : Bool, e = .returned (.bool b) ∧ w = w' ∧ (b = false → ls.flatten.length ≤ 300 ∧ ls.length ≤ 300)

set_option maxHeartbeats 2000000 in
theorem great_any (A : Option Addr) (c : Nat) (ls : List (List Pt)) (w : World) (hr : PRows w w.heap.size A ls) (hs : Sized ls.flatten) (hn : ls.length ≤ 1099511627776) (hlens : ∀ l ∈ ls, l.length ≤ 140737488355328) :
    Calls Tryz.prog 5 #[.slice A ls.length c] w (Few ls w) := by
  have HS := Lib.hid hs
  have HLS := Lib.hid hlens
  clear hs hlens
  go_enter Tryz.func5, Tryz.ntmps5
  go_wp2
  go_loop [3, 4, 5] (fun t i u => ∃ (k : Nat) (n : Int), k ≤ ls.length ∧ i = .int .i64 k ∧ t = .int .i64 n ∧ 0 ≤ n ∧ n ≤ 4611686018427387904 ∧ ((upTo ls k).length : Int) ≤ n) (fun _ i _ => ls.length - (intOf i).toNat)
  case atStart => exact ⟨0, 0, Nat.zero_le _, rfl, rfl, by omega, by omega, by simp [upTo]⟩
  case round =>
    obtain ⟨k, n, hk, rfl, rfl, hn0, hn1, hnu⟩ := hrel
    by_cases hlt : k < ls.length
    · by_cases hmo : n ≤ 300
      · obtain ⟨l, hl⟩ : ∃ l, ls[k]? = some l := ⟨_, List.getElem?_eq_getElem hlt⟩
        obtain ⟨ad, Ai, ci, rfl, hab, hcell, hci, hli⟩ := hr.get hl
        have hll : l.length ≤ 140737488355328 := HLS.out l (List.mem_of_getElem? hl)
        have hsl : Sized l := HS.out.sub (fun p hp => List.mem_flatten.2 ⟨l, List.mem_of_getElem? hl, hp⟩)
        have hup : (upTo ls (k + 1)).length = (upTo ls k).length + l.length := by rw [upTo_succ hl, List.length_append]
        have HSL := Lib.hid hsl
        have HUP := Lib.hid hup
        clear hl hsl hup
        have hd1 : decide (k < ls.length) = true := decide_eq_true hlt
        have hd2 : decide (n ≤ 300) = true := decide_eq_true hmo
        go_wp2
        clear hd1 hd2
        go_loop [3, 5] (fun t u => ∃ (j : Nat) (m : Int), j ≤ l.length ∧ u = .int .i64 j ∧ t = .int .i64 m ∧ 0 ≤ m ∧ m ≤ 4611686018427387904 ∧ ((upTo ls k).length : Int) + (l.length : Int) ≤ m) (fun _ u => l.length - (intOf u).toNat)
        case atStart => exact ⟨0, n + l.length, Nat.zero_le _, rfl, rfl, by omega, by omega, by omega⟩
        case round =>
          obtain ⟨j, m, hj, rfl, rfl, hm0, hm1, hmu⟩ := hrel
          by_cases hjl : j < l.length
          · by_cases hmm : m ≤ 300
            · obtain ⟨p, hp⟩ : ∃ p, l[j]? = some p := ⟨_, List.getElem?_eq_getElem hjl⟩
              obtain ⟨ap, rfl, hapb, hc0⟩ := hli.get (pcells_item l j p hp)
              have hpl := (HSL.out p (List.mem_of_getElem? hp)).1
              unfold maxLen at hpl
              have HP := Lib.hid hp
              clear hp
              have hd1 : decide (j < l.length) = true := decide_eq_true hjl
              have hd2 : decide (m ≤ 300) = true := decide_eq_true hmm
              go_wp2
              go_round
              case rel => exact ⟨j + 1, m + (p.1.length : Int) / 20, by omega, by go_num, rfl, by omega, by omega, by omega⟩
              case measure => simp [intOf]; omega
            · have hd1 : decide (j < l.length) = true := decide_eq_true hjl
              have hd2 : decide (m ≤ 300) = false := decide_eq_false hmm
              go_wp2
              go_round
              case rel => exact ⟨k + 1, m, by omega, by go_num, rfl, hm0, hm1, by have := HUP.out; omega⟩
              case measure => simp [intOf]; omega
          · have hd1 : decide (j < l.length) = false := decide_eq_false hjl
            go_wp2
            go_round
            case rel => exact ⟨k + 1, m, by omega, by go_num, rfl, hm0, hm1, by have := HUP.out; omega⟩
            case measure => simp [intOf]; omega
      · have hd1 : decide (k < ls.length) = true := decide_eq_true hlt
        have hd2 : decide (n ≤ 300) = false := decide_eq_false hmo
        have hd3 : decide (300 < n) = true := decide_eq_true (by omega)
        go_wp2
        go_ret
        exact ⟨true, rfl, rfl, fun h => by cases h⟩
    · obtain rfl : k = ls.length := by omega
      rw [upTo_all] at hnu
      by_cases hmo : n ≤ 300
      · have hd3 : decide (300 < n) = false := decide_eq_false (by omega)
        by_cases hls : ls.length ≤ 300
        · have hd4 : decide ((300 : Int) < (ls.length : Int)) = false := decide_eq_false (by omega)
          go_wp2
          go_ret
          exact ⟨false, rfl, rfl, fun _ => ⟨by omega, by omega⟩⟩
        · have hd4 : decide ((300 : Int) < (ls.length : Int)) = true := decide_eq_true (by omega)
          go_wp2
          go_ret
          exact ⟨true, rfl, rfl, fun h => by cases h⟩
      · have hd3 : decide (300 < n) = true := decide_eq_true (by omega)
        go_wp2
        go_ret
        exact ⟨true, rfl, rfl, fun h => by cases h⟩

theorem great_n {A : Option Addr} {c n : Nat} {ls : List (List Pt)} {w : World} (hn : ls.length = n) (hr : PRows w w.heap.size A ls) (hs : Sized ls.flatten) (hl : ls.length ≤ 1099511627776) (hlens : ∀ l ∈ ls, l.length ≤ 140737488355328) :
    Calls Tryz.prog 5 #[.slice A n c] w (Few ls w) := by
  subst hn
  exact great_any A c ls w hr hs hl hlens
end Go.Proofs.YtfppiigmibjbnaaGreat
