/- storemanlaw04.count, great, three; the chapter's example, awake. -/
import Derived.Test.YtdmgnafafafdpaaLSame
namespace Go.Proofs.Ytdmgnafafafdpaa
open Go.ChangeShapes Go.WideShapes Go.ChangeAt Go.RowKit
set_option linter.unusedVariables false

/-- Whether there are more lots than are gone through: if not, they are few. -/
def Few (l : List Lt) (w : World) (e : Ending) (w' : World) : Prop := ∃ b : Bool, e = .returned (.bool b) ∧ w = w' ∧ (b = false → l.length ≤ 400)
set_option maxHeartbeats 1000000 in
theorem great_any (v : Value) (l : List Lt) (w : World) (hv : LSl w w.heap.size v l) (hs : Sized l) (hlen : l.length ≤ 140737488355328) :
    Calls Try.prog 11 #[v] w (Few l w) := by
  obtain ⟨A, c, rfl, hc1, hc2, hcz, hl⟩ := id hv
  have HS := Lib.hid hs
  have HV := Lib.hid hv
  clear hs hv hl
  go_enter Try.func11, Try.ntmps11
  go_wp2
  go_loop [3, 4] (fun t i => ∃ (k : Nat) (n : Int), k ≤ l.length ∧ i = .int .i64 k ∧ t = .int .i64 n ∧ (l.length : Int) ≤ n ∧ n ≤ 4611686018427387904) (fun _ i => l.length - (intOf i).toNat)
  case atStart => exact ⟨0, l.length, Nat.zero_le _, rfl, rfl, by omega, by omega⟩
  case round =>
    obtain ⟨k, n, hk, rfl, rfl, hn0, hn1⟩ := hrel
    by_cases hlt : k < l.length
    · have hd1 : decide (k < l.length) = true := decide_eq_true hlt
      by_cases hmo : n ≤ 400
      · obtain ⟨x, hx⟩ : ∃ x, l[k]? = some x := ⟨_, List.getElem?_eq_getElem hlt⟩
        obtain ⟨ad, rfl, hab, hc0, hc1', _⟩ := HV.out.six hx
        have hxl := (HS.out x (List.mem_of_getElem? hx)).2.2.1
        unfold maxLen at hxl
        have HX := Lib.hid hx
        clear hx
        have hd2 : decide (n ≤ 400) = true := decide_eq_true hmo
        go_wp2
        go_round
        case rel => exact ⟨k + 1, n + (x.item.length : Int) / 50, by omega, by go_num, rfl, by omega, by omega⟩
        case measure => simp [intOf]; omega
      · have hd2 : decide (n ≤ 400) = false := decide_eq_false hmo
        have hd3 : decide (400 < n) = true := decide_eq_true (by omega)
        go_wp2
        go_ret
        exact ⟨true, rfl, rfl, fun h => by cases h⟩
    · obtain rfl : k = l.length := by omega
      by_cases hmo : n ≤ 400
      · have hd3 : decide (400 < n) = false := decide_eq_false (by omega)
        go_wp2
        go_ret
        exact ⟨false, rfl, rfl, fun _ => by omega⟩
      · have hd3 : decide (400 < n) = true := decide_eq_true (by omega)
        go_wp2
        go_ret
        exact ⟨true, rfl, rfl, fun h => by cases h⟩

def exL : List Lt := [⟨1, [65], 0, 9, 5, true⟩, ⟨2, [65], 3, 6, 4, false⟩, ⟨3, [66], 0, 6, 2, true⟩]
def exS : List Lt := [⟨2, [65], 3, 6, 4, false⟩, ⟨3, [66], 0, 6, 2, true⟩, ⟨1, [65], 0, 9, 5, true⟩]
abbrev exObj : Obj := .cells #[.int .i64 1, .string ⟨#[65]⟩, .int .i64 0, .int .i64 9, .int .i64 5, .bool true, .int .i64 2, .string ⟨#[65]⟩, .int .i64 3, .int .i64 6, .int .i64 4, .bool false, .int .i64 3, .string ⟨#[66]⟩, .int .i64 0, .int .i64 6, .int .i64 2, .bool true] 25
theorem three_any (w : World) : Calls Try.prog 24 #[] w fun e w' => e = .returned (.slice (some ⟨w.heap.size, 0, none⟩) 3 3) ∧ w.alloc exObj = w' := by
  go_enter Try.func24, Try.ntmps24
  go_wp2
  go_ret
  exact ⟨rfl, rfl⟩
theorem ex_lsl (w : World) : LSl (w.alloc exObj) (w.heap.size + 1) (.slice (some ⟨w.heap.size, 0, none⟩) 3 3) exL :=
  ⟨_, 3, rfl, Nat.le_refl _, by simp [maxLen], fun h => (by cases h), Lies.fresh w _ 25 _ rfl⟩
theorem ex_at (w : World) : LSl (w.alloc exObj) (w.alloc exObj).heap.size (.slice (some ⟨w.heap.size, 0, none⟩) 3 3) exL := (ex_lsl w).mono (by simp)
theorem ex_stab : Stab exL exS := by
  refine ⟨[(⟨2, [65], 3, 6, 4, false⟩, 1), (⟨3, [66], 0, 6, 2, true⟩, 2), (⟨1, [65], 0, 9, 5, true⟩, 0)], rfl, ?_, ?_⟩
  · decide
  · decide

theorem sort_ex (w : World) : Calls Try.prog 12 #[.slice (some ⟨w.heap.size, 0, none⟩) 3 3] (w.alloc exObj) fun e w' => ∃ g cap, e = .returned (.slice (some ⟨g, 0, none⟩) 3 cap) ∧ LSl w' w'.heap.size (.slice (some ⟨g, 0, none⟩) 3 cap) exS ∧ Below w.heap.size w w' := by
  refine (sort_any _ exL _ (by decide) (ex_at w)).mono ?_
  rintro e w' ⟨v, out, rfl, hs, ho, hb⟩
  obtain rfl := hs.unique ex_stab
  rcases below_own (W := w') ho with ⟨_, h0⟩ | ⟨g, cap, rfl⟩
  · cases h0
  · exact ⟨g, cap, rfl, LSl.own ho, below_alloc2 _ hb⟩
theorem sweep_ex (w : World) : Calls Try.prog 15 #[.slice (some ⟨w.heap.size, 0, none⟩) 3 3, .int .i64 6] (w.alloc exObj) fun e w' => ∃ A1 c1 g cap, e = .returned (.tuple #[.slice A1 2 c1, .slice (some ⟨g, 0, none⟩) 1 cap]) ∧ w'.cell? ⟨g, 0, none⟩ = some (.int .i64 3) ∧ Below w.heap.size w w' := by
  refine (sweep_any 6 _ exL _ (by decide) (ex_at w)).mono ?_
  rintro e w' ⟨v1, v2, rfl, h1, ⟨m, hm, h2, _⟩, hb⟩
  obtain ⟨A1, c1, rfl, _⟩ := own_form h1
  rcases below_own (W := w') h2 with ⟨_, h0⟩ | ⟨g, cap, rfl⟩
  · cases h0
  · have h := (Lies.own h2).six (k := 0) (x := ⟨3, [66], 0, 6, 2, true⟩) rfl
    obtain ⟨ad, had, _, hc, _⟩ := h
    cases had
    exact ⟨A1, c1, g, cap, rfl, hc, below_alloc2 _ hb⟩
theorem on_ex4 (w : World) : Calls Try.prog 16 #[.slice (some ⟨w.heap.size, 0, none⟩) 3 3, .int .i64 4] (w.alloc exObj) fun e w' => e = .returned (.int .i64 11) ∧ Below w.heap.size w w' := by
  refine (onSum_any 4 _ exL _ (by decide) (ex_at w)).mono ?_
  rintro e w' ⟨rfl, hb⟩
  exact ⟨ret_long (by decide +kernel), below_alloc2 _ hb⟩
theorem on_ex9 (w : World) : Calls Try.prog 16 #[.slice (some ⟨w.heap.size, 0, none⟩) 3 3, .int .i64 9] (w.alloc exObj) fun e w' => e = .returned (.int .i64 0) ∧ Below w.heap.size w w' := by
  refine (onSum_any 9 _ exL _ (by decide) (ex_at w)).mono ?_
  rintro e w' ⟨rfl, hb⟩
  exact ⟨ret_long (by decide +kernel), below_alloc2 _ hb⟩
theorem right_ex (w : World) : Calls Try.prog 6 #[.agg #[.int .i64 2, .string ⟨#[65]⟩, .int .i64 3, .int .i64 6, .int .i64 4, .bool false]] w fun e w' => e = .returned (.bool true) ∧ Below w.heap.size w w' :=
  lright_yes ⟨2, [65], 3, 6, 4, false⟩ w (by decide +kernel)
theorem right_ex0 (w : World) : Calls Try.prog 6 #[.agg #[.int .i64 0, .string ⟨#[]⟩, .int .i64 0, .int .i64 0, .int .i64 0, .bool false]] w fun e w' => e = .returned (.bool false) ∧ Below w.heap.size w w' :=
  lright_no ⟨0, [], 0, 0, 0, false⟩ w (by decide +kernel)
theorem of_ex (g cap : Nat) (w : World) (h : LSl w w.heap.size (.slice (some ⟨g, 0, none⟩) 3 cap) exS) : Calls Try.prog 18 #[.slice (some ⟨g, 0, none⟩) 3 cap, .string ⟨#[66]⟩] w fun e w' => ∃ A c, e = .returned (.slice A 1 c) ∧ Below w.heap.size w w' := by
  refine (ofList_any [66] _ exS w (by decide) h).mono ?_
  rintro e w' ⟨v, rfl, ho, hb⟩
  obtain ⟨A, c, rfl, _⟩ := own_form ho
  exact ⟨A, c, rfl, hb⟩
end Go.Proofs.Ytdmgnafafafdpaa
