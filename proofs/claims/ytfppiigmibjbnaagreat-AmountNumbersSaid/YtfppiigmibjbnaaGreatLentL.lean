/- storemankit.LentLongs, KeptLongs: a list of numbers with marks behind its end, and whether it is still as it was. -/
import Derived.Test.YtfppiigmibjbnaaGreatSum
import Derived.Deep.QuietTactic
import Derived.BigQuiet
namespace Go.Proofs.YtfppiigmibjbnaaGreat
open Go.ChangeShapes Go.WideShapes Go.ChangeAt Go.RowKit Go.Maps
set_option linter.unusedVariables false

theorem infoLong : (Tryz.prog.info? 2).map (fun i => (i.zero, i.size, i.bytes)) = some (some (.int .i64 0), 1, 8) := by kernel_rfl

theorem mark_any (k i : Int) (w : World) (h0 : 0 ≤ k) (h1 : k ≤ 1000000) (h2 : 0 ≤ i) (h3 : i ≤ 1099511627776) :
    Calls Tryz.prog 30 #[.int .i64 k, .int .i64 i] w fun e w' => e = .returned (.int .i64 (1000003 * (k + 7) + i)) ∧ w = w' := by
  go_enter Tryz.func30, Tryz.ntmps30
  go_wp2
  go_ret
  exact ⟨rfl, rfl⟩

def marks (k n : Nat) : List Int := (List.range n).map fun (i : Nat) => 1000003 * ((k : Int) + 7) + (i : Int)
theorem marks_succ (k n : Nat) : marks k (n + 1) = marks k n ++ [1000003 * ((k : Int) + 7) + (n : Int)] := by simp [marks, List.range_succ]
theorem marks_len (k n : Nat) : (marks k n).length = n := by simp [marks]
theorem ints_one (l : List Int) : ∀ u ∈ l.map (Value.int .i64), u.oneCell' = true := by
  intro u hu
  obtain ⟨n, _, rfl⟩ := List.mem_map.1 hu
  rfl
theorem one_new (w : World) (a : Value) (t : TypeId) : ∀ (j : Nat) (u : Value), [a][j]? = some u → (w.alloc (.cells #[a] t)).cell? ((⟨w.heap.size, 0, none⟩ : Addr).add j) = some u := by
  intro j u h
  rw [fresh_cell]
  simpa using h

/-- What is lent: the list, twelve marks behind its end. -/
def LentTo (l : List Int) (w : World) (e : Ending) (w' : World) : Prop :=
  e = .returned (.slice (some ⟨w.heap.size, 0, none⟩) l.length (l.length + 12)) ∧ Below w.heap.size w w' ∧
  w'.ownsRow w.heap.size 2 1 (.slice (some ⟨w.heap.size, 0, none⟩) (l.length + 12) (l.length + 12)) (l.length + 12) ((l ++ marks 1 12).map (Value.int .i64))

set_option maxRecDepth 100000 in
set_option maxHeartbeats 1000000 in
theorem lent_any (v : Value) (l : List Int) (B : Nat) (w : World) (hv : ISl w B v l) (hB : B ≤ w.heap.size) (hlen : l.length ≤ 1048576) :
    Calls Tryz.prog 27 #[v] w (LentTo l w) := by
  obtain ⟨i0, hi, hz0, hz1, hz2⟩ := info_parts infoLong
  obtain ⟨A, c, rfl, hc1, hc2, hcz, hl⟩ := id hv
  have H1 := Lib.hid hi
  have H2 := Lib.hid hz0
  have H3 := Lib.hid hz1
  have H4 := Lib.hid hz2
  clear hi hz0 hz1 hz2
  go_enter Tryz.func27, Tryz.ntmps27
  go_wp2_with (first
    | (at_make; refine wpList_make_own _ rfl _ _ 34 rfl w.heap.size 2 i0 (.int .i64 0) 1 Tryz.underlying34 H1.out H2.out H3.out .i64 .i64 _ (l.length + 12) rfl rfl (by omega) (by rw [H4.out]; omega) (by unfold maxLen; omega) (Nat.le_refl _) ?_; intro w1 hown1 hg1)
    | (at_builtin; refine wpList_append_fits_any _ rfl (.tmp 9) (.tmp 10) 34 rfl w.heap.size 2 i0 1 Tryz.underlying34 H1.out H3.out w.heap.size 0 (l.length + 12) [] rfl hown1 A l.length c (l.map (Value.int .i64)) rfl (by simp) (fun h => ⟨by have := hcz h; omega, hcz h⟩) (fun ad had j u hu => by have h2 := (hl.below ((Below.refl _ _).grown hg1 hB (fun k hk => by cases hk))).get hu; obtain ⟨ad', e1, _, e2⟩ := h2; rw [had] at e1; injection e1 with e1; rw [e1]; exact e2) (ints_one l) (by omega) ?_; intro w2 hown2 hg2))
  have hb2 : Below w.heap.size w w2 := ((Below.refl _ _).grown hg1 (Nat.le_refl _) (fun k hk => by cases hk)).grown hg2 hg1.size (fun k hk => by cases hk; exact Nat.le_refl _)
  have hz : w.heap.size < w2.heap.size := by have := hown2.lt w.heap.size rfl; omega
  clear hown1 hg1 hg2
  simp only [Nat.zero_add, List.nil_append] at hown2
  go_loopw [3, 4] (fun v i wr => ∃ k : Nat, k ≤ 12 ∧ i = .int .i64 k ∧ v = .slice (some ⟨w.heap.size, 0, none⟩) (l.length + k) (l.length + 12) ∧
      wr.ownsRow w.heap.size 2 1 (.slice (some ⟨w.heap.size, 0, none⟩) (l.length + k) (l.length + 12)) (l.length + k) ((l ++ marks 1 k).map (Value.int .i64)) ∧ Below w.heap.size w wr ∧ w.heap.size < wr.heap.size)
    (fun _ i _ => 12 - (intOf i).toNat)
  case atStart => exact ⟨0, by omega, rfl, rfl, by simpa [marks] using hown2, hb2, hz⟩
  case round =>
    obtain ⟨k, hk, rfl, rfl, hrow, hbr, hzr⟩ := hrel
    by_cases hlt : k < 12
    · have hmk : (1000003 * ((1 : Int) + 7) + (k : Int)) = 8000024 + (k : Int) := by omega
      have HMK := Lib.hid hmk
      clear hmk
      go_wp2_with (first
        | (go_at_call 30; ((with_reducible refine (mark_any 1 k _ (by omega) (by omega) (by omega) (by omega)).mono ?_); rintro e w' ⟨rfl, rfl⟩))
        | (at_builtin; refine wpList_append_fits _ rfl (.tmp 16) (.tmp 19) 34 rfl w.heap.size 2 i0 1 Tryz.underlying34 H1.out H3.out w.heap.size (l.length + k) (l.length + 12) _ rfl (hrow.alloc _) ⟨wr.heap.size, 0, none⟩ 1 1 [.int .i64 (8000024 + (k : Int))] rfl rfl (one_new _ _ _) (by simp [Value.oneCell']) (by omega) ?_; intro w3 hown3 hg3))
      have hst : (l ++ marks 1 k).map (Value.int .i64) ++ [.int .i64 (8000024 + (k : Int))] = (l ++ marks 1 (k + 1)).map (Value.int .i64) := by
        rw [marks_succ, ← HMK.out]; simp
      rw [hst] at hown3
      have hb3 : Below w.heap.size w w3 := (hbr.alloc hbr.size _).grown hg3 (by simp only [World.size_alloc]; omega) (fun j hj => by cases hj; exact Nat.le_refl _)
      have hz3 := hg3.size
      simp only [World.size_alloc] at hz3
      have HST := Lib.hid hst
      clear hst
      go_roundw
      case rel => exact ⟨k + 1, by omega, by go_num, rfl, hown3, hb3, by omega⟩
      case measure => simp [intOf]; omega
    · obtain rfl : k = 12 := by omega
      go_wp2
      go_ret
      exact ⟨rfl, hbr, hrow⟩

theorem mark_quiet (k i : Int) (w : World) (h0 : 0 ≤ k) (h1 : k ≤ 1000000) (h2 : 0 ≤ i) (h3 : i ≤ 1099511627776) :
    Calls Tryz.prog 30 #[.int .i64 k, .int .i64 i] w fun e w' => e = .returned (.int .i64 (1000003 * (k + 7) + i)) ∧ w' = w :=
  (mark_any k i w h0 h1 h2 h3).mono fun e w' ⟨he, hw⟩ => ⟨he, hw.symm⟩
theorem marks_get (k n i : Nat) (h : i < n) : (marks k n)[i]? = some (1000003 * ((k : Int) + 7) + (i : Int)) := by simp [marks, h]

theorem addr0 (g k : Nat) : (⟨g, 0, none⟩ : Addr).add k = ⟨g, k, none⟩ := by unfold Addr.add; split <;> simp_all

set_option maxRecDepth 100000 in
set_option maxHeartbeats 1000000 in
theorem kept_any (v : Value) (l : List Int) (B g : Nat) (w : World) (hv : ISl w B v l) (hg : Lies w B (some ⟨g, 0, none⟩) ((l ++ marks 1 12).map (Value.int .i64))) (hB : B ≤ w.heap.size) (hlen : l.length ≤ 1048576) :
    Calls Tryz.prog 29 #[.slice (some ⟨g, 0, none⟩) l.length (l.length + 12), v] w fun e w' => e = .returned (.bool true) ∧ Below w.heap.size w w' := by
  obtain ⟨A, c, rfl, hc1, hc2, hcz, hl⟩ := id hv
  go_enter Tryz.func29, Tryz.ntmps29
  go_wp2
  go_loopw [6] (fun i wr => ∃ k : Nat, k ≤ l.length + 12 ∧ i = .int .i64 k ∧ Below w.heap.size w wr) (fun i _ => l.length + 12 - (intOf i).toNat)
  case atStart => exact ⟨0, Nat.zero_le _, rfl, Below.refl _ _⟩
  case round =>
    obtain ⟨k, hk, rfl, hbr⟩ := hrel
    by_cases hlt : k < l.length
    · obtain ⟨n, hn⟩ : ∃ n, l[k]? = some n := ⟨_, List.getElem?_eq_getElem hlt⟩
      obtain ⟨ad, c', hvv, _, hcell⟩ := (hv.below (hbr.mono hB)).cell hn
      injection hvv with hA _ hC
      subst hA hC
      obtain ⟨ag, hag, _, hcg⟩ := (hg.below (hbr.mono hB)).get (j := k) (u := .int .i64 n) (by rw [List.getElem?_map, List.getElem?_append_left hlt, hn]; rfl)
      injection hag with hag
      subst hag
      have hcg : wr.cell? ⟨g, k, none⟩ = some (.int .i64 n) := by rw [addr0] at hcg; exact hcg
      have HN := Lib.hid hn
      clear hn
      have hd1 : decide (k < l.length) = true := decide_eq_true (by omega)
      have hd2 : decide (l.length ≤ k) = false := decide_eq_false (by omega)
      go_wp2
      go_quiet ((go_at_call 30; exact Calls.quiet_of_same (mark_quiet _ _ _ (by omega) (by omega) (by omega) (by omega))))
      go_wp2
      go_roundw
      case rel => exact ⟨k + 1, by omega, by go_num, below_draws hbr _⟩
      case measure => simp [intOf]; omega
    · by_cases hlt2 : k < l.length + 12
      · obtain ⟨ag, hag, _, hcg⟩ := (hg.below (hbr.mono hB)).get (j := k) (u := .int .i64 (1000003 * ((1 : Int) + 7) + ((k - l.length : Nat) : Int))) (by rw [List.getElem?_map, List.getElem?_append_right (by omega), marks_get 1 12 _ (by omega)]; rfl)
        injection hag with hag
        subst hag
        have hcg : wr.cell? ⟨g, k, none⟩ = some (.int .i64 (8000024 + ((k : Int) - (l.length : Int)))) := by
          rw [addr0] at hcg
          rw [hcg]
          congr 2
          omega
        have hd1 : decide (k < l.length) = false := decide_eq_false (by omega)
        have hd2 : decide (l.length ≤ k) = true := decide_eq_true (by omega)
        have hle0 : 0 ≤ (k : Int) - (l.length : Int) := by omega
        go_wp2
        go_quiet ((go_at_call 30; exact Calls.quiet_of_same (mark_quiet 1 ((k : Int) - (l.length : Int)) _ (by omega) (by omega) (by omega) (by omega))))
        go_wp2
        go_roundw
        case rel => exact ⟨k + 1, by omega, by go_num, below_draws hbr _⟩
        case measure => simp [intOf]; omega
      · obtain rfl : k = l.length + 12 := by omega
        go_wp2
        go_ret
        exact ⟨rfl, hbr⟩
end Go.Proofs.YtfppiigmibjbnaaGreat
