/- storemankit.markByte, LentBytes, KeptBytes, OverBytes: bytes with marks behind their end, whether they are still as they were, both written over. -/
import Derived.Test.YtcdjefbeillfmaaGreatDoorCSame
import Derived.Deep.QuietTactic
import Derived.BigQuiet
namespace Go.Proofs.YtcdjefbeillfmaaGreatDoor
open Go.ChangeShapes Go.WideShapes Go.ChangeAt Go.RowKit
set_option linter.unusedVariables false
set_option maxRecDepth 100000

theorem mark_any (k i : Int) (w : World) (h0 : 0 ≤ k) (h1 : k ≤ 1000000) (h2 : 0 ≤ i) (h3 : i ≤ 1099511627776) :
    Calls Tryz.prog 38 #[.int .i64 k, .int .i64 i] w fun e w' => e = .returned (.int .i64 (1000003 * (k + 7) + i)) ∧ w = w' := by
  go_enter Tryz.func38, Tryz.ntmps38
  go_wp2
  go_ret
  exact ⟨rfl, rfl⟩
/-- The mark of place i in row k. -/
def mbI (k i : Int) : Int := IntKind.u64.wrap ((1000003 * (k + 7) + i) * 11400714819323198485) / 72057594037927936 % 256
theorem markb_any (k i : Int) (w : World) (h0 : 0 ≤ k) (h1 : k ≤ 1000000) (h2 : 0 ≤ i) (h3 : i ≤ 1099511627776) :
    Calls Tryz.prog 20 #[.int .i64 k, .int .i64 i] w fun e w' => e = .returned (.int .u8 (mbI k i)) ∧ w = w' := by
  go_enter Tryz.func20, Tryz.ntmps20
  go_wp2_with (go_at_call 38; ((with_reducible refine (mark_any k i _ h0 h1 h2 h3).mono ?_); rintro e w' ⟨rfl, rfl⟩))
  go_ret
  exact ⟨rfl, rfl⟩
theorem markb_quiet (k i : Int) (w : World) (h0 : 0 ≤ k) (h1 : k ≤ 1000000) (h2 : 0 ≤ i) (h3 : i ≤ 1099511627776) :
    Calls Tryz.prog 20 #[.int .i64 k, .int .i64 i] w fun e w' => e = .returned (.int .u8 (mbI k i)) ∧ w' = w :=
  (markb_any k i w h0 h1 h2 h3).mono fun e w' ⟨he, hw⟩ => ⟨he, hw.symm⟩

/-- The marks of the first n places of row k, as cells. -/
def mcells (k n : Nat) : List Value := (List.range n).map fun (i : Nat) => .int .u8 (mbI (k : Int) (i : Int))
theorem mcells_succ (k n : Nat) : mcells k (n + 1) = mcells k n ++ [.int .u8 (mbI (k : Int) (n : Int))] := by simp [mcells, List.range_succ]
theorem mcells_len (k n : Nat) : (mcells k n).length = n := by simp [mcells]
theorem mcells_get {k n i : Nat} (h : i < n) : (mcells k n)[i]? = some (.int .u8 (mbI (k : Int) (i : Int))) := by simp [mcells, h]
theorem mcells_one (k n : Nat) : ∀ u ∈ mcells k n, u.oneCell' = true := by
  intro u hu
  obtain ⟨i, _, rfl⟩ := List.mem_map.1 hu
  rfl
theorem one_new (w : World) (a : Value) (t : TypeId) : ∀ (j : Nat) (u : Value), [a][j]? = some u → (w.alloc (.cells #[a] t)).cell? ((⟨w.heap.size, 0, none⟩ : Addr).add j) = some u := by
  intro j u h
  rw [addr0, cell_of_row _ _ _ _ _ _ (heap_alloc_new w _)]
  simpa using h

/-- What is lent: the bytes, twelve marks behind their end. -/
def LentB (l : List UInt8) (w : World) (e : Ending) (w' : World) : Prop :=
  e = .returned (.slice (some ⟨w.heap.size, 0, none⟩) l.length (l.length + 12)) ∧ Below w.heap.size w w' ∧
  w'.ownsRow w.heap.size 5 1 (.slice (some ⟨w.heap.size, 0, none⟩) (l.length + 12) (l.length + 12)) (l.length + 12) (bcells l ++ mcells 1 12)

set_option maxHeartbeats 1000000 in
theorem lentb_any (v : Value) (l : List UInt8) (B : Nat) (w : World) (hv : BSl w B v l) (hB : B ≤ w.heap.size) (hlen : l.length ≤ 1048576) :
    Calls Tryz.prog 6 #[v] w (LentB l w) := by
  obtain ⟨i0, hi, hz0, hz1, hz2⟩ := info_parts infoByte
  obtain ⟨A, c, rfl, hc1, hc2, hcz, hl⟩ := id hv
  have H1 := Lib.hid hi
  have H2 := Lib.hid hz0
  have H3 := Lib.hid hz1
  have H4 := Lib.hid hz2
  clear hi hz0 hz1 hz2
  go_enter Tryz.func6, Tryz.ntmps6
  go_wp2_with (first
    | (at_make; refine wpList_make_own _ rfl _ _ 22 rfl w.heap.size 5 i0 (.int .u8 0) 1 Tryz.underlying22 H1.out H2.out H3.out .i64 .i64 _ (l.length + 12) rfl rfl (by omega) (by rw [H4.out]; omega) (by unfold maxLen; omega) (Nat.le_refl _) ?_; intro w1 hown1 hg1)
    | (at_builtin; refine wpList_append_fits_any _ rfl (.tmp 9) (.tmp 10) 22 rfl w.heap.size 5 i0 1 Tryz.underlying22 H1.out H3.out w.heap.size 0 (l.length + 12) [] rfl hown1 A l.length c (bcells l) rfl (by rw [bcells_len, Nat.mul_one]) (fun h => ⟨by have := hcz h; omega, hcz h⟩) (fun ad had j u hu => by have h2 := (hl.below ((Below.refl _ _).grown hg1 hB (fun k hk => by cases hk))).get hu; obtain ⟨ad', e1, _, e2⟩ := h2; rw [had] at e1; injection e1 with e1; rw [e1]; exact e2) (bcells_one l) (by omega) ?_; intro w2 hown2 hg2))
  have hb2 : Below w.heap.size w w2 := ((Below.refl _ _).grown hg1 (Nat.le_refl _) (fun k hk => by cases hk)).grown hg2 hg1.size (fun k hk => by cases hk; exact Nat.le_refl _)
  have hz : w.heap.size < w2.heap.size := by have := hown2.lt w.heap.size rfl; omega
  clear hown1 hg1 hg2
  simp only [Nat.zero_add, List.nil_append] at hown2
  go_loopw [3, 4] (fun v i wr => ∃ k : Nat, k ≤ 12 ∧ i = .int .i64 k ∧ v = .slice (some ⟨w.heap.size, 0, none⟩) (l.length + k) (l.length + 12) ∧
      wr.ownsRow w.heap.size 5 1 (.slice (some ⟨w.heap.size, 0, none⟩) (l.length + k) (l.length + 12)) (l.length + k) (bcells l ++ mcells 1 k) ∧ Below w.heap.size w wr ∧ w.heap.size < wr.heap.size)
    (fun _ i _ => 12 - (intOf i).toNat)
  case atStart => exact ⟨0, by omega, rfl, rfl, by simpa [mcells] using hown2, hb2, hz⟩
  case round =>
    obtain ⟨k, hk, rfl, rfl, hrow, hbr, hzr⟩ := hrel
    by_cases hlt : k < 12
    · go_wp2_with (first
        | (go_at_call 20; ((with_reducible refine (markb_any 1 k _ (by omega) (by omega) (by omega) (by omega)).mono ?_); rintro e w' ⟨rfl, rfl⟩))
        | (at_builtin; refine wpList_append_fits _ rfl (.tmp 16) (.tmp 19) 22 rfl w.heap.size 5 i0 1 Tryz.underlying22 H1.out H3.out w.heap.size (l.length + k) (l.length + 12) _ rfl (hrow.alloc _) ⟨wr.heap.size, 0, none⟩ 1 1 [.int .u8 (mbI 1 (k : Int))] rfl rfl (one_new _ _ _) (by simp [Value.oneCell']) (by omega) ?_; intro w3 hown3 hg3))
      have hst : bcells l ++ mcells 1 k ++ [.int .u8 (mbI 1 (k : Int))] = bcells l ++ mcells 1 (k + 1) := by
        rw [mcells_succ, List.append_assoc]; rfl
      rw [hst] at hown3
      have hb3 : Below w.heap.size w w3 := (hbr.alloc hbr.size _).grown hg3 (by simp only [World.size_alloc]; omega) (fun j hj => by cases hj; exact Nat.le_refl _)
      have hz3 := hg3.size
      simp only [World.size_alloc] at hz3
      have HST := Lib.hid hst
      clear hst
      go_roundw
      case rel => exact ⟨k + 1, by omega, by go_num, rfl, hown3, hb3, by omega⟩
      case measure => simp [intOf]; omega
    · obtain rfl : k = 12 := by omega
      go_wp2
      go_ret
      exact ⟨rfl, hbr, hrow⟩

set_option maxHeartbeats 1000000 in
theorem keptb_any (v : Value) (l : List UInt8) (B g : Nat) (w : World) (hv : BSl w B v l) (hg : Lies w B (some ⟨g, 0, none⟩) (bcells l ++ mcells 1 12)) (hB : B ≤ w.heap.size) (hlen : l.length ≤ 1048576) :
    Calls Tryz.prog 8 #[.slice (some ⟨g, 0, none⟩) l.length (l.length + 12), v] w fun e w' => e = .returned (.bool true) ∧ Below w.heap.size w w' := by
  obtain ⟨A, c, rfl, hc1, hc2, hcz, hl⟩ := id hv
  go_enter Tryz.func8, Tryz.ntmps8
  go_wp2
  go_loopw [6] (fun i wr => ∃ k : Nat, k ≤ l.length + 12 ∧ i = .int .i64 k ∧ Below w.heap.size w wr) (fun i _ => l.length + 12 - (intOf i).toNat)
  case atStart => exact ⟨0, Nat.zero_le _, rfl, Below.refl _ _⟩
  case round =>
    obtain ⟨k, hk, rfl, hbr⟩ := hrel
    by_cases hlt : k < l.length
    · obtain ⟨n, hn⟩ : ∃ n, l[k]? = some n := ⟨_, List.getElem?_eq_getElem hlt⟩
      obtain ⟨ad, c', hvv, _, hcell⟩ := (hv.below (hbr.mono hB)).cell hn
      injection hvv with hA _ hC
      subst hA hC
      obtain ⟨ag, hag, _, hcg⟩ := (hg.below (hbr.mono hB)).get (j := k) (u := .int .u8 (n.toNat : Int)) (by rw [List.getElem?_append_left (by rw [bcells_len]; exact hlt)]; exact bcells_get hn)
      injection hag with hag
      subst hag
      have hcg : wr.cell? ⟨g, k, none⟩ = some (.int .u8 (n.toNat : Int)) := by rw [addr0] at hcg; exact hcg
      have HN := Lib.hid hn
      clear hn
      have hd1 : decide (k < l.length) = true := decide_eq_true (by omega)
      have hd2 : decide (l.length ≤ k) = false := decide_eq_false (by omega)
      go_wp2
      go_quiet ((go_at_call 20; exact Calls.quiet_of_same (markb_quiet _ _ _ (by omega) (by omega) (by omega) (by omega))))
      go_wp2
      go_roundw
      case rel => exact ⟨k + 1, by omega, by go_num, below_draws hbr _⟩
      case measure => simp [intOf]; omega
    · by_cases hlt2 : k < l.length + 12
      · obtain ⟨ag, hag, _, hcg⟩ := (hg.below (hbr.mono hB)).get (j := k) (u := .int .u8 (mbI ((1 : Nat) : Int) ((k - l.length : Nat) : Int))) (by rw [List.getElem?_append_right (by rw [bcells_len]; omega), bcells_len]; exact mcells_get (by omega))
        injection hag with hag
        subst hag
        have hcg : wr.cell? ⟨g, k, none⟩ = some (.int .u8 (mbI 1 ((k : Int) - (l.length : Int)))) := by
          rw [addr0] at hcg
          rw [hcg]
          congr 3
          omega
        have hd1 : decide (k < l.length) = false := decide_eq_false (by omega)
        have hd2 : decide (l.length ≤ k) = true := decide_eq_true (by omega)
        have hle0 : 0 ≤ (k : Int) - (l.length : Int) := by omega
        go_wp2
        go_quiet ((go_at_call 20; exact Calls.quiet_of_same (markb_quiet 1 ((k : Int) - (l.length : Int)) _ (by omega) (by omega) (by omega) (by omega))))
        go_wp2
        go_roundw
        case rel => exact ⟨k + 1, by omega, by go_num, below_draws hbr _⟩
        case measure => simp [intOf]; omega
      · obtain rfl : k = l.length + 12 := by omega
        go_wp2
        go_ret
        exact ⟨rfl, hbr⟩

theorem grown_set {a w : World} {g : Nat} (h : a.grownBy w (some g)) (j : Nat) (u : Value) : a.grownBy (w.setCell ⟨g, j, none⟩ u) (some g) :=
  ⟨h.os, h.tape, h.output, by have := h.size; simpa [World.setCell] using this, fun i hi hne => (Below.heap_setCell w ⟨g, j, none⟩ u i (fun e => hne (by rw [e]))).trans (h.block i hi hne)⟩

set_option maxHeartbeats 2000000 in
theorem overb_any (n g : Nat) (base : Nat) (X : List Value) (w : World) (hrow : w.ownsRow base 5 1 (.slice (some ⟨g, 0, none⟩) (n + 12) (n + 12)) (n + 12) X) (hn : n ≤ 1048576) :
    Calls Tryz.prog 9 #[.slice (some ⟨g, 0, none⟩) n (n + 12)] w fun e w' => e = .returned (.tuple #[]) ∧ w.grownBy w' (some g) := by
  go_enter Tryz.func9, Tryz.ntmps9
  go_wp2
  go_loopw [3] (fun i wr => ∃ (k : Nat) (Y : List Value), k ≤ n + 12 ∧ i = .int .i64 k ∧ w.grownBy wr (some g) ∧ wr.ownsRow base 5 1 (.slice (some ⟨g, 0, none⟩) (n + 12) (n + 12)) (n + 12) Y) (fun i _ => n + 12 - (intOf i).toNat)
  case atStart => exact ⟨0, X, Nat.zero_le _, rfl, World.grownBy.refl _ _, hrow⟩
  case round =>
    obtain ⟨k, Y, hk, rfl, hgr, hry⟩ := hrel
    by_cases hlt : k < n + 12
    · have hyl := hry.1
      obtain ⟨x0, hx0⟩ : ∃ x, Y[k]? = some x := ⟨_, List.getElem?_eq_getElem (by omega)⟩
      have hc0 := (hry.cellAt k (by omega)).trans hx0
      have hf0 := hry.frozenAt k
      have hgl := (hry.lt g rfl).2
      clear hx0
      have HYL : n + 12 ≤ Y.length := by omega
      clear hyl
      go_wp2_with (go_at_call 20; ((with_reducible refine (markb_any 2 k _ (by omega) (by omega) (by omega) (by omega)).mono ?_); rintro e w' ⟨rfl, rfl⟩))
      go_roundw
      case rel => exact ⟨k + 1, _, by omega, by go_num, grown_set hgr _ _, (hry.stored _ _).1⟩
      case measure => simp [intOf]; omega
    · obtain rfl : k = n + 12 := by omega
      go_wp2
      go_end0
      exact ⟨rfl, hgr⟩
end Go.Proofs.YtcdjefbeillfmaaGreatDoor
