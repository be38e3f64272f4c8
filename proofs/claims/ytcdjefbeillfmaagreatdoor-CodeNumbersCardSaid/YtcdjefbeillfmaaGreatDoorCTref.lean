/- The contract of the reference's Text. -/
import Derived.Test.YtcdjefbeillfmaaGreatDoorCNum
import Derived.Test.YtcdjefbeillfmaaGreatDoorCGet2
import Derived.Deep.DeepCutAuto
namespace Go.Proofs.YtcdjefbeillfmaaGreatDoor
open Go.ChangeShapes Go.WideShapes Go.ChangeAt Go.RowKit Go.Shelf Go.Sort
set_option linter.unusedVariables false
set_option maxRecDepth 100000

/-- The digits that are still to be written, none for 0. -/
def tlD (u : Nat) : List UInt8 := if u = 0 then [] else Lib.decDigits u
theorem tlD_step (u : Nat) (l : List UInt8) : tlD (u / 10) ++ (UInt8.ofNat (48 + u % 10) :: l) = Lib.decDigits u ++ l := by
  unfold tlD
  by_cases h : u < 10
  · rw [if_pos (by omega), Lib.decDigits, dif_pos h, Nat.mod_eq_of_lt h]
    rfl
  · rw [if_neg (by omega)]
    conv => rhs; rw [Lib.decDigits, dif_neg h]
    simp
/-- What has been written of U. -/
def Wrote (U u : Nat) (l : List UInt8) : Prop := (l = [] ∧ u = U) ∨ (l ≠ [] ∧ tlD u ++ l = Lib.decDigits U)
theorem Wrote.step {U u : Nat} {l : List UInt8} (h : Wrote U u l) (hc : 0 < u ∨ l = []) : Wrote U (u / 10) (UInt8.ofNat (48 + u % 10) :: l) := by
  refine .inr ⟨by simp, ?_⟩
  rw [tlD_step]
  rcases h with ⟨rfl, rfl⟩ | ⟨hl, h⟩
  · simp
  · rcases hc with hc | hc
    · rw [tlD, if_neg (by omega)] at h; exact h
    · exact absurd hc hl
theorem Wrote.done {U : Nat} {l : List UInt8} (h : Wrote U 0 l) (hl : l ≠ []) : l = Lib.decDigits U := by
  rcases h with ⟨h, _⟩ | ⟨_, h⟩
  · exact absurd h hl
  · simpa [tlD] using h
theorem Wrote.bound {U u : Nat} {l : List UInt8} (h : Wrote U u l) : l.length ≤ (Lib.decDigits U).length := by
  rcases h with ⟨rfl, _⟩ | ⟨_, h⟩
  · simp
  · rw [← h, List.length_append]; omega

theorem conv_one (w : World) (z : Int) (h0 : 0 ≤ z) (h1 : z < 256) :
    (convert 22 9 (.slice (some ⟨w.heap.size, 0, none⟩) 1 1)).run Tryz.prog (w.alloc (.cells #[.int .u8 z] 5)) = .ok (.string ⟨#[UInt8.ofNat z.toNat]⟩) (w.alloc (.cells #[.int .u8 z] 5)) :=
  conv_str _ 22 9 5 ⟨w.heap.size, 0, none⟩ 1 [UInt8.ofNat z.toNat] Tryz.underlying22 Tryz.underlying5 Tryz.underlying9 (fun j u hu => by
    rw [addr0, cell_of_row _ _ _ _ _ _ (heap_alloc_new w _)]
    match j with
    | 0 =>
      simp [bcells, byV] at hu
      subst hu
      simp
      omega
    | k + 1 => simp [bcells] at hu)

def emptyOf : Value → Nat
  | .string s => if s.size = 0 then 1 else 0
  | _ => 0

theorem str_cons (c : UInt8) (l : List UInt8) : (Value.string ((⟨#[c]⟩ : ByteArray) ++ ⟨l.toArray⟩)) = .string ⟨(c :: l).toArray⟩ := by
  refine congrArg Value.string ?_
  apply ByteArray.ext
  simp
theorem emptyOf_cons (c : UInt8) (l : List UInt8) : emptyOf (Value.string ((⟨#[c]⟩ : ByteArray) ++ ⟨l.toArray⟩)) = 0 := by
  rw [str_cons]
  show (if (c :: l).toArray.size = 0 then 1 else 0) = 0
  simp
theorem wrote_len {U u : Nat} {l : List UInt8} (h : Wrote U u l) (hU : U ≤ 9223372036854775808) : l.length ≤ 20 := by
  have h1 := h.bound
  rw [Lib.decDigits_length] at h1
  have := Lib.nDigits_le20 U (by omega)
  omega
theorem str_minus (l : List UInt8) : (⟨#[45]⟩ : ByteArray) ++ ⟨l.toArray⟩ = ⟨(45 :: l).toArray⟩ := by
  apply ByteArray.ext
  simp
theorem u64_neg (n : Int) (h0 : -9223372036854775808 ≤ n) (h : n < 0) : Value.int .u64 (IntKind.u64.wrap (-(IntKind.u64.wrap n))) = .int .u64 (n.natAbs : Int) := by
  congr 1
  simp [IntKind.wrap, IntKind.bits, IntKind.signed]
  all_goals omega
theorem u64_pos (n : Int) (h1 : n ≤ 9223372036854775807) (h : 0 ≤ n) : Value.int .u64 (IntKind.u64.wrap n) = .int .u64 (n.natAbs : Int) := by
  congr 1
  simp [IntKind.wrap, IntKind.bits, IntKind.signed]
  all_goals omega

set_option maxHeartbeats 4000000 in
theorem rtext_any (n : Int) (w : World) (h0 : -9223372036854775808 ≤ n) (h1 : n ≤ 9223372036854775807) :
    Calls Tryz.prog 18 #[.int .i64 n] w fun e w' => e = .returned (.string ⟨(Lib.itoa n).toArray⟩) ∧ Below w.heap.size w w' := by
  go_enter Tryz.func18, Tryz.ntmps18
  go_upto_if 8 with (fail)
  go_cut [3] (fun v wx => v = .int .u64 (n.natAbs : Int) ∧ w = wx)
  case first =>
    by_cases hn : n < 0
    · go_wp2
      go_meet
      exact ⟨u64_neg n h0 hn, rfl⟩
    · go_wp2
      go_meet
      exact ⟨u64_pos n h1 (by omega), rfl⟩
  case rest =>
    obtain ⟨rfl, rfl⟩ := hcut
    obtain ⟨U, hU⟩ : ∃ U, n.natAbs = U := ⟨_, rfl⟩
    have hUb : U ≤ 9223372036854775808 := by omega
    rw [hU]
    have HU := Lib.hid hU
    clear hU
    go_wp2
    go_loopw [3, 4] (fun u s wr => ∃ (k : Nat) (l : List UInt8), u = .int .u64 (k : Int) ∧ s = .string ⟨l.toArray⟩ ∧ k ≤ U ∧ Wrote U k l ∧ Below w.heap.size w wr) (fun u s _ => (intOf u).toNat + emptyOf s)
    case atStart => exact ⟨U, [], rfl, rfl, Nat.le_refl _, .inl ⟨rfl, rfl⟩, Below.refl _ _⟩
    case round =>
      obtain ⟨k, l, rfl, rfl, hk, hwr, hb⟩ := hrel
      have hlen := wrote_len hwr hUb
      have hsz : (⟨l.toArray⟩ : ByteArray).size ≤ 20 := hlen
      by_cases hc : 0 < k ∨ l = []
      · rcases Nat.eq_zero_or_pos k with hk0 | hk0
        · subst hk0
          obtain rfl : l = [] := by rcases hc with h | h; omega; exact h
          go_wp2_with fail
          rw [conv_one _ _ (by decide) (by decide)]
          go_wp2_with fail
          go_roundw
          case rel => exact ⟨0, [48], by go_num, rfl, Nat.zero_le _, by have := hwr.step (.inr rfl); simpa using this, hb.alloc hb.size _⟩
          case measure => decide
        · have hd1 : decide ((0 : Int) < (k : Int)) = true := decide_eq_true (by omega)
          go_wp2_with fail
          rw [conv_one _ _ (by omega) (by omega)]
          go_wp2_with fail
          go_roundw
          case rel => exact ⟨k / 10, _, by go_num, str_cons _ l, by omega, hwr.step (.inl hk0), hb.alloc hb.size _⟩
          case measure => rw [emptyOf_cons]; simp only [intOf]; omega
      · have hk0 : k = 0 := by omega
        subst hk0
        have hl : l ≠ [] := fun h => hc (.inr h)
        have hd := hwr.done hl
        obtain ⟨S, hS⟩ : ∃ S : ByteArray, ⟨l.toArray⟩ = S := ⟨_, rfl⟩
        rw [hS] at hsz ⊢
        have HS := Lib.hid hS
        have hz := empty_no (s := S) (by rw [← hS]; show l.toArray.size ≠ 0; cases l with | nil => exact absurd rfl hl | cons => simp)
        clear hS hl hlen
        have HD := Lib.hid hd
        clear hd hwr hc
        by_cases hn : n < 0
        · go_wp2
          go_ret
          refine ⟨?_, hb⟩
          rw [Lib.itoa, if_pos hn, HU.out, ← HD.out]
          rw [← HS.out]
          exact congrArg (fun b => Ending.returned (Value.string b)) (str_minus l)
        · go_wp2
          go_ret
          refine ⟨?_, hb⟩
          have e : n.toNat = U := by have := HU.out; omega
          rw [Lib.itoa, if_neg (by omega), e, ← HD.out, ← HS.out]
          rfl
end Go.Proofs.YtcdjefbeillfmaaGreatDoor
