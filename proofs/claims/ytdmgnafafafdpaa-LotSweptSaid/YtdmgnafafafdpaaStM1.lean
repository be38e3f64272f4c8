/- Merging in place where the left row is of one (slices.symMergeCmpFunc). -/
import Derived.Test.YtdmgnafafafdpaaStRot
namespace Go.Proofs.Ytdmgnafafafdpaa
open Go.ChangeShapes Go.WideShapes Go.ChangeAt Go.RowKit Go.Shelf Go.Lib Go.Sort Go.Proofs
set_option linter.unusedVariables false
variable {α : Type} [Inhabited α]

/-- What a merge answers. -/
def MergeTo (lt : α → α → Bool) (enc : α → List Value) (k : Nat) (w0 : World) (blk off a b : Nat) (d : Array α) (e : Ending) (w' : World) : Prop :=
  e = .returned (.tuple #[]) ∧ ∃ d', SWK enc k w0 blk off d' w' ∧ Merged lt a b d d'

set_option maxHeartbeats 4000000 in
set_option maxRecDepth 1000000 in
theorem symMerge_one (k : Nat) (aE : ∀ w, (isAgg 25).run Try.prog w = .ok true w) (zE : ∀ w, (Go.sizeOf 25).run Try.prog w = .ok k w) (enc : α → List Value) (cf : α → α → Int) (lt : α → α → Bool) (hS : SWO lt) (g : Nat) (cb : Array Value) (blk off cap a m b : Nat) (d0 d : Array α) (w0 w : World)
    (eg : ∀ args w, (callFunc g args).run Try.prog w = .ok (.enter g args) w) (hcmp : CmpLays Try.prog g cb enc k cf blk off d0.size w0) (R : RowK enc k w0 blk off d0) (hs : d.size = d0.size) (S : SWK enc k w0 blk off d w) (hm : m = a + 1) (hmb : m < b) (hb : b ≤ d.size) (hsz : d.size < 1152921504606846976)
    (hM : Mrg lt (ltOf cf) a m b d) :
    Calls Try.prog 43 #[.slice (some ⟨blk, off, none⟩) d.size cap, .int .i64 a, .int .i64 m, .int .i64 b, .func (.func g) #[] cb] w (MergeTo lt enc k w0 blk off a b d) := by
  have mixed : Try.prog.follows .mixedOrders = true := by kernel_rfl
  have S0 : Hid (SWK enc k w0 blk off d w) := Lib.hid S
  have HC := Lib.hid hcmp
  have HS := Lib.hid hs
  have HSW := Lib.hid hS
  have HM := Lib.hid hM
  have HA := Lib.hid hm
  have hma1 : (a : Int) + 1 ≤ (m : Int) := by omega
  have hma2 : (m : Int) ≤ (a : Int) + 1 := by omega
  have hb1 : ((m : Int) - (a : Int) == 1) = true := by simp; omega
  clear S hcmp hs hS hM hm
  go_enter Try.func43, Try.ntmps43
  go_wp2
  clear hb1
  go_loopg [10, 11] (b - m) (fun kx s10 s11 wr => ∃ (i j : Nat), s10 = .int .i64 i ∧ s11 = .int .i64 j ∧ i ≤ j ∧ j ≤ b ∧ m ≤ i ∧ j - i ≤ kx ∧ Hid (SWK enc k w0 blk off d wr) ∧ Hid (Half (fun x => ltOf cf d[x]! d[a]!) m b i j))
  case atStart => exact ⟨m, b, rfl, rfl, by omega, Nat.le_refl _, Nat.le_refl _, by omega, S0, Lib.hid (Half.start (by omega))⟩
  case round =>
    clear S0
    obtain ⟨i, j, rfl, rfl, hij, hjb, hmi, hkx, S1, HH⟩ := hrel
    by_cases hlt : i < j
    · have ea : (((i : Int) + (j : Int)) / 2).toNat = (i + j) / 2 := by omega
      have pa : (0 : Int) ≤ ((i : Int) + (j : Int)) / 2 := by omega
      have ba : ((i : Int) + (j : Int)) / 2 < (d.size : Int) := by omega
      have pa2 : (0 : Int) ≤ (a : Int) := by omega
      have ba2 : (a : Int) < (d.size : Int) := by omega
      have ba3 : a < d.size := by omega
      have la := S1.out.ld R HS.out Try.prog ((i + j) / 2) (by omega)
      have lb := S1.out.ld R HS.out Try.prog a (by omega)
      obtain ⟨x, hx⟩ : ∃ x, x = d[(i + j) / 2]! := ⟨_, rfl⟩
      obtain ⟨y, hy⟩ : ∃ y, y = d[a]! := ⟨_, rfl⟩
      rw [← hx] at la
      rw [← hy] at lb
      have hc := S1.out.cmp HC.out HS.out x y
      have HX := Lib.hid hx
      have HY := Lib.hid hy
      clear hx hy
      by_cases hv : cf x y < 0
      · have hd : decide (cf x y < 0) = true := decide_eq_true hv
        go_wp2_with fail
        go_quiet_grown (first | (go_at_fn g; refine Calls.grown_of (hc _ _)))
        have S2 : Hid (SWK enc k w0 blk off d (grow (wr.drewN nq) osq)) := Lib.hid (S1.out.grown nq osq)
        clear la lb hc S1
        generalize grow (wr.drewN nq) osq = w2 at S2 ⊢
        clear nq osq
        go_wp2
        go_roundg (j - ((i + j) / 2 + 1))
        case measure => omega
        case rel =>
          refine ⟨(i + j) / 2 + 1, j, by rw [show (((i + j) / 2 + 1 : Nat) : Int) = ((i : Int) + (j : Int)) / 2 + 1 by omega], rfl, by omega, hjb, by omega, Nat.le_refl _, S2, Lib.hid ?_⟩
          have e := HA.out
          refine HH.out.up (by subst e; exact falls1 HSW.out HM.out) (by omega) (by omega) ?_
          show ltOf cf d[(i + j) / 2]! d[a]! = true
          rw [← HX.out, ← HY.out]; exact decide_eq_true hv
      · have hd : decide (cf x y < 0) = false := decide_eq_false hv
        go_wp2_with fail
        go_quiet_grown (first | (go_at_fn g; refine Calls.grown_of (hc _ _)))
        have S2 : Hid (SWK enc k w0 blk off d (grow (wr.drewN nq) osq)) := Lib.hid (S1.out.grown nq osq)
        clear la lb hc S1
        generalize grow (wr.drewN nq) osq = w2 at S2 ⊢
        clear nq osq
        go_wp2
        go_roundg ((i + j) / 2 - i)
        case measure => omega
        case rel =>
          refine ⟨i, (i + j) / 2, rfl, by rw [show (((i + j) / 2 : Nat) : Int) = ((i : Int) + (j : Int)) / 2 by omega], by omega, by omega, hmi, Nat.le_refl _, S2, Lib.hid ?_⟩
          have e := HA.out
          refine HH.out.down (by subst e; exact falls1 HSW.out HM.out) (by omega) (by omega) ?_
          show ltOf cf d[(i + j) / 2]! d[a]! = false
          rw [← HX.out, ← HY.out]; exact decide_eq_false (by omega)
    · obtain rfl : i = j := by omega
      clear hlt hij
      go_wp2
      go_loopg [13] (i - 1 - a) (fun kx s13 wr => ∃ (x : Nat) (dk : Array α), s13 = .int .i64 x ∧ a ≤ x ∧ x + 1 ≤ i ∧ i - 1 - x ≤ kx ∧ Hid (SWK enc k w0 blk off dk wr) ∧ Hid (MovedUp d a x dk))
      case atStart => exact ⟨a, d, rfl, Nat.le_refl _, by omega, Nat.le_refl _, S1, Lib.hid (movedUp_start d a (by omega))⟩
      case round =>
        clear S1
        obtain ⟨x, dk, rfl, hax, hxi, hkx, S1, HU⟩ := hrel
        by_cases hlt : x + 1 < i
        · have hlz : (x : Int) < (i : Int) - 1 := by omega
          have hds : Hid (dk.size = d.size) := Lib.hid HU.out.1
          have hz := hds.out
          have ea : ((x : Int)).toNat = x := by omega
          have pa : (0 : Int) ≤ (x : Int) := by omega
          have ba : (x : Int) < (d.size : Int) := by omega
          have ec : ((x : Int) + 1).toNat = x + 1 := by omega
          have pc : (0 : Int) ≤ (x : Int) + 1 := by omega
          have bc : (x : Int) + 1 < (d.size : Int) := by omega
          have rc : IntKind.i64.wrap ((x : Int) + 1) = (x : Int) + 1 := by rw [IntKind.wrap_i64]; omega
          have hk0 : dk.size = d0.size := hz.trans HS.out
          have S2 : Hid (SWK enc k w0 blk off (swp dk x (x + 1)) ((wr.drew.setCells blk (off + x * k) (enc dk[x + 1]!)).setCells blk (off + (x + 1) * k) (enc dk[x]!))) := Lib.hid (S1.out.swapped R x (x + 1) (by omega) (by omega))
          have la := S1.out.ld1 R hk0 Try.prog x (by omega)
          have lb := S1.out.ld1 R hk0 Try.prog (x + 1) (by omega)
          have sa := S1.out.st1 R hk0 Try.prog x (by omega) dk[x + 1]!
          have sb := S1.out.st2 R hk0 Try.prog x (x + 1) (by omega) (by omega) dk[x + 1]! dk[x]!
          have na : (enc dk[x]!).length = k := R.hk _
          have nb : (enc dk[x + 1]!).length = k := R.hk _
          generalize enc dk[x]! = cI at S2 la sb na
          generalize enc dk[x + 1]! = cJ at S2 lb sa sb nb
          clear S1 hz hk0
          go_wp2_with fail
          go_big_region_o
          clear la lb sa sb
          generalize (wr.drew.setCells blk (off + x * k) cJ).setCells blk (off + (x + 1) * k) cI = w2 at S2 ⊢
          go_wp2
          go_roundg (i - 1 - (x + 1))
          case measure => omega
          case rel =>
            exact ⟨x + 1, swp dk x (x + 1), by go_num, by omega, by omega, Nat.le_refl _, S2, Lib.hid (HU.out.step hax (by omega))⟩
        · obtain rfl : i = x + 1 := by omega
          have hlz : ¬ ((x : Int) < ((x + 1 : Nat) : Int) - 1) := by omega
          have hlz2 : ¬ ((x : Int) < (x : Int) + 1 - 1) := by omega
          go_wp2
          go_end0
          refine ⟨rfl, dk, S1.out, ?_⟩
          have e := HA.out
          subst e
          exact merged1 HSW.out HM.out hb HH.out HU.out
end Go.Proofs.Ytdmgnafafafdpaa
