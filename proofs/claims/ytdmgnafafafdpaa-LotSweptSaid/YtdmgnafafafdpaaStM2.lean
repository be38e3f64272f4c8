/- Merging in place where the right row is of one (slices.symMergeCmpFunc). -/
import Derived.Test.YtdmgnafafafdpaaStM1
namespace Go.Proofs.Ytdmgnafafafdpaa
open Go.ChangeShapes Go.WideShapes Go.ChangeAt Go.RowKit Go.Shelf Go.Lib Go.Sort Go.Proofs
set_option linter.unusedVariables false
variable {α : Type} [Inhabited α]

set_option maxHeartbeats 4000000 in
set_option maxRecDepth 1000000 in
theorem symMerge_last (k : Nat) (aE : ∀ w, (isAgg 25).run Try.prog w = .ok true w) (zE : ∀ w, (Go.sizeOf 25).run Try.prog w = .ok k w) (enc : α → List Value) (cf : α → α → Int) (lt : α → α → Bool) (hS : SWO lt) (g : Nat) (cb : Array Value) (blk off cap a m b : Nat) (d0 d : Array α) (w0 w : World)
    (eg : ∀ args w, (callFunc g args).run Try.prog w = .ok (.enter g args) w) (hcmp : CmpLays Try.prog g cb enc k cf blk off d0.size w0) (R : RowK enc k w0 blk off d0) (hs : d.size = d0.size) (S : SWK enc k w0 blk off d w) (hm : b = m + 1) (ham : a + 1 < m) (hb : b ≤ d.size) (hsz : d.size < 1152921504606846976)
    (hM : Mrg lt (ltOf cf) a m b d) :
    Calls Try.prog 43 #[.slice (some ⟨blk, off, none⟩) d.size cap, .int .i64 a, .int .i64 m, .int .i64 b, .func (.func g) #[] cb] w (MergeTo lt enc k w0 blk off a b d) := by
  have mixed : Try.prog.follows .mixedOrders = true := by kernel_rfl
  have S0 : Hid (SWK enc k w0 blk off d w) := Lib.hid S
  have HC := Lib.hid hcmp
  have HS := Lib.hid hs
  have HSW := Lib.hid hS
  have HM := Lib.hid hM
  have HA := Lib.hid hm
  have hma1 : (m : Int) + 1 ≤ (b : Int) := by omega
  have hma2 : (b : Int) ≤ (m : Int) + 1 := by omega
  have hb1 : ((m : Int) - (a : Int) == 1) = false := by simp; omega
  have hb2 : ((b : Int) - (m : Int) == 1) = true := by simp; omega
  clear S hcmp hs hS hM hm
  go_enter Try.func43, Try.ntmps43
  go_wp2
  clear hb1 hb2
  go_loopg [14, 15] (m - a) (fun kx s10 s11 wr => ∃ (i j : Nat), s10 = .int .i64 i ∧ s11 = .int .i64 j ∧ i ≤ j ∧ j ≤ m ∧ a ≤ i ∧ j - i ≤ kx ∧ Hid (SWK enc k w0 blk off d wr) ∧ Hid (Half (fun x => !ltOf cf d[m]! d[x]!) a m i j))
  case atStart => exact ⟨a, m, rfl, rfl, by omega, Nat.le_refl _, Nat.le_refl _, by omega, S0, Lib.hid (Half.start (by omega))⟩
  case round =>
    clear S0
    obtain ⟨i, j, rfl, rfl, hij, hjb, hmi, hkx, S1, HH⟩ := hrel
    by_cases hlt : i < j
    · have ea : (((i : Int) + (j : Int)) / 2).toNat = (i + j) / 2 := by omega
      have pa : (0 : Int) ≤ ((i : Int) + (j : Int)) / 2 := by omega
      have ba : ((i : Int) + (j : Int)) / 2 < (d.size : Int) := by omega
      have pa2 : (0 : Int) ≤ (m : Int) := by omega
      have ba2 : (m : Int) < (d.size : Int) := by omega
      have ba3 : m < d.size := by omega
      have la := S1.out.ld R HS.out Try.prog ((i + j) / 2) (by omega)
      have lb := S1.out.ld R HS.out Try.prog m (by omega)
      obtain ⟨x, hx⟩ : ∃ x, x = d[(i + j) / 2]! := ⟨_, rfl⟩
      obtain ⟨y, hy⟩ : ∃ y, y = d[m]! := ⟨_, rfl⟩
      rw [← hx] at la
      rw [← hy] at lb
      have hc := S1.out.cmp HC.out HS.out y x
      have HX := Lib.hid hx
      have HY := Lib.hid hy
      clear hx hy
      by_cases hv : cf y x < 0
      · have hd : decide (cf y x < 0) = true := decide_eq_true hv
        go_wp2_with fail
        go_quiet_grown (first | (go_at_fn g; refine Calls.grown_of (hc _ _)))
        have S2 : Hid (SWK enc k w0 blk off d (grow (wr.drewN nq) osq)) := Lib.hid (S1.out.grown nq osq)
        clear la lb hc S1
        generalize grow (wr.drewN nq) osq = w2 at S2 ⊢
        clear nq osq
        go_wp2
        go_roundg ((i + j) / 2 - i)
        case measure => omega
        case rel =>
          refine ⟨i, (i + j) / 2, rfl, by rw [show (((i + j) / 2 : Nat) : Int) = ((i : Int) + (j : Int)) / 2 by omega], by omega, by omega, hmi, Nat.le_refl _, S2, Lib.hid ?_⟩
          have e := HA.out
          refine HH.out.down (by subst e; exact falls2 HSW.out HM.out) (by omega) (by omega) ?_
          show (!ltOf cf d[m]! d[(i + j) / 2]!) = false
          rw [← HX.out, ← HY.out, Bool.not_eq_false']; exact decide_eq_true hv
      · have hd : decide (cf y x < 0) = false := decide_eq_false hv
        go_wp2_with fail
        go_quiet_grown (first | (go_at_fn g; refine Calls.grown_of (hc _ _)))
        have S2 : Hid (SWK enc k w0 blk off d (grow (wr.drewN nq) osq)) := Lib.hid (S1.out.grown nq osq)
        clear la lb hc S1
        generalize grow (wr.drewN nq) osq = w2 at S2 ⊢
        clear nq osq
        go_wp2
        go_roundg (j - ((i + j) / 2 + 1))
        case measure => omega
        case rel =>
          refine ⟨(i + j) / 2 + 1, j, by rw [show (((i + j) / 2 + 1 : Nat) : Int) = ((i : Int) + (j : Int)) / 2 + 1 by omega], rfl, by omega, hjb, by omega, Nat.le_refl _, S2, Lib.hid ?_⟩
          have e := HA.out
          refine HH.out.up (by subst e; exact falls2 HSW.out HM.out) (by omega) (by omega) ?_
          show (!ltOf cf d[m]! d[(i + j) / 2]!) = true
          rw [← HX.out, ← HY.out, Bool.not_eq_true']; exact decide_eq_false (by omega)
    · obtain rfl : i = j := by omega
      clear hlt hij
      go_wp2
      go_loopg [17] (m - i) (fun kx s13 wr => ∃ (x : Nat) (dk : Array α), s13 = .int .i64 x ∧ i ≤ x ∧ x ≤ m ∧ x - i ≤ kx ∧ Hid (SWK enc k w0 blk off dk wr) ∧ Hid (MovedDown d x m dk))
      case atStart => exact ⟨m, d, rfl, hjb, Nat.le_refl _, Nat.le_refl _, S1, Lib.hid (movedDown_start d m (by omega))⟩
      case round =>
        clear S1
        obtain ⟨x, dk, rfl, hax, hxi, hkx, S1, HU⟩ := hrel
        by_cases hlt : i < x
        · obtain ⟨z, rfl⟩ : ∃ z, x = z + 1 := ⟨x - 1, by omega⟩
          have hlz : (i : Int) < (z : Int) + 1 := by omega
          have hlz2 : (i : Int) < ((z + 1 : Nat) : Int) := by omega
          have hds : Hid (dk.size = d.size) := Lib.hid HU.out.1
          have hz := hds.out
          have ea : ((z : Int) + 1).toNat = z + 1 := by omega
          have pa : (0 : Int) ≤ (z : Int) + 1 := by omega
          have ba : (z : Int) + 1 < (d.size : Int) := by omega
          have pc : (0 : Int) ≤ (z : Int) := by omega
          have bc : (z : Int) < (d.size : Int) := by omega
          have rc : IntKind.i64.wrap (z : Int) = (z : Int) := by rw [IntKind.wrap_i64]; omega
          have hk0 : dk.size = d0.size := hz.trans HS.out
          have S2 : Hid (SWK enc k w0 blk off (swp dk (z + 1) z) ((wr.drew.setCells blk (off + (z + 1) * k) (enc dk[z]!)).setCells blk (off + z * k) (enc dk[z + 1]!))) := Lib.hid (S1.out.swapped R (z + 1) z (by omega) (by omega))
          have la := S1.out.ld1 R hk0 Try.prog (z + 1) (by omega)
          have lb := S1.out.ld1 R hk0 Try.prog z (by omega)
          have sa := S1.out.st1 R hk0 Try.prog (z + 1) (by omega) dk[z]!
          have sb := S1.out.st2 R hk0 Try.prog (z + 1) z (by omega) (by omega) dk[z]! dk[z + 1]!
          have na : (enc dk[z + 1]!).length = k := R.hk _
          have nb : (enc dk[z]!).length = k := R.hk _
          generalize enc dk[z + 1]! = cI at S2 la sb na
          generalize enc dk[z]! = cJ at S2 lb sa sb nb
          clear S1 hz hk0
          go_wp2_with fail
          go_big_region_o
          clear la lb sa sb
          generalize (wr.drew.setCells blk (off + (z + 1) * k) cJ).setCells blk (off + z * k) cI = w2 at S2 ⊢
          go_wp2
          go_roundg (z - i)
          case measure => omega
          case rel =>
            exact ⟨z, swp dk (z + 1) z, by first | rfl | go_num | (congr 1; omega), by omega, by omega, Nat.le_refl _, S2, Lib.hid (HU.out.step (by omega) (by omega))⟩
        · obtain rfl : x = i := by omega
          have hlz : ¬ ((x : Int) < (x : Int)) := by omega
          go_wp2
          go_end0
          refine ⟨rfl, dk, S1.out, ?_⟩
          have e := HA.out
          subst e
          exact merged2 HSW.out HM.out (by omega) HH.out HU.out
end Go.Proofs.Ytdmgnafafafdpaa
