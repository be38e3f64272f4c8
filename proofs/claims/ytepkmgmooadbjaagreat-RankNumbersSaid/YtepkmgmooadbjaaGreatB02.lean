/- Texts of this proof, one behind the other. -/
import Derived.Shelf.SlLaysF0
import Derived.Shelf.SlSortCmp.InsertionK
import Derived.Test.YtepkmgmooadbjaaGreatProg
import Derived.Test.YtepkmgmooadbjaaGreatB01
section
/- A row of an array is turned (slices.rotateCmpFunc). -/
namespace Go.Proofs.YtepkmgmooadbjaaGreat
open Go.ChangeShapes Go.WideShapes Go.ChangeAt Go.RowKit Go.Shelf Go.Lib Go.Sort Go.Proofs
set_option linter.unusedVariables false
variable {α : Type} [Inhabited α]

theorem swapped_perm_in {d d' : Array α} {lo hi a b n : Nat} (h1 : lo ≤ a) (h2 : b + n ≤ hi) (hs : hi ≤ d.size) (hp : PermIn a (b + n) d d') : PermIn lo hi d d' := permIn_mono _ _ _ _ _ _ h1 h2 hs hp

set_option maxHeartbeats 4000000 in
set_option maxRecDepth 1000000 in
theorem rotate_any (k : Nat) (aE : ∀ w, (isAgg 37).run Tryz.prog w = .ok true w) (zE : ∀ w, (Go.sizeOf 37).run Tryz.prog w = .ok k w) (enc : α → List Value) (g : Nat) (cb : Array Value) (blk off cap a m b : Nat) (d0 d : Array α) (w0 w : World)
    (R : RowK enc k w0 blk off d0) (hs : d.size = d0.size) (S : SWK enc k w0 blk off d w) (ham : a < m) (hmb : m < b) (hb : b ≤ d.size) (hsz : d.size < 1152921504606846976) :
    Calls Tryz.prog 98 #[.slice (some ⟨blk, off, none⟩) d.size cap, .int .i64 a, .int .i64 m, .int .i64 b, .func (.func g) #[] cb] w fun e w' =>
      e = .returned (.tuple #[]) ∧ ∃ d', SWK enc k w0 blk off d' w' ∧ Turned d a m b d' := by
  have mixed : Tryz.prog.follows .mixedOrders = true := by kernel_rfl
  have S0 : Hid (SWK enc k w0 blk off d w) := Lib.hid S
  clear S
  have HS := Lib.hid hs
  clear hs
  go_enter Tryz.func98, Tryz.ntmps98
  go_wp2
  go_loopg [10, 11] (b - a) (fun kx s10 s11 wr => ∃ (i j : Nat) (dk : Array α), s10 = .int .i64 i ∧ s11 = .int .i64 j ∧ i + j ≤ kx ∧ Hid (SWK enc k w0 blk off dk wr) ∧ Hid (Turning d a m b i j dk))
  case atStart => exact ⟨m - a, b - m, d, by rw [show ((m - a : Nat) : Int) = (m : Int) - (a : Int) by omega], by rw [show ((b - m : Nat) : Int) = (b : Int) - (m : Int) by omega], by omega, S0, Lib.hid (turning_start ham hmb)⟩
  case round =>
    clear S0
    obtain ⟨i, j, dk, rfl, rfl, hkx, S1, HT⟩ := hrel
    have hi1 := HT.out.i1
    have hj1 := HT.out.j1
    have hi2 := HT.out.i2
    have hj2 := HT.out.j2
    have hds : Hid (dk.size = d.size) := Lib.hid HT.out.size
    have swR : ∀ (aa bb nn : Nat) (xa xb xn : Int), xa = aa → xb = bb → xn = nn → a ≤ aa → aa + nn ≤ bb → bb + nn ≤ b → ∀ (W : World), SWK enc k w0 blk off dk W →
        Calls Tryz.prog 108 #[.slice (some ⟨blk, off, none⟩) d.size cap, .int .i64 xa, .int .i64 xb, .int .i64 xn, .func (.func g) #[] cb] W fun e w' =>
          e = .returned (.tuple #[]) ∧ ∃ d', SWK enc k w0 blk off d' w' ∧ Swapped dk aa bb nn d' ∧ PermIn aa (bb + nn) dk d' := by
      intro aa bb nn xa xb xn ea eb en h1 h2 h3 W hW
      subst ea eb en
      have := swapRange_any k aE zE enc g cb blk off cap aa bb nn d0 dk w0 W R (hds.out.trans HS.out) hW h2 (by have := hds.out; omega) (by have := hds.out; omega)
      rwa [hds.out] at this
    have SR := Lib.hid swR
    clear swR
    have him : (i : Int) ≤ (m : Int) := by omega
    have hjb : (m : Int) + (j : Int) ≤ (b : Int) := by omega
    by_cases hne : i = j
    · subst hne
      have hb1 : ((i : Int) != (i : Int)) = false := by simp
      have hb2 : ((i : Int) == (i : Int)) = true := by simp
      go_wp2_with (go_at_call 108; ((with_reducible refine (SR.out (m - i) m i ((m : Int) - (i : Int)) (m : Int) (i : Int) (by omega) (by omega) (by omega) (by omega) (by omega) (by omega) _ S1.out).mono ?_)); rintro e w2 ⟨rfl, d2, S2, hsw, hp⟩)
      go_end0
      exact ⟨rfl, d2, S2, HT.out.last ham hmb hsw (swapped_perm_in (by omega) (by omega) (by have := hds.out; omega) hp)⟩
    · have hb1 : ((i : Int) != (j : Int)) = true := by simp; omega
      have hb2 : ((i : Int) == (j : Int)) = false := by simp; omega
      by_cases hij : j < i
      · have hd : decide ((j : Int) < (i : Int)) = true := decide_eq_true (by omega)
        have hd2 : decide (j < i) = true := decide_eq_true (by omega)
        go_wp2_with (go_at_call 108; ((with_reducible refine (SR.out (m - i) m j ((m : Int) - (i : Int)) (m : Int) (j : Int) (by omega) (by omega) (by omega) (by omega) (by omega) (by omega) _ S1.out).mono ?_)); rintro e w2 ⟨rfl, d2, S2, hsw, hp⟩)
        have S2' := Lib.hid S2
        have HT2 := Lib.hid (HT.out.left hij ham hmb hsw (swapped_perm_in (by omega) (by omega) (by have := hds.out; omega) hp))
        clear S2 hsw hp
        go_roundg (i + j - 1)
        case measure => omega
        case rel => exact ⟨i - j, j, d2, by rw [show ((i - j : Nat) : Int) = (i : Int) - (j : Int) by omega], rfl, by omega, S2', HT2⟩
      · have hd : decide ((j : Int) < (i : Int)) = false := decide_eq_false (by omega)
        have hd2 : decide (j < i) = false := decide_eq_false (by omega)
        go_wp2_with (go_at_call 108; ((with_reducible refine (SR.out (m - i) (m + j - i) i ((m : Int) - (i : Int)) ((m : Int) + (j : Int) - (i : Int)) (i : Int) (by omega) (by omega) (by omega) (by omega) (by omega) (by omega) _ S1.out).mono ?_)); rintro e w2 ⟨rfl, d2, S2, hsw, hp⟩)
        have S2' := Lib.hid S2
        have HT2 := Lib.hid (HT.out.right (by omega) ham hmb hsw (swapped_perm_in (by omega) (by omega) (by have := hds.out; omega) hp))
        clear S2 hsw hp
        go_roundg (i + j - 1)
        case measure => omega
        case rel => exact ⟨i, j - i, d2, rfl, by rw [show ((j - i : Nat) : Int) = (j : Int) - (i : Int) by omega], by omega, S2', HT2⟩
end Go.Proofs.YtepkmgmooadbjaaGreat
end
section
/- Merging in place where the left row is of one (slices.symMergeCmpFunc). -/
namespace Go.Proofs.YtepkmgmooadbjaaGreat
open Go.ChangeShapes Go.WideShapes Go.ChangeAt Go.RowKit Go.Shelf Go.Lib Go.Sort Go.Proofs
set_option linter.unusedVariables false
variable {α : Type} [Inhabited α]

/-- What a merge answers. -/
def MergeTo (lt : α → α → Bool) (enc : α → List Value) (k : Nat) (w0 : World) (blk off a b : Nat) (d : Array α) (e : Ending) (w' : World) : Prop :=
  e = .returned (.tuple #[]) ∧ ∃ d', SWK enc k w0 blk off d' w' ∧ Merged lt a b d d'

set_option maxHeartbeats 4000000 in
set_option maxRecDepth 1000000 in
theorem symMerge_one (k : Nat) (aE : ∀ w, (isAgg 37).run Tryz.prog w = .ok true w) (zE : ∀ w, (Go.sizeOf 37).run Tryz.prog w = .ok k w) (enc : α → List Value) (cf : α → α → Int) (lt : α → α → Bool) (hS : SWO lt) (g : Nat) (cb : Array Value) (blk off cap a m b : Nat) (d0 d : Array α) (w0 w : World)
    (eg : ∀ args w, (callFunc g args).run Tryz.prog w = .ok (.enter g args) w) (hcmp : CmpLays Tryz.prog g cb enc k cf blk off d0.size w0) (R : RowK enc k w0 blk off d0) (hs : d.size = d0.size) (S : SWK enc k w0 blk off d w) (hm : m = a + 1) (hmb : m < b) (hb : b ≤ d.size) (hsz : d.size < 1152921504606846976)
    (hM : Mrg lt (ltOf cf) a m b d) :
    Calls Tryz.prog 68 #[.slice (some ⟨blk, off, none⟩) d.size cap, .int .i64 a, .int .i64 m, .int .i64 b, .func (.func g) #[] cb] w (MergeTo lt enc k w0 blk off a b d) := by
  have mixed : Tryz.prog.follows .mixedOrders = true := by kernel_rfl
  have S0 : Hid (SWK enc k w0 blk off d w) := Lib.hid S
  have HC := Lib.hid hcmp
  have HS := Lib.hid hs
  have HSW := Lib.hid hS
  have HM := Lib.hid hM
  have HA := Lib.hid hm
  have hma1 : (a : Int) + 1 ≤ (m : Int) := by omega
  have hma2 : (m : Int) ≤ (a : Int) + 1 := by omega
  have hb1 : ((m : Int) - (a : Int) == 1) = true := by simp; omega
  clear S hcmp hs hS hM hm
  go_enter Tryz.func68, Tryz.ntmps68
  go_wp2
  clear hb1
  go_loopg [10, 11] (b - m) (fun kx s10 s11 wr => ∃ (i j : Nat), s10 = .int .i64 i ∧ s11 = .int .i64 j ∧ i ≤ j ∧ j ≤ b ∧ m ≤ i ∧ j - i ≤ kx ∧ Hid (SWK enc k w0 blk off d wr) ∧ Hid (Half (fun x => ltOf cf d[x]! d[a]!) m b i j))
  case atStart => exact ⟨m, b, rfl, rfl, by omega, Nat.le_refl _, Nat.le_refl _, by omega, S0, Lib.hid (Half.start (by omega))⟩
  case round =>
    clear S0
    obtain ⟨i, j, rfl, rfl, hij, hjb, hmi, hkx, S1, HH⟩ := hrel
    by_cases hlt : i < j
    · have ea : (((i : Int) + (j : Int)) / 2).toNat = (i + j) / 2 := by omega
      have pa : (0 : Int) ≤ ((i : Int) + (j : Int)) / 2 := by omega
      have ba : ((i : Int) + (j : Int)) / 2 < (d.size : Int) := by omega
      have pa2 : (0 : Int) ≤ (a : Int) := by omega
      have ba2 : (a : Int) < (d.size : Int) := by omega
      have ba3 : a < d.size := by omega
      have la := S1.out.ld R HS.out Tryz.prog ((i + j) / 2) (by omega)
      have lb := S1.out.ld R HS.out Tryz.prog a (by omega)
      obtain ⟨x, hx⟩ : ∃ x, x = d[(i + j) / 2]! := ⟨_, rfl⟩
      obtain ⟨y, hy⟩ : ∃ y, y = d[a]! := ⟨_, rfl⟩
      rw [← hx] at la
      rw [← hy] at lb
      have hc := S1.out.cmp HC.out HS.out x y
      have HX := Lib.hid hx
      have HY := Lib.hid hy
      clear hx hy
      by_cases hv : cf x y < 0
      · have hd : decide (cf x y < 0) = true := decide_eq_true hv
        go_wp2_with fail
        go_quiet_grown (first | (go_at_fn g; refine Calls.grown_of (hc _ _)))
        have S2 : Hid (SWK enc k w0 blk off d (grow (wr.drewN nq) osq)) := Lib.hid (S1.out.grown nq osq)
        clear la lb hc S1
        generalize grow (wr.drewN nq) osq = w2 at S2 ⊢
        clear nq osq
        go_wp2
        go_roundg (j - ((i + j) / 2 + 1))
        case measure => omega
        case rel =>
          refine ⟨(i + j) / 2 + 1, j, by rw [show (((i + j) / 2 + 1 : Nat) : Int) = ((i : Int) + (j : Int)) / 2 + 1 by omega], rfl, by omega, hjb, by omega, Nat.le_refl _, S2, Lib.hid ?_⟩
          have e := HA.out
          refine HH.out.up (by subst e; exact falls1 HSW.out HM.out) (by omega) (by omega) ?_
          show ltOf cf d[(i + j) / 2]! d[a]! = true
          rw [← HX.out, ← HY.out]; exact decide_eq_true hv
      · have hd : decide (cf x y < 0) = false := decide_eq_false hv
        go_wp2_with fail
        go_quiet_grown (first | (go_at_fn g; refine Calls.grown_of (hc _ _)))
        have S2 : Hid (SWK enc k w0 blk off d (grow (wr.drewN nq) osq)) := Lib.hid (S1.out.grown nq osq)
        clear la lb hc S1
        generalize grow (wr.drewN nq) osq = w2 at S2 ⊢
        clear nq osq
        go_wp2
        go_roundg ((i + j) / 2 - i)
        case measure => omega
        case rel =>
          refine ⟨i, (i + j) / 2, rfl, by rw [show (((i + j) / 2 : Nat) : Int) = ((i : Int) + (j : Int)) / 2 by omega], by omega, by omega, hmi, Nat.le_refl _, S2, Lib.hid ?_⟩
          have e := HA.out
          refine HH.out.down (by subst e; exact falls1 HSW.out HM.out) (by omega) (by omega) ?_
          show ltOf cf d[(i + j) / 2]! d[a]! = false
          rw [← HX.out, ← HY.out]; exact decide_eq_false (by omega)
    · obtain rfl : i = j := by omega
      clear hlt hij
      go_wp2
      go_loopg [13] (i - 1 - a) (fun kx s13 wr => ∃ (x : Nat) (dk : Array α), s13 = .int .i64 x ∧ a ≤ x ∧ x + 1 ≤ i ∧ i - 1 - x ≤ kx ∧ Hid (SWK enc k w0 blk off dk wr) ∧ Hid (MovedUp d a x dk))
      case atStart => exact ⟨a, d, rfl, Nat.le_refl _, by omega, Nat.le_refl _, S1, Lib.hid (movedUp_start d a (by omega))⟩
      case round =>
        clear S1
        obtain ⟨x, dk, rfl, hax, hxi, hkx, S1, HU⟩ := hrel
        by_cases hlt : x + 1 < i
        · have hlz : (x : Int) < (i : Int) - 1 := by omega
          have hds : Hid (dk.size = d.size) := Lib.hid HU.out.1
          have hz := hds.out
          have ea : ((x : Int)).toNat = x := by omega
          have pa : (0 : Int) ≤ (x : Int) := by omega
          have ba : (x : Int) < (d.size : Int) := by omega
          have ec : ((x : Int) + 1).toNat = x + 1 := by omega
          have pc : (0 : Int) ≤ (x : Int) + 1 := by omega
          have bc : (x : Int) + 1 < (d.size : Int) := by omega
          have rc : IntKind.i64.wrap ((x : Int) + 1) = (x : Int) + 1 := by rw [IntKind.wrap_i64]; omega
          have hk0 : dk.size = d0.size := hz.trans HS.out
          have S2 : Hid (SWK enc k w0 blk off (swp dk x (x + 1)) ((wr.drew.setCells blk (off + x * k) (enc dk[x + 1]!)).setCells blk (off + (x + 1) * k) (enc dk[x]!))) := Lib.hid (S1.out.swapped R x (x + 1) (by omega) (by omega))
          have la := S1.out.ld1 R hk0 Tryz.prog x (by omega)
          have lb := S1.out.ld1 R hk0 Tryz.prog (x + 1) (by omega)
          have sa := S1.out.st1 R hk0 Tryz.prog x (by omega) dk[x + 1]!
          have sb := S1.out.st2 R hk0 Tryz.prog x (x + 1) (by omega) (by omega) dk[x + 1]! dk[x]!
          have na : (enc dk[x]!).length = k := R.hk _
          have nb : (enc dk[x + 1]!).length = k := R.hk _
          generalize enc dk[x]! = cI at S2 la sb na
          generalize enc dk[x + 1]! = cJ at S2 lb sa sb nb
          clear S1 hz hk0
          go_wp2_with fail
          go_big_region_o
          clear la lb sa sb
          generalize (wr.drew.setCells blk (off + x * k) cJ).setCells blk (off + (x + 1) * k) cI = w2 at S2 ⊢
          go_wp2
          go_roundg (i - 1 - (x + 1))
          case measure => omega
          case rel =>
            exact ⟨x + 1, swp dk x (x + 1), by go_num, by omega, by omega, Nat.le_refl _, S2, Lib.hid (HU.out.step hax (by omega))⟩
        · obtain rfl : i = x + 1 := by omega
          have hlz : ¬ ((x : Int) < ((x + 1 : Nat) : Int) - 1) := by omega
          have hlz2 : ¬ ((x : Int) < (x : Int) + 1 - 1) := by omega
          go_wp2
          go_end0
          refine ⟨rfl, dk, S1.out, ?_⟩
          have e := HA.out
          subst e
          exact merged1 HSW.out HM.out hb HH.out HU.out
end Go.Proofs.YtepkmgmooadbjaaGreat
end
section
/- Merging in place where the right row is of one (slices.symMergeCmpFunc). -/
namespace Go.Proofs.YtepkmgmooadbjaaGreat
open Go.ChangeShapes Go.WideShapes Go.ChangeAt Go.RowKit Go.Shelf Go.Lib Go.Sort Go.Proofs
set_option linter.unusedVariables false
variable {α : Type} [Inhabited α]

set_option maxHeartbeats 4000000 in
set_option maxRecDepth 1000000 in
theorem symMerge_last (k : Nat) (aE : ∀ w, (isAgg 37).run Tryz.prog w = .ok true w) (zE : ∀ w, (Go.sizeOf 37).run Tryz.prog w = .ok k w) (enc : α → List Value) (cf : α → α → Int) (lt : α → α → Bool) (hS : SWO lt) (g : Nat) (cb : Array Value) (blk off cap a m b : Nat) (d0 d : Array α) (w0 w : World)
    (eg : ∀ args w, (callFunc g args).run Tryz.prog w = .ok (.enter g args) w) (hcmp : CmpLays Tryz.prog g cb enc k cf blk off d0.size w0) (R : RowK enc k w0 blk off d0) (hs : d.size = d0.size) (S : SWK enc k w0 blk off d w) (hm : b = m + 1) (ham : a + 1 < m) (hb : b ≤ d.size) (hsz : d.size < 1152921504606846976)
    (hM : Mrg lt (ltOf cf) a m b d) :
    Calls Tryz.prog 68 #[.slice (some ⟨blk, off, none⟩) d.size cap, .int .i64 a, .int .i64 m, .int .i64 b, .func (.func g) #[] cb] w (MergeTo lt enc k w0 blk off a b d) := by
  have mixed : Tryz.prog.follows .mixedOrders = true := by kernel_rfl
  have S0 : Hid (SWK enc k w0 blk off d w) := Lib.hid S
  have HC := Lib.hid hcmp
  have HS := Lib.hid hs
  have HSW := Lib.hid hS
  have HM := Lib.hid hM
  have HA := Lib.hid hm
  have hma1 : (m : Int) + 1 ≤ (b : Int) := by omega
  have hma2 : (b : Int) ≤ (m : Int) + 1 := by omega
  have hb1 : ((m : Int) - (a : Int) == 1) = false := by simp; omega
  have hb2 : ((b : Int) - (m : Int) == 1) = true := by simp; omega
  clear S hcmp hs hS hM hm
  go_enter Tryz.func68, Tryz.ntmps68
  go_wp2
  clear hb1 hb2
  go_loopg [14, 15] (m - a) (fun kx s10 s11 wr => ∃ (i j : Nat), s10 = .int .i64 i ∧ s11 = .int .i64 j ∧ i ≤ j ∧ j ≤ m ∧ a ≤ i ∧ j - i ≤ kx ∧ Hid (SWK enc k w0 blk off d wr) ∧ Hid (Half (fun x => !ltOf cf d[m]! d[x]!) a m i j))
  case atStart => exact ⟨a, m, rfl, rfl, by omega, Nat.le_refl _, Nat.le_refl _, by omega, S0, Lib.hid (Half.start (by omega))⟩
  case round =>
    clear S0
    obtain ⟨i, j, rfl, rfl, hij, hjb, hmi, hkx, S1, HH⟩ := hrel
    by_cases hlt : i < j
    · have ea : (((i : Int) + (j : Int)) / 2).toNat = (i + j) / 2 := by omega
      have pa : (0 : Int) ≤ ((i : Int) + (j : Int)) / 2 := by omega
      have ba : ((i : Int) + (j : Int)) / 2 < (d.size : Int) := by omega
      have pa2 : (0 : Int) ≤ (m : Int) := by omega
      have ba2 : (m : Int) < (d.size : Int) := by omega
      have ba3 : m < d.size := by omega
      have la := S1.out.ld R HS.out Tryz.prog ((i + j) / 2) (by omega)
      have lb := S1.out.ld R HS.out Tryz.prog m (by omega)
      obtain ⟨x, hx⟩ : ∃ x, x = d[(i + j) / 2]! := ⟨_, rfl⟩
      obtain ⟨y, hy⟩ : ∃ y, y = d[m]! := ⟨_, rfl⟩
      rw [← hx] at la
      rw [← hy] at lb
      have hc := S1.out.cmp HC.out HS.out y x
      have HX := Lib.hid hx
      have HY := Lib.hid hy
      clear hx hy
      by_cases hv : cf y x < 0
      · have hd : decide (cf y x < 0) = true := decide_eq_true hv
        go_wp2_with fail
        go_quiet_grown (first | (go_at_fn g; refine Calls.grown_of (hc _ _)))
        have S2 : Hid (SWK enc k w0 blk off d (grow (wr.drewN nq) osq)) := Lib.hid (S1.out.grown nq osq)
        clear la lb hc S1
        generalize grow (wr.drewN nq) osq = w2 at S2 ⊢
        clear nq osq
        go_wp2
        go_roundg ((i + j) / 2 - i)
        case measure => omega
        case rel =>
          refine ⟨i, (i + j) / 2, rfl, by rw [show (((i + j) / 2 : Nat) : Int) = ((i : Int) + (j : Int)) / 2 by omega], by omega, by omega, hmi, Nat.le_refl _, S2, Lib.hid ?_⟩
          have e := HA.out
          refine HH.out.down (by subst e; exact falls2 HSW.out HM.out) (by omega) (by omega) ?_
          show (!ltOf cf d[m]! d[(i + j) / 2]!) = false
          rw [← HX.out, ← HY.out, Bool.not_eq_false']; exact decide_eq_true hv
      · have hd : decide (cf y x < 0) = false := decide_eq_false hv
        go_wp2_with fail
        go_quiet_grown (first | (go_at_fn g; refine Calls.grown_of (hc _ _)))
        have S2 : Hid (SWK enc k w0 blk off d (grow (wr.drewN nq) osq)) := Lib.hid (S1.out.grown nq osq)
        clear la lb hc S1
        generalize grow (wr.drewN nq) osq = w2 at S2 ⊢
        clear nq osq
        go_wp2
        go_roundg (j - ((i + j) / 2 + 1))
        case measure => omega
        case rel =>
          refine ⟨(i + j) / 2 + 1, j, by rw [show (((i + j) / 2 + 1 : Nat) : Int) = ((i : Int) + (j : Int)) / 2 + 1 by omega], rfl, by omega, hjb, by omega, Nat.le_refl _, S2, Lib.hid ?_⟩
          have e := HA.out
          refine HH.out.up (by subst e; exact falls2 HSW.out HM.out) (by omega) (by omega) ?_
          show (!ltOf cf d[m]! d[(i + j) / 2]!) = true
          rw [← HX.out, ← HY.out, Bool.not_eq_true']; exact decide_eq_false (by omega)
    · obtain rfl : i = j := by omega
      clear hlt hij
      go_wp2
      go_loopg [17] (m - i) (fun kx s13 wr => ∃ (x : Nat) (dk : Array α), s13 = .int .i64 x ∧ i ≤ x ∧ x ≤ m ∧ x - i ≤ kx ∧ Hid (SWK enc k w0 blk off dk wr) ∧ Hid (MovedDown d x m dk))
      case atStart => exact ⟨m, d, rfl, hjb, Nat.le_refl _, Nat.le_refl _, S1, Lib.hid (movedDown_start d m (by omega))⟩
      case round =>
        clear S1
        obtain ⟨x, dk, rfl, hax, hxi, hkx, S1, HU⟩ := hrel
        by_cases hlt : i < x
        · obtain ⟨z, rfl⟩ : ∃ z, x = z + 1 := ⟨x - 1, by omega⟩
          have hlz : (i : Int) < (z : Int) + 1 := by omega
          have hlz2 : (i : Int) < ((z + 1 : Nat) : Int) := by omega
          have hds : Hid (dk.size = d.size) := Lib.hid HU.out.1
          have hz := hds.out
          have ea : ((z : Int) + 1).toNat = z + 1 := by omega
          have pa : (0 : Int) ≤ (z : Int) + 1 := by omega
          have ba : (z : Int) + 1 < (d.size : Int) := by omega
          have pc : (0 : Int) ≤ (z : Int) := by omega
          have bc : (z : Int) < (d.size : Int) := by omega
          have rc : IntKind.i64.wrap (z : Int) = (z : Int) := by rw [IntKind.wrap_i64]; omega
          have hk0 : dk.size = d0.size := hz.trans HS.out
          have S2 : Hid (SWK enc k w0 blk off (swp dk (z + 1) z) ((wr.drew.setCells blk (off + (z + 1) * k) (enc dk[z]!)).setCells blk (off + z * k) (enc dk[z + 1]!))) := Lib.hid (S1.out.swapped R (z + 1) z (by omega) (by omega))
          have la := S1.out.ld1 R hk0 Tryz.prog (z + 1) (by omega)
          have lb := S1.out.ld1 R hk0 Tryz.prog z (by omega)
          have sa := S1.out.st1 R hk0 Tryz.prog (z + 1) (by omega) dk[z]!
          have sb := S1.out.st2 R hk0 Tryz.prog (z + 1) z (by omega) (by omega) dk[z]! dk[z + 1]!
          have na : (enc dk[z + 1]!).length = k := R.hk _
          have nb : (enc dk[z]!).length = k := R.hk _
          generalize enc dk[z + 1]! = cI at S2 la sb na
          generalize enc dk[z]! = cJ at S2 lb sa sb nb
          clear S1 hz hk0
          go_wp2_with fail
          go_big_region_o
          clear la lb sa sb
          generalize (wr.drew.setCells blk (off + (z + 1) * k) cJ).setCells blk (off + z * k) cI = w2 at S2 ⊢
          go_wp2
          go_roundg (z - i)
          case measure => omega
          case rel =>
            exact ⟨z, swp dk (z + 1) z, by first | rfl | go_num | (congr 1; omega), by omega, by omega, Nat.le_refl _, S2, Lib.hid (HU.out.step (by omega) (by omega))⟩
        · obtain rfl : x = i := by omega
          have hlz : ¬ ((x : Int) < (x : Int)) := by omega
          go_wp2
          go_end0
          refine ⟨rfl, dk, S1.out, ?_⟩
          have e := HA.out
          subst e
          exact merged2 HSW.out HM.out (by omega) HH.out HU.out
end Go.Proofs.YtepkmgmooadbjaaGreat
end
section
/- Merging in place, the general step, by recursion (slices.symMergeCmpFunc). Written by gen_m3.py. -/
namespace Go.Proofs.YtepkmgmooadbjaaGreat
open Go.ChangeShapes Go.WideShapes Go.ChangeAt Go.RowKit Go.Shelf Go.Lib Go.Sort Go.Proofs
set_option linter.unusedVariables false
variable {α : Type} [Inhabited α]

/-- The merge of shorter rows, by whatever numbers they are named. -/
def MergesBelow (lt : α → α → Bool) (enc : α → List Value) (k : Nat) (cf : α → α → Int) (g : Nat) (cb : Array Value) (blk off cap size N : Nat) (w0 : World) : Prop :=
  ∀ (xa xm xb : Int) (a m b : Nat) (d : Array α) (w : World), xa = a → xm = m → xb = b → b - a < N → d.size = size → SWK enc k w0 blk off d w → a < m → m < b → b ≤ size → Mrg lt (ltOf cf) a m b d →
    Calls Tryz.prog 68 #[.slice (some ⟨blk, off, none⟩) size cap, .int .i64 xa, .int .i64 xm, .int .i64 xb, .func (.func g) #[] cb] w (MergeTo lt enc k w0 blk off a b d)
theorem MergesBelow.at_ {lt : α → α → Bool} {enc : α → List Value} {k : Nat} {cf : α → α → Int} {g : Nat} {cb : Array Value} {blk off cap size N : Nat} {w0 : World} (h : MergesBelow lt enc k cf g cb blk off cap size N w0) :
  ∀ (xa xm xb : Int) (a m b : Nat) (d : Array α) (w : World), xa = a → xm = m → xb = b → b - a < N → d.size = size → SWK enc k w0 blk off d w → a < m → m < b → b ≤ size → Mrg lt (ltOf cf) a m b d →
    Calls Tryz.prog 68 #[.slice (some ⟨blk, off, none⟩) size cap, .int .i64 xa, .int .i64 xm, .int .i64 xb, .func (.func g) #[] cb] w (MergeTo lt enc k w0 blk off a b d) := h
def Turns (enc : α → List Value) (k : Nat) (g : Nat) (cb : Array Value) (blk off cap size : Nat) (w0 : World) : Prop :=
  ∀ (xa xm xb : Int) (a m b : Nat) (d : Array α) (w : World), xa = a → xm = m → xb = b → d.size = size → SWK enc k w0 blk off d w → a < m → m < b → b ≤ size →
    Calls Tryz.prog 98 #[.slice (some ⟨blk, off, none⟩) size cap, .int .i64 xa, .int .i64 xm, .int .i64 xb, .func (.func g) #[] cb] w fun e w' =>
      e = .returned (.tuple #[]) ∧ ∃ d', SWK enc k w0 blk off d' w' ∧ Turned d a m b d'
theorem Turns.at_ {enc : α → List Value} {k g : Nat} {cb : Array Value} {blk off cap size : Nat} {w0 : World} (h : Turns enc k g cb blk off cap size w0) :
  ∀ (xa xm xb : Int) (a m b : Nat) (d : Array α) (w : World), xa = a → xm = m → xb = b → d.size = size → SWK enc k w0 blk off d w → a < m → m < b → b ≤ size →
    Calls Tryz.prog 98 #[.slice (some ⟨blk, off, none⟩) size cap, .int .i64 xa, .int .i64 xm, .int .i64 xb, .func (.func g) #[] cb] w fun e w' =>
      e = .returned (.tuple #[]) ∧ ∃ d', SWK enc k w0 blk off d' w' ∧ Turned d a m b d' := h

set_option maxHeartbeats 16000000 in
set_option maxRecDepth 1000000 in
theorem symMerge_step (k : Nat) (aE : ∀ w, (isAgg 37).run Tryz.prog w = .ok true w) (zE : ∀ w, (Go.sizeOf 37).run Tryz.prog w = .ok k w) (enc : α → List Value) (cf : α → α → Int) (lt : α → α → Bool) (hS : SWO lt) (g : Nat) (cb : Array Value) (blk off cap a m b mid : Nat) (d0 d : Array α) (w0 w : World)
    (eg : ∀ args w, (callFunc g args).run Tryz.prog w = .ok (.enter g args) w) (hcmp : CmpLays Tryz.prog g cb enc k cf blk off d0.size w0) (R : RowK enc k w0 blk off d0) (hs : d.size = d0.size) (S : SWK enc k w0 blk off d w) (hmid : mid = (a + b) / 2) (ham : a + 1 < m) (hmb : m + 1 < b) (hb : b ≤ d.size) (hsz : d.size < 1152921504606846976)
    (hM : Mrg lt (ltOf cf) a m b d) (hI : MergesBelow lt enc k cf g cb blk off cap d.size (b - a) w0) (hT : Turns enc k g cb blk off cap d.size w0) :
    Calls Tryz.prog 68 #[.slice (some ⟨blk, off, none⟩) d.size cap, .int .i64 a, .int .i64 m, .int .i64 b, .func (.func g) #[] cb] w (MergeTo lt enc k w0 blk off a b d) := by
  have mixed : Tryz.prog.follows .mixedOrders = true := by kernel_rfl
  have S0 : Hid (SWK enc k w0 blk off d w) := Lib.hid S
  have HC := Lib.hid hcmp
  have HS := Lib.hid hs
  have HSW := Lib.hid hS
  have HM := Lib.hid hM
  have HI := Lib.hid hI
  have HT := Lib.hid hT
  have hb1 : ((m : Int) - (a : Int) == 1) = false := by simp; omega
  have hb2 : ((b : Int) - (m : Int) == 1) = false := by simp; omega
  have hq : ((a : Int) + (b : Int)) / 2 = (mid : Int) := by omega
  have hmid1 : a + b ≤ 2 * mid + 1 := by omega
  have hmid2 : 2 * mid ≤ a + b := by omega
  clear S hcmp hs hS hM hmid hI hT
  by_cases hgm : mid < m
  ·
    have hd0 : decide (mid < m) = true := decide_eq_true (by omega)
    go_enter Tryz.func68, Tryz.ntmps68
    go_wp2
    clear hb1 hb2 hd0
    go_loopg [20, 21] (b - a) (fun kx s20 s21 wr => ∃ (i j : Nat), s20 = .int .i64 i ∧ s21 = .int .i64 j ∧ i ≤ j ∧ j ≤ mid ∧ (mid + m - b) ≤ i ∧ j - i ≤ kx ∧ Hid (SWK enc k w0 blk off d wr) ∧ Hid (Half (fun x => !ltOf cf d[mid + m - 1 - x]! d[x]!) (mid + m - b) mid i j))
    case atStart => exact ⟨(mid + m - b), mid, by rw [show ((mid + m - b : Nat) : Int) = (mid : Int) + (m : Int) - (b : Int) by omega], rfl, by omega, Nat.le_refl _, Nat.le_refl _, by omega, S0, Lib.hid (Half.start (by omega))⟩
    case round =>
      clear S0
      obtain ⟨i, j, rfl, rfl, hij, hjb, hmi, hkx, S1, HH⟩ := hrel
      by_cases hlt : i < j
      · obtain ⟨c, hcn⟩ : ∃ c, c = (i + j) / 2 := ⟨_, rfl⟩
        have hci : i ≤ c := by omega
        have hcj : c < j := by omega
        obtain ⟨pp, hpn⟩ : ∃ pp, pp = mid + m - 1 - c := ⟨_, rfl⟩
        have hpp : pp + c + 1 = mid + m := by omega
        have hcq : ((i : Int) + (j : Int)) / 2 = (c : Int) := by omega
        have hpq : IntKind.i64.wrap ((mid : Int) + (m : Int) - 1 - (c : Int)) = (pp : Int) := by rw [IntKind.wrap_i64]; omega
        have hpq2 : (mid : Int) + (m : Int) - 1 - (c : Int) = (pp : Int) := by omega
        have hpw : IntKind.i64.wrap (pp : Int) = (pp : Int) := by rw [IntKind.wrap_i64]; omega
        have bc1 : (c : Int) < (d.size : Int) := by omega
        have bp1 : (pp : Int) < (d.size : Int) := by omega
        have bc2 : c < d.size := by omega
        have bp2 : pp < d.size := by omega
        have HPN := Lib.hid hpn
        clear hcn hpn
        have la := S1.out.ld R HS.out Tryz.prog c bc2
        have lb := S1.out.ld R HS.out Tryz.prog pp bp2
        obtain ⟨x, hx⟩ : ∃ x, x = d[c]! := ⟨_, rfl⟩
        obtain ⟨y, hy⟩ : ∃ y, y = d[pp]! := ⟨_, rfl⟩
        rw [← hx] at la
        rw [← hy] at lb
        have hc := S1.out.cmp HC.out HS.out y x
        have HX := Lib.hid hx
        have HY := Lib.hid hy
        clear hx hy
        by_cases hv : cf y x < 0
        ·
          have hd : decide (cf y x < 0) = true := decide_eq_true hv
          go_wp2_with fail
          go_quiet_grown (first | (go_at_fn g; refine Calls.grown_of (hc _ _)))
          have S2 : Hid (SWK enc k w0 blk off d (grow (wr.drewN nq) osq)) := Lib.hid (S1.out.grown nq osq)
          clear la lb hc S1
          generalize grow (wr.drewN nq) osq = w2 at S2 ⊢
          clear nq osq
          go_wp2
          clear hcq hpq hpq2 hpw
          go_roundg (c - i)
          case measure => omega
          case rel =>
            refine ⟨i, c, rfl, rfl, by omega, by omega, hmi, Nat.le_refl _, S2, Lib.hid ?_⟩
            refine HH.out.down (falls3 HSW.out HM.out (by omega) (by omega) (by omega) (by omega)) (by omega) (by omega) ?_
            show (!ltOf cf d[mid + m - 1 - c]! d[c]!) = false
            rw [← HPN.out, ← HX.out, ← HY.out, Bool.not_eq_false']; exact decide_eq_true hv
        ·
          have hd : decide (cf y x < 0) = false := decide_eq_false hv
          go_wp2_with fail
          go_quiet_grown (first | (go_at_fn g; refine Calls.grown_of (hc _ _)))
          have S2 : Hid (SWK enc k w0 blk off d (grow (wr.drewN nq) osq)) := Lib.hid (S1.out.grown nq osq)
          clear la lb hc S1
          generalize grow (wr.drewN nq) osq = w2 at S2 ⊢
          clear nq osq
          go_wp2
          clear hcq hpq hpq2 hpw
          go_roundg (j - (c + 1))
          case measure => omega
          case rel =>
            refine ⟨c + 1, j, by go_num, rfl, by omega, hjb, by omega, Nat.le_refl _, S2, Lib.hid ?_⟩
            refine HH.out.up (falls3 HSW.out HM.out (by omega) (by omega) (by omega) (by omega)) (by omega) (by omega) ?_
            show (!ltOf cf d[mid + m - 1 - c]! d[c]!) = true
            rw [← HPN.out, ← HX.out, ← HY.out, Bool.not_eq_true']; exact decide_eq_false (by omega)
      · obtain rfl : i = j := by omega
        clear hlt hij
        obtain ⟨en, hen⟩ : ∃ en, en = mid + m - i := ⟨_, rfl⟩
        have he1 : i + en = mid + m := by omega
        have he2 : m ≤ en := by omega
        have he3 : en ≤ b := by omega
        have hsa : a ≤ i := by omega
        have hsm : i ≤ m := by omega
        have hez : (mid : Int) + (m : Int) - (i : Int) = (en : Int) := by omega
        have C1 : Hid (i = a ∨ en = b ∨ (a < i ∧ en < b ∧ lt d[en]! d[i - 1]! = false)) := Lib.hid (by
          rcases Nat.lt_or_ge en b with h | h
          · have hq := HH.out.yes (i - 1) (by omega) (by omega)
            have hq : (!ltOf cf d[mid + m - 1 - (i - 1)]! d[i - 1]!) = true := hq
            rw [Bool.not_eq_true', show mid + m - 1 - (i - 1) = en by omega, HM.out.agree (i - 1) en (by omega) (by omega) (by omega) (by omega)] at hq
            exact .inr (.inr ⟨by omega, h, hq⟩)
          · exact .inr (.inl (by omega)))
        have C2 : Hid (i = m ∨ en = m ∨ (i < m ∧ m < en ∧ lt d[en - 1]! d[i]! = true)) := Lib.hid (by
          rcases Nat.lt_or_ge m en with h | h
          · have hq := HH.out.no i (Nat.le_refl _) (by omega)
            have hq : (!ltOf cf d[mid + m - 1 - i]! d[i]!) = false := hq
            rw [Bool.not_eq_false', show mid + m - 1 - i = en - 1 by omega, HM.out.agree i (en - 1) (by omega) (by omega) (by omega) (by omega)] at hq
            exact .inr (.inr ⟨by omega, h, hq⟩)
          · exact .inr (.inl (by omega)))
        clear hen hkx HH hmi hjb
        by_cases ht1 : i < m
        · by_cases ht2 : m < en
          ·
            by_cases hL1 : a < i
            ·
              by_cases hR2 : en < b
              ·
                have hd1 : decide (i < m) = true := decide_eq_true ht1
                have hd2 : decide (m < en) = true := decide_eq_true ht2
                have hdL1 : decide (a < i) = true := decide_eq_true (by omega)
                have hdL2 : decide (i < mid) = true := decide_eq_true (by omega)
                have hdR1 : decide (mid < en) = true := decide_eq_true (by omega)
                have hdR2 : decide (en < b) = true := decide_eq_true (by omega)
                go_wp2_with (first | (go_at_call 98; ((with_reducible refine (HT.out.at_ (i : Int) (m : Int) (en : Int) i m en d _ rfl rfl rfl rfl S1.out ht1 ht2 (by omega)).mono ?_); rintro e w2 ⟨rfl, d1, S2', hturn⟩; have HCut := Lib.hid (cut_of HSW.out HM.out hb hsa hsm he2 he3 he1 C1.out C2.out hturn.1 hturn.2.1 hturn.2.2); have HZ1 := Lib.hid hturn.1; have S2 := Lib.hid S2'; clear S2' hturn)) | (go_at_call 68; ((with_reducible refine (HI.out.at_ (a : Int) (i : Int) (mid : Int) a i mid _ _ rfl rfl rfl (by omega) HZ1.out S2.out (by omega) (by omega) (by omega) HCut.out.mrgL).mono ?_); rintro e w3 ⟨rfl, d2, S3', hm2'⟩; have hm2 := Lib.hid hm2'; have hz2 := Lib.hid (hm2'.1.trans HZ1.out); have S3 := Lib.hid S3'; clear S3' hm2')) | (go_at_call 68; ((with_reducible refine (HI.out.at_ (mid : Int) (en : Int) (b : Int) mid en b _ _ rfl rfl rfl (by omega) hz2.out S3.out (by omega) (by omega) (by omega) (cut_R HSW.out HCut.out hm2.out)).mono ?_); rintro e w4 ⟨rfl, d3, S4, hm3⟩)))
                go_end0
                exact ⟨rfl, _, S4, cut_end HSW.out HCut.out hb hm2.out hm3⟩
              ·
                have hd1 : decide (i < m) = true := decide_eq_true ht1
                have hd2 : decide (m < en) = true := decide_eq_true ht2
                have hdL1 : decide (a < i) = true := decide_eq_true (by omega)
                have hdL2 : decide (i < mid) = true := decide_eq_true (by omega)
                have hdR1 : decide (mid < en) = true := decide_eq_true (by omega)
                have hdR2 : decide (en < b) = false := decide_eq_false (by omega)
                go_wp2_with (first | (go_at_call 98; ((with_reducible refine (HT.out.at_ (i : Int) (m : Int) (en : Int) i m en d _ rfl rfl rfl rfl S1.out ht1 ht2 (by omega)).mono ?_); rintro e w2 ⟨rfl, d1, S2', hturn⟩; have HCut := Lib.hid (cut_of HSW.out HM.out hb hsa hsm he2 he3 he1 C1.out C2.out hturn.1 hturn.2.1 hturn.2.2); have HZ1 := Lib.hid hturn.1; have S2 := Lib.hid S2'; clear S2' hturn)) | (go_at_call 68; ((with_reducible refine (HI.out.at_ (a : Int) (i : Int) (mid : Int) a i mid _ _ rfl rfl rfl (by omega) HZ1.out S2.out (by omega) (by omega) (by omega) HCut.out.mrgL).mono ?_); rintro e w3 ⟨rfl, d2, S3', hm2'⟩; have hm2 := Lib.hid hm2'; have hz2 := Lib.hid (hm2'.1.trans HZ1.out); have S3 := Lib.hid S3'; clear S3' hm2')))
                go_end0
                exact ⟨rfl, _, S3.out, cut_end HSW.out HCut.out hb hm2.out (cut_skipR HSW.out HCut.out (by omega) hm2.out)⟩
            ·
              by_cases hR2 : en < b
              ·
                have hd1 : decide (i < m) = true := decide_eq_true ht1
                have hd2 : decide (m < en) = true := decide_eq_true ht2
                have hdL1 : decide (a < i) = false := decide_eq_false (by omega)
                have hdR1 : decide (mid < en) = true := decide_eq_true (by omega)
                have hdR2 : decide (en < b) = true := decide_eq_true (by omega)
                go_wp2_with (first | (go_at_call 98; ((with_reducible refine (HT.out.at_ (i : Int) (m : Int) (en : Int) i m en d _ rfl rfl rfl rfl S1.out ht1 ht2 (by omega)).mono ?_); rintro e w2 ⟨rfl, d1, S2', hturn⟩; have HCut := Lib.hid (cut_of HSW.out HM.out hb hsa hsm he2 he3 he1 C1.out C2.out hturn.1 hturn.2.1 hturn.2.2); have HZ1 := Lib.hid hturn.1; have S2 := Lib.hid S2'; clear S2' hturn)) | (go_at_call 68; ((with_reducible refine (HI.out.at_ (mid : Int) (en : Int) (b : Int) mid en b _ _ rfl rfl rfl (by omega) HZ1.out S2.out (by omega) (by omega) (by omega) (cut_R HSW.out HCut.out (cut_skipL HSW.out HCut.out (by omega)))).mono ?_); rintro e w4 ⟨rfl, d3, S4, hm3⟩)))
                go_end0
                exact ⟨rfl, _, S4, cut_end HSW.out HCut.out hb (cut_skipL HSW.out HCut.out (by omega)) hm3⟩
              ·
                have hd1 : decide (i < m) = true := decide_eq_true ht1
                have hd2 : decide (m < en) = true := decide_eq_true ht2
                have hdL1 : decide (a < i) = false := decide_eq_false (by omega)
                have hdR1 : decide (mid < en) = true := decide_eq_true (by omega)
                have hdR2 : decide (en < b) = false := decide_eq_false (by omega)
                go_wp2_with (first | (go_at_call 98; ((with_reducible refine (HT.out.at_ (i : Int) (m : Int) (en : Int) i m en d _ rfl rfl rfl rfl S1.out ht1 ht2 (by omega)).mono ?_); rintro e w2 ⟨rfl, d1, S2', hturn⟩; have HCut := Lib.hid (cut_of HSW.out HM.out hb hsa hsm he2 he3 he1 C1.out C2.out hturn.1 hturn.2.1 hturn.2.2); have HZ1 := Lib.hid hturn.1; have S2 := Lib.hid S2'; clear S2' hturn)))
                go_end0
                exact ⟨rfl, _, S2.out, cut_end HSW.out HCut.out hb (cut_skipL HSW.out HCut.out (by omega)) (cut_skipR HSW.out HCut.out (by omega) (cut_skipL HSW.out HCut.out (by omega)))⟩
          ·
            have HCut := Lib.hid (cut_of HSW.out HM.out hb hsa hsm he2 he3 he1 C1.out C2.out rfl (permIn_refl _ _ _) (turned_none (.inr (by omega))))
            have S2 := Lib.hid S1.out
            have HZ1 : Hid (d.size = d.size) := Lib.hid rfl
            have hd1 : decide (i < m) = true := decide_eq_true ht1
            have hd2 : decide (m < en) = false := decide_eq_false ht2
            by_cases hR2 : en < b
            ·
              have hdL1 : decide (a < i) = true := decide_eq_true (by omega)
              have hdL2 : decide (i < mid) = false := decide_eq_false (by omega)
              have hdR1 : decide (mid < en) = true := decide_eq_true (by omega)
              have hdR2 : decide (en < b) = true := decide_eq_true (by omega)
              go_wp2_with (first | (go_at_call 68; ((with_reducible refine (HI.out.at_ (mid : Int) (en : Int) (b : Int) mid en b _ _ rfl rfl rfl (by omega) HZ1.out S2.out (by omega) (by omega) (by omega) (cut_R HSW.out HCut.out (cut_skipL HSW.out HCut.out (by omega)))).mono ?_); rintro e w4 ⟨rfl, d3, S4, hm3⟩)))
              go_end0
              exact ⟨rfl, _, S4, cut_end HSW.out HCut.out hb (cut_skipL HSW.out HCut.out (by omega)) hm3⟩
            ·
              have hdL1 : decide (a < i) = true := decide_eq_true (by omega)
              have hdL2 : decide (i < mid) = false := decide_eq_false (by omega)
              have hdR1 : decide (mid < en) = true := decide_eq_true (by omega)
              have hdR2 : decide (en < b) = false := decide_eq_false (by omega)
              go_wp2
              go_end0
              exact ⟨rfl, _, S2.out, cut_end HSW.out HCut.out hb (cut_skipL HSW.out HCut.out (by omega)) (cut_skipR HSW.out HCut.out (by omega) (cut_skipL HSW.out HCut.out (by omega)))⟩
        ·
          have HCut := Lib.hid (cut_of HSW.out HM.out hb hsa hsm he2 he3 he1 C1.out C2.out rfl (permIn_refl _ _ _) (turned_none (.inl (by omega))))
          have S2 := Lib.hid S1.out
          have HZ1 : Hid (d.size = d.size) := Lib.hid rfl
          have hd1 : decide (i < m) = false := decide_eq_false ht1
          by_cases hL1 : a < i
          · by_cases hL2 : i < mid
            ·
              have hdL1 : decide (a < i) = true := decide_eq_true (by omega)
              have hdL2 : decide (i < mid) = true := decide_eq_true (by omega)
              have hdR1 : decide (mid < en) = false := decide_eq_false (by omega)
              go_wp2_with (first | (go_at_call 68; ((with_reducible refine (HI.out.at_ (a : Int) (i : Int) (mid : Int) a i mid _ _ rfl rfl rfl (by omega) HZ1.out S2.out (by omega) (by omega) (by omega) HCut.out.mrgL).mono ?_); rintro e w3 ⟨rfl, d2, S3', hm2'⟩; have hm2 := Lib.hid hm2'; have hz2 := Lib.hid (hm2'.1.trans HZ1.out); have S3 := Lib.hid S3'; clear S3' hm2')))
              go_end0
              exact ⟨rfl, _, S3.out, cut_end HSW.out HCut.out hb hm2.out (cut_skipR HSW.out HCut.out (by omega) hm2.out)⟩
            ·
              have hdL1 : decide (a < i) = true := decide_eq_true (by omega)
              have hdL2 : decide (i < mid) = false := decide_eq_false (by omega)
              have hdR1 : decide (mid < en) = false := decide_eq_false (by omega)
              go_wp2
              go_end0
              exact ⟨rfl, _, S2.out, cut_end HSW.out HCut.out hb (cut_skipL HSW.out HCut.out (by omega)) (cut_skipR HSW.out HCut.out (by omega) (cut_skipL HSW.out HCut.out (by omega)))⟩
          ·
            have hdL1 : decide (a < i) = false := decide_eq_false (by omega)
            have hdR1 : decide (mid < en) = false := decide_eq_false (by omega)
            go_wp2
            go_end0
            exact ⟨rfl, _, S2.out, cut_end HSW.out HCut.out hb (cut_skipL HSW.out HCut.out (by omega)) (cut_skipR HSW.out HCut.out (by omega) (cut_skipL HSW.out HCut.out (by omega)))⟩
  ·
    have hd0 : decide (mid < m) = false := decide_eq_false (by omega)
    go_enter Tryz.func68, Tryz.ntmps68
    go_wp2
    clear hb1 hb2 hd0
    go_loopg [20, 21] (b - a) (fun kx s20 s21 wr => ∃ (i j : Nat), s20 = .int .i64 i ∧ s21 = .int .i64 j ∧ i ≤ j ∧ j ≤ m ∧ a ≤ i ∧ j - i ≤ kx ∧ Hid (SWK enc k w0 blk off d wr) ∧ Hid (Half (fun x => !ltOf cf d[mid + m - 1 - x]! d[x]!) a m i j))
    case atStart => exact ⟨a, m, rfl, rfl, by omega, Nat.le_refl _, Nat.le_refl _, by omega, S0, Lib.hid (Half.start (by omega))⟩
    case round =>
      clear S0
      obtain ⟨i, j, rfl, rfl, hij, hjb, hmi, hkx, S1, HH⟩ := hrel
      by_cases hlt : i < j
      · obtain ⟨c, hcn⟩ : ∃ c, c = (i + j) / 2 := ⟨_, rfl⟩
        have hci : i ≤ c := by omega
        have hcj : c < j := by omega
        obtain ⟨pp, hpn⟩ : ∃ pp, pp = mid + m - 1 - c := ⟨_, rfl⟩
        have hpp : pp + c + 1 = mid + m := by omega
        have hcq : ((i : Int) + (j : Int)) / 2 = (c : Int) := by omega
        have hpq : IntKind.i64.wrap ((mid : Int) + (m : Int) - 1 - (c : Int)) = (pp : Int) := by rw [IntKind.wrap_i64]; omega
        have hpq2 : (mid : Int) + (m : Int) - 1 - (c : Int) = (pp : Int) := by omega
        have hpw : IntKind.i64.wrap (pp : Int) = (pp : Int) := by rw [IntKind.wrap_i64]; omega
        have bc1 : (c : Int) < (d.size : Int) := by omega
        have bp1 : (pp : Int) < (d.size : Int) := by omega
        have bc2 : c < d.size := by omega
        have bp2 : pp < d.size := by omega
        have HPN := Lib.hid hpn
        clear hcn hpn
        have la := S1.out.ld R HS.out Tryz.prog c bc2
        have lb := S1.out.ld R HS.out Tryz.prog pp bp2
        obtain ⟨x, hx⟩ : ∃ x, x = d[c]! := ⟨_, rfl⟩
        obtain ⟨y, hy⟩ : ∃ y, y = d[pp]! := ⟨_, rfl⟩
        rw [← hx] at la
        rw [← hy] at lb
        have hc := S1.out.cmp HC.out HS.out y x
        have HX := Lib.hid hx
        have HY := Lib.hid hy
        clear hx hy
        by_cases hv : cf y x < 0
        ·
          have hd : decide (cf y x < 0) = true := decide_eq_true hv
          go_wp2_with fail
          go_quiet_grown (first | (go_at_fn g; refine Calls.grown_of (hc _ _)))
          have S2 : Hid (SWK enc k w0 blk off d (grow (wr.drewN nq) osq)) := Lib.hid (S1.out.grown nq osq)
          clear la lb hc S1
          generalize grow (wr.drewN nq) osq = w2 at S2 ⊢
          clear nq osq
          go_wp2
          clear hcq hpq hpq2 hpw
          go_roundg (c - i)
          case measure => omega
          case rel =>
            refine ⟨i, c, rfl, rfl, by omega, by omega, hmi, Nat.le_refl _, S2, Lib.hid ?_⟩
            refine HH.out.down (falls3 HSW.out HM.out (by omega) (by omega) (by omega) (by omega)) (by omega) (by omega) ?_
            show (!ltOf cf d[mid + m - 1 - c]! d[c]!) = false
            rw [← HPN.out, ← HX.out, ← HY.out, Bool.not_eq_false']; exact decide_eq_true hv
        ·
          have hd : decide (cf y x < 0) = false := decide_eq_false hv
          go_wp2_with fail
          go_quiet_grown (first | (go_at_fn g; refine Calls.grown_of (hc _ _)))
          have S2 : Hid (SWK enc k w0 blk off d (grow (wr.drewN nq) osq)) := Lib.hid (S1.out.grown nq osq)
          clear la lb hc S1
          generalize grow (wr.drewN nq) osq = w2 at S2 ⊢
          clear nq osq
          go_wp2
          clear hcq hpq hpq2 hpw
          go_roundg (j - (c + 1))
          case measure => omega
          case rel =>
            refine ⟨c + 1, j, by go_num, rfl, by omega, hjb, by omega, Nat.le_refl _, S2, Lib.hid ?_⟩
            refine HH.out.up (falls3 HSW.out HM.out (by omega) (by omega) (by omega) (by omega)) (by omega) (by omega) ?_
            show (!ltOf cf d[mid + m - 1 - c]! d[c]!) = true
            rw [← HPN.out, ← HX.out, ← HY.out, Bool.not_eq_true']; exact decide_eq_false (by omega)
      · obtain rfl : i = j := by omega
        clear hlt hij
        obtain ⟨en, hen⟩ : ∃ en, en = mid + m - i := ⟨_, rfl⟩
        have he1 : i + en = mid + m := by omega
        have he2 : m ≤ en := by omega
        have he3 : en ≤ b := by omega
        have hsa : a ≤ i := by omega
        have hsm : i ≤ m := by omega
        have hez : (mid : Int) + (m : Int) - (i : Int) = (en : Int) := by omega
        have C1 : Hid (i = a ∨ en = b ∨ (a < i ∧ en < b ∧ lt d[en]! d[i - 1]! = false)) := Lib.hid (by
          rcases Nat.lt_or_ge a i with h | h
          · have hq := HH.out.yes (i - 1) (by omega) (by omega)
            have hq : (!ltOf cf d[mid + m - 1 - (i - 1)]! d[i - 1]!) = true := hq
            rw [Bool.not_eq_true', show mid + m - 1 - (i - 1) = en by omega, HM.out.agree (i - 1) en (by omega) (by omega) (by omega) (by omega)] at hq
            exact .inr (.inr ⟨h, by omega, hq⟩)
          · exact .inl (by omega))
        have C2 : Hid (i = m ∨ en = m ∨ (i < m ∧ m < en ∧ lt d[en - 1]! d[i]! = true)) := Lib.hid (by
          rcases Nat.lt_or_ge i m with h | h
          · have hq := HH.out.no i (Nat.le_refl _) (by omega)
            have hq : (!ltOf cf d[mid + m - 1 - i]! d[i]!) = false := hq
            rw [Bool.not_eq_false', show mid + m - 1 - i = en - 1 by omega, HM.out.agree i (en - 1) (by omega) (by omega) (by omega) (by omega)] at hq
            exact .inr (.inr ⟨h, by omega, hq⟩)
          · exact .inl (by omega))
        clear hen hkx HH hmi hjb
        by_cases ht1 : i < m
        · by_cases ht2 : m < en
          ·
            by_cases hL1 : a < i
            ·
              by_cases hR2 : en < b
              ·
                have hd1 : decide (i < m) = true := decide_eq_true ht1
                have hd2 : decide (m < en) = true := decide_eq_true ht2
                have hdL1 : decide (a < i) = true := decide_eq_true (by omega)
                have hdL2 : decide (i < mid) = true := decide_eq_true (by omega)
                have hdR1 : decide (mid < en) = true := decide_eq_true (by omega)
                have hdR2 : decide (en < b) = true := decide_eq_true (by omega)
                go_wp2_with (first | (go_at_call 98; ((with_reducible refine (HT.out.at_ (i : Int) (m : Int) (en : Int) i m en d _ rfl rfl rfl rfl S1.out ht1 ht2 (by omega)).mono ?_); rintro e w2 ⟨rfl, d1, S2', hturn⟩; have HCut := Lib.hid (cut_of HSW.out HM.out hb hsa hsm he2 he3 he1 C1.out C2.out hturn.1 hturn.2.1 hturn.2.2); have HZ1 := Lib.hid hturn.1; have S2 := Lib.hid S2'; clear S2' hturn)) | (go_at_call 68; ((with_reducible refine (HI.out.at_ (a : Int) (i : Int) (mid : Int) a i mid _ _ rfl rfl rfl (by omega) HZ1.out S2.out (by omega) (by omega) (by omega) HCut.out.mrgL).mono ?_); rintro e w3 ⟨rfl, d2, S3', hm2'⟩; have hm2 := Lib.hid hm2'; have hz2 := Lib.hid (hm2'.1.trans HZ1.out); have S3 := Lib.hid S3'; clear S3' hm2')) | (go_at_call 68; ((with_reducible refine (HI.out.at_ (mid : Int) (en : Int) (b : Int) mid en b _ _ rfl rfl rfl (by omega) hz2.out S3.out (by omega) (by omega) (by omega) (cut_R HSW.out HCut.out hm2.out)).mono ?_); rintro e w4 ⟨rfl, d3, S4, hm3⟩)))
                go_end0
                exact ⟨rfl, _, S4, cut_end HSW.out HCut.out hb hm2.out hm3⟩
              ·
                have hd1 : decide (i < m) = true := decide_eq_true ht1
                have hd2 : decide (m < en) = true := decide_eq_true ht2
                have hdL1 : decide (a < i) = true := decide_eq_true (by omega)
                have hdL2 : decide (i < mid) = true := decide_eq_true (by omega)
                have hdR1 : decide (mid < en) = true := decide_eq_true (by omega)
                have hdR2 : decide (en < b) = false := decide_eq_false (by omega)
                go_wp2_with (first | (go_at_call 98; ((with_reducible refine (HT.out.at_ (i : Int) (m : Int) (en : Int) i m en d _ rfl rfl rfl rfl S1.out ht1 ht2 (by omega)).mono ?_); rintro e w2 ⟨rfl, d1, S2', hturn⟩; have HCut := Lib.hid (cut_of HSW.out HM.out hb hsa hsm he2 he3 he1 C1.out C2.out hturn.1 hturn.2.1 hturn.2.2); have HZ1 := Lib.hid hturn.1; have S2 := Lib.hid S2'; clear S2' hturn)) | (go_at_call 68; ((with_reducible refine (HI.out.at_ (a : Int) (i : Int) (mid : Int) a i mid _ _ rfl rfl rfl (by omega) HZ1.out S2.out (by omega) (by omega) (by omega) HCut.out.mrgL).mono ?_); rintro e w3 ⟨rfl, d2, S3', hm2'⟩; have hm2 := Lib.hid hm2'; have hz2 := Lib.hid (hm2'.1.trans HZ1.out); have S3 := Lib.hid S3'; clear S3' hm2')))
                go_end0
                exact ⟨rfl, _, S3.out, cut_end HSW.out HCut.out hb hm2.out (cut_skipR HSW.out HCut.out (by omega) hm2.out)⟩
            ·
              by_cases hR2 : en < b
              ·
                have hd1 : decide (i < m) = true := decide_eq_true ht1
                have hd2 : decide (m < en) = true := decide_eq_true ht2
                have hdL1 : decide (a < i) = false := decide_eq_false (by omega)
                have hdR1 : decide (mid < en) = true := decide_eq_true (by omega)
                have hdR2 : decide (en < b) = true := decide_eq_true (by omega)
                go_wp2_with (first | (go_at_call 98; ((with_reducible refine (HT.out.at_ (i : Int) (m : Int) (en : Int) i m en d _ rfl rfl rfl rfl S1.out ht1 ht2 (by omega)).mono ?_); rintro e w2 ⟨rfl, d1, S2', hturn⟩; have HCut := Lib.hid (cut_of HSW.out HM.out hb hsa hsm he2 he3 he1 C1.out C2.out hturn.1 hturn.2.1 hturn.2.2); have HZ1 := Lib.hid hturn.1; have S2 := Lib.hid S2'; clear S2' hturn)) | (go_at_call 68; ((with_reducible refine (HI.out.at_ (mid : Int) (en : Int) (b : Int) mid en b _ _ rfl rfl rfl (by omega) HZ1.out S2.out (by omega) (by omega) (by omega) (cut_R HSW.out HCut.out (cut_skipL HSW.out HCut.out (by omega)))).mono ?_); rintro e w4 ⟨rfl, d3, S4, hm3⟩)))
                go_end0
                exact ⟨rfl, _, S4, cut_end HSW.out HCut.out hb (cut_skipL HSW.out HCut.out (by omega)) hm3⟩
              ·
                have hd1 : decide (i < m) = true := decide_eq_true ht1
                have hd2 : decide (m < en) = true := decide_eq_true ht2
                have hdL1 : decide (a < i) = false := decide_eq_false (by omega)
                have hdR1 : decide (mid < en) = true := decide_eq_true (by omega)
                have hdR2 : decide (en < b) = false := decide_eq_false (by omega)
                go_wp2_with (first | (go_at_call 98; ((with_reducible refine (HT.out.at_ (i : Int) (m : Int) (en : Int) i m en d _ rfl rfl rfl rfl S1.out ht1 ht2 (by omega)).mono ?_); rintro e w2 ⟨rfl, d1, S2', hturn⟩; have HCut := Lib.hid (cut_of HSW.out HM.out hb hsa hsm he2 he3 he1 C1.out C2.out hturn.1 hturn.2.1 hturn.2.2); have HZ1 := Lib.hid hturn.1; have S2 := Lib.hid S2'; clear S2' hturn)))
                go_end0
                exact ⟨rfl, _, S2.out, cut_end HSW.out HCut.out hb (cut_skipL HSW.out HCut.out (by omega)) (cut_skipR HSW.out HCut.out (by omega) (cut_skipL HSW.out HCut.out (by omega)))⟩
          ·
            have HCut := Lib.hid (cut_of HSW.out HM.out hb hsa hsm he2 he3 he1 C1.out C2.out rfl (permIn_refl _ _ _) (turned_none (.inr (by omega))))
            have S2 := Lib.hid S1.out
            have HZ1 : Hid (d.size = d.size) := Lib.hid rfl
            have hd1 : decide (i < m) = true := decide_eq_true ht1
            have hd2 : decide (m < en) = false := decide_eq_false ht2
            by_cases hR2 : en < b
            ·
              have hdL1 : decide (a < i) = true := decide_eq_true (by omega)
              have hdL2 : decide (i < mid) = false := decide_eq_false (by omega)
              have hdR1 : decide (mid < en) = true := decide_eq_true (by omega)
              have hdR2 : decide (en < b) = true := decide_eq_true (by omega)
              go_wp2_with (first | (go_at_call 68; ((with_reducible refine (HI.out.at_ (mid : Int) (en : Int) (b : Int) mid en b _ _ rfl rfl rfl (by omega) HZ1.out S2.out (by omega) (by omega) (by omega) (cut_R HSW.out HCut.out (cut_skipL HSW.out HCut.out (by omega)))).mono ?_); rintro e w4 ⟨rfl, d3, S4, hm3⟩)))
              go_end0
              exact ⟨rfl, _, S4, cut_end HSW.out HCut.out hb (cut_skipL HSW.out HCut.out (by omega)) hm3⟩
            ·
              have hdL1 : decide (a < i) = true := decide_eq_true (by omega)
              have hdL2 : decide (i < mid) = false := decide_eq_false (by omega)
              have hdR1 : decide (mid < en) = true := decide_eq_true (by omega)
              have hdR2 : decide (en < b) = false := decide_eq_false (by omega)
              go_wp2
              go_end0
              exact ⟨rfl, _, S2.out, cut_end HSW.out HCut.out hb (cut_skipL HSW.out HCut.out (by omega)) (cut_skipR HSW.out HCut.out (by omega) (cut_skipL HSW.out HCut.out (by omega)))⟩
        ·
          have HCut := Lib.hid (cut_of HSW.out HM.out hb hsa hsm he2 he3 he1 C1.out C2.out rfl (permIn_refl _ _ _) (turned_none (.inl (by omega))))
          have S2 := Lib.hid S1.out
          have HZ1 : Hid (d.size = d.size) := Lib.hid rfl
          have hd1 : decide (i < m) = false := decide_eq_false ht1
          by_cases hL1 : a < i
          · by_cases hL2 : i < mid
            ·
              have hdL1 : decide (a < i) = true := decide_eq_true (by omega)
              have hdL2 : decide (i < mid) = true := decide_eq_true (by omega)
              have hdR1 : decide (mid < en) = false := decide_eq_false (by omega)
              go_wp2_with (first | (go_at_call 68; ((with_reducible refine (HI.out.at_ (a : Int) (i : Int) (mid : Int) a i mid _ _ rfl rfl rfl (by omega) HZ1.out S2.out (by omega) (by omega) (by omega) HCut.out.mrgL).mono ?_); rintro e w3 ⟨rfl, d2, S3', hm2'⟩; have hm2 := Lib.hid hm2'; have hz2 := Lib.hid (hm2'.1.trans HZ1.out); have S3 := Lib.hid S3'; clear S3' hm2')))
              go_end0
              exact ⟨rfl, _, S3.out, cut_end HSW.out HCut.out hb hm2.out (cut_skipR HSW.out HCut.out (by omega) hm2.out)⟩
            ·
              have hdL1 : decide (a < i) = true := decide_eq_true (by omega)
              have hdL2 : decide (i < mid) = false := decide_eq_false (by omega)
              have hdR1 : decide (mid < en) = false := decide_eq_false (by omega)
              go_wp2
              go_end0
              exact ⟨rfl, _, S2.out, cut_end HSW.out HCut.out hb (cut_skipL HSW.out HCut.out (by omega)) (cut_skipR HSW.out HCut.out (by omega) (cut_skipL HSW.out HCut.out (by omega)))⟩
          ·
            have hdL1 : decide (a < i) = false := decide_eq_false (by omega)
            have hdR1 : decide (mid < en) = false := decide_eq_false (by omega)
            go_wp2
            go_end0
            exact ⟨rfl, _, S2.out, cut_end HSW.out HCut.out hb (cut_skipL HSW.out HCut.out (by omega)) (cut_skipR HSW.out HCut.out (by omega) (cut_skipL HSW.out HCut.out (by omega)))⟩
end Go.Proofs.YtepkmgmooadbjaaGreat
end
section
/- Merging in place (slices.symMergeCmpFunc), whatever rows. -/
namespace Go.Proofs.YtepkmgmooadbjaaGreat
open Go.ChangeShapes Go.WideShapes Go.ChangeAt Go.RowKit Go.Shelf Go.Lib Go.Sort Go.Proofs
set_option linter.unusedVariables false
variable {α : Type} [Inhabited α]

theorem merges (k : Nat) (aE : ∀ w, (isAgg 37).run Tryz.prog w = .ok true w) (zE : ∀ w, (Go.sizeOf 37).run Tryz.prog w = .ok k w) (enc : α → List Value) (cf : α → α → Int) (lt : α → α → Bool) (hS : SWO lt) (g : Nat) (cb : Array Value) (blk off cap : Nat) (d0 : Array α) (w0 : World)
    (eg : ∀ args w, (callFunc g args).run Tryz.prog w = .ok (.enter g args) w) (hcmp : CmpLays Tryz.prog g cb enc k cf blk off d0.size w0) (R : RowK enc k w0 blk off d0) (hsz : d0.size < 1152921504606846976) :
    ∀ N, MergesBelow lt enc k cf g cb blk off cap d0.size N w0
  | 0 => fun xa xm xb a m b d w _ _ _ h => by omega
  | N + 1 => fun xa xm xb a m b d w ea em eb hN hs S ham hmb hb hM => by
    subst ea em eb
    by_cases h1 : m = a + 1
    · have := symMerge_one k aE zE enc cf lt hS g cb blk off cap a m b d0 d w0 w eg hcmp R hs S h1 hmb (by omega) (by omega) hM
      rwa [hs] at this
    · by_cases h2 : b = m + 1
      · have := symMerge_last k aE zE enc cf lt hS g cb blk off cap a m b d0 d w0 w eg hcmp R hs S h2 (by omega) (by omega) (by omega) hM
        rwa [hs] at this
      · have IH := merges k aE zE enc cf lt hS g cb blk off cap d0 w0 eg hcmp R hsz N
        have hI : MergesBelow lt enc k cf g cb blk off cap d.size (b - a) w0 := by
          rw [hs]
          intro xa xm xb a' m' b' d' w' e1 e2 e3 hlt h4 h5 h6 h7 h8 h9
          exact IH xa xm xb a' m' b' d' w' e1 e2 e3 (by omega) h4 h5 h6 h7 h8 h9
        have hT : Turns enc k g cb blk off cap d.size w0 := by
          intro xa xm xb a' m' b' d' w' e1 e2 e3 h4 h5 h6 h7 h8
          subst e1 e2 e3
          have := rotate_any k aE zE enc g cb blk off cap a' m' b' d0 d' w0 w' R (h4.trans hs) h5 h6 h7 (by omega) (by omega)
          rwa [h4] at this
        have := symMerge_step k aE zE enc cf lt hS g cb blk off cap a m b ((a + b) / 2) d0 d w0 w eg hcmp R hs S rfl (by omega) (by omega) (by omega) (by omega) hM hI hT
        rwa [hs] at this
end Go.Proofs.YtepkmgmooadbjaaGreat
end
section
/-
  DERIVED: THE SHELF's CONTRACTS AT THIS DUMP, IN PLAIN WORDS (tools/lay-plain.mjs out of 'YtepkmgmooadbjaaGreatSLays.lean', which tools/lay-shelf.mjs wrote): THE SAME DECLARATIONS UNDER THE SAME NAMES: 'import', 'namespace', 'open', 'def', 'theorem' AND NOTHING ELSE: no command of the shelf's: FOR A HAND-IN. Each laying: the table of numbers ('.._ren') and one theorem, a field a fact of the dump's own or the kernel's comparison; each contract: ONE APPLICATION.
-/
namespace Go.Proofs
open Go.Shelf
def Tryz.insl_ren : Go.Shelf.Ren := ⟨fun | 20 => 67 | n => n, fun | 24 => 37 | 22 => 22 | 3 => 3 | 25 => 45 | 4 => 4 | 0 => 0 | n => n, fun | n => n⟩
theorem Tryz.insl : Go.Proofs.SlLaysF0.n20 Tryz.prog Tryz.insl_ren := {
  mixed := by kernel_rfl
  f20 := ⟨Tryz.f67.name, by decide, Tryz.func67.trans (congrArg some (by kernel_rfl))⟩
  t0 := Tryz.underlying0
  a0 := Tryz.isAgg0
  z0 := Tryz.sizeOf0
  v0 := Tryz.zeroValue0
  t3 := Tryz.underlying3
  a3 := Tryz.isAgg3
  z3 := Tryz.sizeOf3
  v3 := Tryz.zeroValue3
  t4 := Tryz.underlying4
  a4 := Tryz.isAgg4
  z4 := Tryz.sizeOf4
  v4 := Tryz.zeroValue4
  t22 := Tryz.underlying22
  a22 := Tryz.isAgg22
  z22 := Tryz.sizeOf22
  v22 := Tryz.zeroValue22
  t25 := Tryz.underlying45
  a25 := Tryz.isAgg45
  z25 := Tryz.sizeOf45
  v25 := Tryz.zeroValue45 }
end Go.Proofs
end
section
/- The stable sort (slices.stableCmpFunc): runs of twenty by insertion, then merged in place. -/
namespace Go.Proofs.YtepkmgmooadbjaaGreat
open Go.ChangeShapes Go.WideShapes Go.ChangeAt Go.RowKit Go.Shelf Go.Lib Go.Sort Go.Proofs
set_option linter.unusedVariables false
variable {α : Type} [Inhabited α]

theorem cmpLays_on {P : Program} {g : Nat} {cb : Array Value} {enc : α → List Value} {k : Nat} {cf : α → α → Int} {blk off size : Nat} {w0 W : World} {dk : Array α} (hcmp : CmpLays P g cb enc k cf blk off size w0) (hblk : blk < w0.heap.size) (hd : dk.size = size) (S : SWK enc k w0 blk off dk W) :
    CmpLays P g cb enc k cf blk off size W := fun m os d' hd' x y => by
  obtain ⟨n, os', hw⟩ := S.on hblk m d' os (hd'.trans hd.symm)
  rw [hw]
  exact hcmp n os' d' hd' x y

/-- One run put in order by insertion. -/
theorem insert_run (k : Nat) (aE : ∀ w, (isAgg 37).run Tryz.prog w = .ok true w) (zE : ∀ w, (Go.sizeOf 37).run Tryz.prog w = .ok k w) (enc : α → List Value) (cf : α → α → Int) (lt : α → α → Bool) (hS : SWO lt) (g : Nat) (cb : Array Value) (blk off cap : Nat) (d0 : Array α) (w0 : World)
    (eg : ∀ args w, (callFunc g args).run Tryz.prog w = .ok (.enter g args) w) (hcmp : CmpLays Tryz.prog g cb enc k cf blk off d0.size w0) (R : RowK enc k w0 blk off d0) (hsz : d0.size < 1152921504606846976)
    (xa xb : Int) (a b : Nat) (d : Array α) (w : World) (ea : xa = a) (eb : xb = b) (hs : d.size = d0.size) (S : SWK enc k w0 blk off d w) (hab : a ≤ b) (hb : b ≤ d0.size) (ha : ∀ i j, a ≤ i → i < j → j < b → ltOf cf d[j]! d[i]! = lt d[j]! d[i]!) :
    Calls Tryz.prog 67 #[.slice (some ⟨blk, off, none⟩) d0.size cap, .int .i64 xa, .int .i64 xb, .func (.func g) #[] cb] w (MergeTo lt enc k w0 blk off a b d) := by
  subst ea eb
  have hblk := R.hblk
  have h := AnyQ.insertionSortCmpFunc Tryz.insl k aE zE enc R.hk R.h1 cf g cb blk off cap a b d w eg (by rw [hs]; exact cmpLays_on hcmp hblk hs S) (S.holds hblk R.hH hs) (S.lt hblk) hab (by omega) (by omega)
  rw [hs] at h
  refine (show Calls Tryz.prog 67 _ _ _ from h).mono ?_
  rintro e w' ⟨rfl, n, os, rfl⟩
  have hm := insertion_merged hS hab (by omega) ha
  exact ⟨rfl, _, S.on hblk n _ os hm.1, hm⟩

set_option maxHeartbeats 8000000 in
set_option maxRecDepth 1000000 in
theorem stable_any (k : Nat) (aE : ∀ w, (isAgg 37).run Tryz.prog w = .ok true w) (zE : ∀ w, (Go.sizeOf 37).run Tryz.prog w = .ok k w) (enc : α → List Value) (cf : α → α → Int) (lt : α → α → Bool) (hS : SWO lt) (g : Nat) (cb : Array Value) (blk off cap : Nat) (d0 : Array α) (w0 : World)
    (eg : ∀ args w, (callFunc g args).run Tryz.prog w = .ok (.enter g args) w) (hcmp : CmpLays Tryz.prog g cb enc k cf blk off d0.size w0) (R : RowK enc k w0 blk off d0) (hsz : d0.size < 1152921504606846976)
    (ha : ∀ i j, i < j → j < d0.size → ltOf cf d0[j]! d0[i]! = lt d0[j]! d0[i]!) :
    Calls Tryz.prog 35 #[.slice (some ⟨blk, off, none⟩) d0.size cap, .int .i64 d0.size, .func (.func g) #[] cb] w0 (MergeTo lt enc k w0 blk off 0 d0.size d0) := by
  have S0 : Hid (SWK enc k w0 blk off d0 w0) := Lib.hid (SWK.start R.hH)
  have ins := insert_run k aE zE enc cf lt hS g cb blk off cap d0 w0 eg hcmp R hsz
  have mrg := fun N => (merges k aE zE enc cf lt hS g cb blk off cap d0 w0 eg hcmp R hsz N).at_
  have HA := Lib.hid ha
  have HSW := Lib.hid hS
  clear hcmp ha hS
  obtain ⟨n, hn⟩ : ∃ n, n = d0.size := ⟨_, rfl⟩
  rw [← hn] at hsz ins mrg ⊢
  have HN := Lib.hid hn
  have INS := Lib.hid ins
  have MRG := Lib.hid mrg
  clear hn ins mrg
  go_enter Tryz.func35, Tryz.ntmps35
  go_wp2
  go_loopg [7, 8] n (fun kx s7 s8 wr => ∃ (q : Nat) (dk : Array α), s7 = .int .i64 (20 * q : Nat) ∧ s8 = .int .i64 (20 * q + 20 : Nat) ∧ 20 * q ≤ n ∧ n - 20 * q ≤ kx ∧ Hid (SWK enc k w0 blk off dk wr) ∧ Hid (Runs lt (ltOf cf) 1 20 (20 * q) n d0 dk))
  case atStart => exact ⟨0, d0, rfl, rfl, by omega, by omega, S0, Lib.hid (by have := (done_start (lt := lt) (t := ltOf cf) (n := n) (d := d0) (fun i j h1 h2 => HA.out i j h1 (by rw [← HN.out]; exact h2))).runs 20; exact this)⟩
  case round =>
    clear S0
    obtain ⟨q, dk, rfl, rfl, hqn, hkx, S1, HR⟩ := hrel
    obtain ⟨a, hqa⟩ : ∃ a, a = 20 * q := ⟨_, rfl⟩
    rw [← hqa] at hqn hkx HR ⊢
    have hds : Hid (dk.size = n) := Lib.hid (HR.out.size.trans HN.out.symm)
    have hag : Hid (∀ i j, a ≤ i → i < j → j < n → ltOf cf dk[j]! dk[i]! = lt dk[j]! dk[i]!) := Lib.hid (fun i j h1 h2 h3 => HR.out.agr2 i j h2 h3 h1 (by simp; omega))
    by_cases hlt : a + 20 ≤ n
    · have HQ := Lib.hid hqa
      clear hqa
      have hin : Hid (20 * (q + 1) = a + 20) := Lib.hid (by have := HQ.out; omega)
      go_wp2_with (go_at_call 67; ((with_reducible refine (INS.out (a : Int) ((a : Int) + 20) a (a + 20) dk _ rfl (by omega) hds.out S1.out (by omega) (by omega) (fun i j h1 h2 h3 => hag.out i j h1 h2 (by omega))).mono ?_); rintro e w2 ⟨rfl, d2, S2', hm'⟩; have S2 := Lib.hid S2'; have hm := Lib.hid hm'; clear S2' hm'))
      have HR2 : Hid (Runs lt (ltOf cf) 1 20 (20 * (q + 1)) n d0 d2) := Lib.hid (by
        rw [hin.out]
        exact HR.out.step (q := q) (by omega) ⟨20, rfl⟩ HQ.out (.inl rfl) (by omega) (by omega) (by have := hds.out; omega) hm.out)
      go_roundg (n - (a + 20))
      case measure => omega
      case rel => exact ⟨q + 1, d2, by rw [hin.out]; go_num, by rw [hin.out]; go_num, by rw [hin.out]; omega, by rw [hin.out]; omega, S2, HR2⟩
    · have HQ := Lib.hid hqa
      clear hqa
      go_wp2_with (first
        | (go_at_call 67; ((with_reducible refine (INS.out (a : Int) (n : Int) a n dk _ rfl rfl hds.out S1.out (by omega) (by omega) (fun i j h1 h2 h3 => hag.out i j h1 h2 h3)).mono ?_); rintro e w2 ⟨rfl, d2, S2', hm'⟩; have S2 := Lib.hid S2'; have hm := Lib.hid hm'; clear S2' hm')))
      have HD : Hid (Done lt (ltOf cf) 20 n d0 d2) := Lib.hid (by
        have h := HR.out.step (q := q) (b := n) (by omega) ⟨20, rfl⟩ HQ.out (.inr ⟨rfl, by omega⟩) (by omega) (by omega) (by have := hds.out; omega) hm.out
        exact h.fin (q := q + 1) (by omega) (by omega) (by have := HQ.out; omega) (by omega) (.inr (by omega)))
      clear HR hag hm S1 HQ hds hlt hkx hqn
      go_loopg [6] n (fun kx s6 wr => ∃ (c : Nat) (dk : Array α), s6 = .int .i64 c ∧ 1 ≤ c ∧ c ≤ 2 * n + 20 ∧ n - c ≤ kx ∧ Hid (SWK enc k w0 blk off dk wr) ∧ Hid (Done lt (ltOf cf) c n d0 dk))
      case atStart => exact ⟨20, d2, rfl, by omega, by omega, by omega, S2, HD⟩
      case round =>
        clear S2 HD
        obtain ⟨c, dk, rfl, hc1, hc2, hkx, S1, HD⟩ := hrel
        by_cases hcn : c < n
        · go_wp2
          go_loopg [7, 8] n (fun ky s7 s8 wr => ∃ (q a : Nat) (dj : Array α), s7 = .int .i64 a ∧ s8 = .int .i64 ((a + 2 * c : Nat) : Int) ∧ Hid (a = c * 2 * q) ∧ a ≤ n ∧ n - a ≤ ky ∧ Hid (SWK enc k w0 blk off dj wr) ∧ Hid (Runs lt (ltOf cf) c (c * 2) a n d0 dj))
          case atStart => exact ⟨0, 0, dk, rfl, by rw [show ((0 + 2 * c : Nat) : Int) = 2 * (c : Int) by omega], Lib.hid (by rw [Nat.mul_zero]), by omega, by omega, S1, Lib.hid (HD.out.runs 2)⟩
          case round =>
            clear S1 HD
            obtain ⟨q, a, dj, rfl, rfl, HQ, han, hky, S1, HR⟩ := hrel
            have hds : Hid (dj.size = n) := Lib.hid (HR.out.size.trans HN.out.symm)
            by_cases hlt : a + 2 * c ≤ n
            · have hM : Hid (Mrg lt (ltOf cf) a (a + c) (a + 2 * c) dj) := Lib.hid (HR.out.mrg (q := q) (by omega) HQ.out (by omega) (by omega) hlt)
              have HQ2 : Hid (a + 2 * c = c * 2 * (q + 1)) := Lib.hid (by have := HQ.out; rw [Nat.mul_add, Nat.mul_one, ← this, Nat.mul_comm c 2])
              have hz : Hid (a + 2 * c ≤ n) := Lib.hid hlt
              go_wp2_with (go_at_call 68; ((with_reducible refine (MRG.out (n + 1) (a : Int) ((a : Int) + (c : Int)) ((a : Int) + 2 * (c : Int)) a (a + c) (a + 2 * c) dj _ rfl (by omega) (by omega) (by omega) hds.out S1.out (by omega) (by omega) hlt hM.out).mono ?_); rintro e w2 ⟨rfl, d2, S2', hm'⟩; have S2 := Lib.hid S2'; have hm := Lib.hid hm'; clear S2' hm'))
              have HR2 : Hid (Runs lt (ltOf cf) c (c * 2) (a + 2 * c) n d0 d2) := Lib.hid (by
                rw [Nat.mul_comm 2 c]
                exact HR.out.step (q := q) (b := a + 2 * c) (by omega) ⟨2, rfl⟩ HQ.out (.inl (by rw [Nat.mul_comm 2 c])) (by omega) hz.out (by have := hds.out; omega) hm.out)
              have hz2 := hz.out
              go_roundg (n - (a + 2 * c))
              case measure => omega
              case rel => exact ⟨q + 1, a + 2 * c, d2, by rw [show ((a + 2 * c : Nat) : Int) = (a : Int) + 2 * (c : Int) by omega], by rw [show ((a + 2 * c + 2 * c : Nat) : Int) = (a : Int) + 2 * (c : Int) + 2 * (c : Int) by omega], HQ2, hz2, by omega, S2, HR2⟩
            · by_cases hac : a + c < n
              · have hM : Hid (Mrg lt (ltOf cf) a (a + c) n dj) := Lib.hid (HR.out.mrg (q := q) (by omega) HQ.out (by omega) (by omega) (Nat.le_refl _))
                have HQ2 : Hid (a + c * 2 = c * 2 * (q + 1)) := Lib.hid (by have := HQ.out; rw [Nat.mul_add, Nat.mul_one, ← this])
                go_wp2_with (go_at_call 68; ((with_reducible refine (MRG.out (n + 1) (a : Int) ((a : Int) + (c : Int)) (n : Int) a (a + c) n dj _ rfl (by omega) rfl (by omega) hds.out S1.out (by omega) hac (Nat.le_refl _) hM.out).mono ?_); rintro e w2 ⟨rfl, d2, S2', hm'⟩; have S2 := Lib.hid S2'; have hm := Lib.hid hm'; clear S2' hm'))
                have HD2 : Hid (Done lt (ltOf cf) (c * 2) n d0 d2) := Lib.hid (by
                  have h := HR.out.step (q := q) (b := n) (by omega) ⟨2, rfl⟩ HQ.out (.inr ⟨rfl, by omega⟩) (by omega) (Nat.le_refl _) (by have := hds.out; omega) hm.out
                  exact h.fin (q := q + 1) (by omega) (by omega) HQ2.out (by omega) (.inr (by omega)))
                go_roundg (n - c * 2)
                case measure => omega
                case rel => exact ⟨c * 2, d2, by go_num, by omega, by omega, Nat.le_refl _, S2, HD2⟩
              · have HD2 : Hid (Done lt (ltOf cf) (c * 2) n d0 dj) := Lib.hid (HR.out.fin (q := q) (by omega) (by omega) HQ.out (by omega) (.inl rfl))
                go_wp2
                go_roundg (n - c * 2)
                case measure => omega
                case rel => exact ⟨c * 2, dj, by go_num, by omega, by omega, Nat.le_refl _, S1, HD2⟩
        · go_wp2
          go_end0
          exact ⟨rfl, dk, S1.out, HD.out.size, HD.out.perm, HD.out.whole (by omega)⟩
end Go.Proofs.YtepkmgmooadbjaaGreat
end
