/- A row of an array is turned (slices.rotateCmpFunc). -/
import Derived.Test.YtdmgnafafafdpaaStKit
namespace Go.Proofs.Ytdmgnafafafdpaa
open Go.ChangeShapes Go.WideShapes Go.ChangeAt Go.RowKit Go.Shelf Go.Lib Go.Sort Go.Proofs
set_option linter.unusedVariables false
variable {α : Type} [Inhabited α]

theorem swapped_perm_in {d d' : Array α} {lo hi a b n : Nat} (h1 : lo ≤ a) (h2 : b + n ≤ hi) (hs : hi ≤ d.size) (hp : PermIn a (b + n) d d') : PermIn lo hi d d' := permIn_mono _ _ _ _ _ _ h1 h2 hs hp

set_option maxHeartbeats 4000000 in
set_option maxRecDepth 1000000 in
theorem rotate_any (k : Nat) (aE : ∀ w, (isAgg 25).run Try.prog w = .ok true w) (zE : ∀ w, (Go.sizeOf 25).run Try.prog w = .ok k w) (enc : α → List Value) (g : Nat) (cb : Array Value) (blk off cap a m b : Nat) (d0 d : Array α) (w0 w : World)
    (R : RowK enc k w0 blk off d0) (hs : d.size = d0.size) (S : SWK enc k w0 blk off d w) (ham : a < m) (hmb : m < b) (hb : b ≤ d.size) (hsz : d.size < 1152921504606846976) :
    Calls Try.prog 44 #[.slice (some ⟨blk, off, none⟩) d.size cap, .int .i64 a, .int .i64 m, .int .i64 b, .func (.func g) #[] cb] w fun e w' =>
      e = .returned (.tuple #[]) ∧ ∃ d', SWK enc k w0 blk off d' w' ∧ Turned d a m b d' := by
  have mixed : Try.prog.follows .mixedOrders = true := by kernel_rfl
  have S0 : Hid (SWK enc k w0 blk off d w) := Lib.hid S
  clear S
  have HS := Lib.hid hs
  clear hs
  go_enter Try.func44, Try.ntmps44
  go_wp2
  go_loopg [10, 11] (b - a) (fun kx s10 s11 wr => ∃ (i j : Nat) (dk : Array α), s10 = .int .i64 i ∧ s11 = .int .i64 j ∧ i + j ≤ kx ∧ Hid (SWK enc k w0 blk off dk wr) ∧ Hid (Turning d a m b i j dk))
  case atStart => exact ⟨m - a, b - m, d, by rw [show ((m - a : Nat) : Int) = (m : Int) - (a : Int) by omega], by rw [show ((b - m : Nat) : Int) = (b : Int) - (m : Int) by omega], by omega, S0, Lib.hid (turning_start ham hmb)⟩
  case round =>
    clear S0
    obtain ⟨i, j, dk, rfl, rfl, hkx, S1, HT⟩ := hrel
    have hi1 := HT.out.i1
    have hj1 := HT.out.j1
    have hi2 := HT.out.i2
    have hj2 := HT.out.j2
    have hds : Hid (dk.size = d.size) := Lib.hid HT.out.size
    have swR : ∀ (aa bb nn : Nat) (xa xb xn : Int), xa = aa → xb = bb → xn = nn → a ≤ aa → aa + nn ≤ bb → bb + nn ≤ b → ∀ (W : World), SWK enc k w0 blk off dk W →
        Calls Try.prog 45 #[.slice (some ⟨blk, off, none⟩) d.size cap, .int .i64 xa, .int .i64 xb, .int .i64 xn, .func (.func g) #[] cb] W fun e w' =>
          e = .returned (.tuple #[]) ∧ ∃ d', SWK enc k w0 blk off d' w' ∧ Swapped dk aa bb nn d' ∧ PermIn aa (bb + nn) dk d' := by
      intro aa bb nn xa xb xn ea eb en h1 h2 h3 W hW
      subst ea eb en
      have := swapRange_any k aE zE enc g cb blk off cap aa bb nn d0 dk w0 W R (hds.out.trans HS.out) hW h2 (by have := hds.out; omega) (by have := hds.out; omega)
      rwa [hds.out] at this
    have SR := Lib.hid swR
    clear swR
    have him : (i : Int) ≤ (m : Int) := by omega
    have hjb : (m : Int) + (j : Int) ≤ (b : Int) := by omega
    by_cases hne : i = j
    · subst hne
      have hb1 : ((i : Int) != (i : Int)) = false := by simp
      have hb2 : ((i : Int) == (i : Int)) = true := by simp
      go_wp2_with (go_at_call 45; ((with_reducible refine (SR.out (m - i) m i ((m : Int) - (i : Int)) (m : Int) (i : Int) (by omega) (by omega) (by omega) (by omega) (by omega) (by omega) _ S1.out).mono ?_)); rintro e w2 ⟨rfl, d2, S2, hsw, hp⟩)
      go_end0
      exact ⟨rfl, d2, S2, HT.out.last ham hmb hsw (swapped_perm_in (by omega) (by omega) (by have := hds.out; omega) hp)⟩
    · have hb1 : ((i : Int) != (j : Int)) = true := by simp; omega
      have hb2 : ((i : Int) == (j : Int)) = false := by simp; omega
      by_cases hij : j < i
      · have hd : decide ((j : Int) < (i : Int)) = true := decide_eq_true (by omega)
        have hd2 : decide (j < i) = true := decide_eq_true (by omega)
        go_wp2_with (go_at_call 45; ((with_reducible refine (SR.out (m - i) m j ((m : Int) - (i : Int)) (m : Int) (j : Int) (by omega) (by omega) (by omega) (by omega) (by omega) (by omega) _ S1.out).mono ?_)); rintro e w2 ⟨rfl, d2, S2, hsw, hp⟩)
        have S2' := Lib.hid S2
        have HT2 := Lib.hid (HT.out.left hij ham hmb hsw (swapped_perm_in (by omega) (by omega) (by have := hds.out; omega) hp))
        clear S2 hsw hp
        go_roundg (i + j - 1)
        case measure => omega
        case rel => exact ⟨i - j, j, d2, by rw [show ((i - j : Nat) : Int) = (i : Int) - (j : Int) by omega], rfl, by omega, S2', HT2⟩
      · have hd : decide ((j : Int) < (i : Int)) = false := decide_eq_false (by omega)
        have hd2 : decide (j < i) = false := decide_eq_false (by omega)
        go_wp2_with (go_at_call 45; ((with_reducible refine (SR.out (m - i) (m + j - i) i ((m : Int) - (i : Int)) ((m : Int) + (j : Int) - (i : Int)) (i : Int) (by omega) (by omega) (by omega) (by omega) (by omega) (by omega) _ S1.out).mono ?_)); rintro e w2 ⟨rfl, d2, S2, hsw, hp⟩)
        have S2' := Lib.hid S2
        have HT2 := Lib.hid (HT.out.right (by omega) ham hmb hsw (swapped_perm_in (by omega) (by omega) (by have := hds.out; omega) hp))
        clear S2 hsw hp
        go_roundg (i + j - 1)
        case measure => omega
        case rel => exact ⟨i, j - i, d2, rfl, by rw [show ((j - i : Nat) : Int) = (j : Int) - (i : Int) by omega], by omega, S2', HT2⟩
end Go.Proofs.Ytdmgnafafafdpaa
