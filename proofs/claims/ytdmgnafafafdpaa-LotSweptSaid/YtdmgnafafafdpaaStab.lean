/- The stable sort (slices.stableCmpFunc): runs of twenty by insertion, then merged in place. -/
import Derived.Test.YtdmgnafafafdpaaStM4
import Derived.Test.YtdmgnafafafdpaaSLays
namespace Go.Proofs.Ytdmgnafafafdpaa
open Go.ChangeShapes Go.WideShapes Go.ChangeAt Go.RowKit Go.Shelf Go.Lib Go.Sort Go.Proofs
set_option linter.unusedVariables false
variable {α : Type} [Inhabited α]

theorem cmpLays_on {P : Program} {g : Nat} {cb : Array Value} {enc : α → List Value} {k : Nat} {cf : α → α → Int} {blk off size : Nat} {w0 W : World} {dk : Array α} (hcmp : CmpLays P g cb enc k cf blk off size w0) (hblk : blk < w0.heap.size) (hd : dk.size = size) (S : SWK enc k w0 blk off dk W) :
    CmpLays P g cb enc k cf blk off size W := fun m os d' hd' x y => by
  obtain ⟨n, os', hw⟩ := S.on hblk m d' os (hd'.trans hd.symm)
  rw [hw]
  exact hcmp n os' d' hd' x y

/-- One run put in order by insertion. -/
theorem insert_run (k : Nat) (aE : ∀ w, (isAgg 25).run Try.prog w = .ok true w) (zE : ∀ w, (Go.sizeOf 25).run Try.prog w = .ok k w) (enc : α → List Value) (cf : α → α → Int) (lt : α → α → Bool) (hS : SWO lt) (g : Nat) (cb : Array Value) (blk off cap : Nat) (d0 : Array α) (w0 : World)
    (eg : ∀ args w, (callFunc g args).run Try.prog w = .ok (.enter g args) w) (hcmp : CmpLays Try.prog g cb enc k cf blk off d0.size w0) (R : RowK enc k w0 blk off d0) (hsz : d0.size < 1152921504606846976)
    (xa xb : Int) (a b : Nat) (d : Array α) (w : World) (ea : xa = a) (eb : xb = b) (hs : d.size = d0.size) (S : SWK enc k w0 blk off d w) (hab : a ≤ b) (hb : b ≤ d0.size) (ha : ∀ i j, a ≤ i → i < j → j < b → ltOf cf d[j]! d[i]! = lt d[j]! d[i]!) :
    Calls Try.prog 42 #[.slice (some ⟨blk, off, none⟩) d0.size cap, .int .i64 xa, .int .i64 xb, .func (.func g) #[] cb] w (MergeTo lt enc k w0 blk off a b d) := by
  subst ea eb
  have hblk := R.hblk
  have h := AnyQ.insertionSortCmpFunc Try.insl k aE zE enc R.hk R.h1 cf g cb blk off cap a b d w eg (by rw [hs]; exact cmpLays_on hcmp hblk hs S) (S.holds hblk R.hH hs) (S.lt hblk) hab (by omega) (by omega)
  rw [hs] at h
  refine (show Calls Try.prog 42 _ _ _ from h).mono ?_
  rintro e w' ⟨rfl, n, os, rfl⟩
  have hm := insertion_merged hS hab (by omega) ha
  exact ⟨rfl, _, S.on hblk n _ os hm.1, hm⟩

set_option maxHeartbeats 8000000 in
set_option maxRecDepth 1000000 in
theorem stable_any (k : Nat) (aE : ∀ w, (isAgg 25).run Try.prog w = .ok true w) (zE : ∀ w, (Go.sizeOf 25).run Try.prog w = .ok k w) (enc : α → List Value) (cf : α → α → Int) (lt : α → α → Bool) (hS : SWO lt) (g : Nat) (cb : Array Value) (blk off cap : Nat) (d0 : Array α) (w0 : World)
    (eg : ∀ args w, (callFunc g args).run Try.prog w = .ok (.enter g args) w) (hcmp : CmpLays Try.prog g cb enc k cf blk off d0.size w0) (R : RowK enc k w0 blk off d0) (hsz : d0.size < 1152921504606846976)
    (ha : ∀ i j, i < j → j < d0.size → ltOf cf d0[j]! d0[i]! = lt d0[j]! d0[i]!) :
    Calls Try.prog 41 #[.slice (some ⟨blk, off, none⟩) d0.size cap, .int .i64 d0.size, .func (.func g) #[] cb] w0 (MergeTo lt enc k w0 blk off 0 d0.size d0) := by
  have S0 : Hid (SWK enc k w0 blk off d0 w0) := Lib.hid (SWK.start R.hH)
  have ins := insert_run k aE zE enc cf lt hS g cb blk off cap d0 w0 eg hcmp R hsz
  have mrg := fun N => (merges k aE zE enc cf lt hS g cb blk off cap d0 w0 eg hcmp R hsz N).at_
  have HA := Lib.hid ha
  have HSW := Lib.hid hS
  clear hcmp ha hS
  obtain ⟨n, hn⟩ : ∃ n, n = d0.size := ⟨_, rfl⟩
  rw [← hn] at hsz ins mrg ⊢
  have HN := Lib.hid hn
  have INS := Lib.hid ins
  have MRG := Lib.hid mrg
  clear hn ins mrg
  go_enter Try.func41, Try.ntmps41
  go_wp2
  go_loopg [7, 8] n (fun kx s7 s8 wr => ∃ (q : Nat) (dk : Array α), s7 = .int .i64 (20 * q : Nat) ∧ s8 = .int .i64 (20 * q + 20 : Nat) ∧ 20 * q ≤ n ∧ n - 20 * q ≤ kx ∧ Hid (SWK enc k w0 blk off dk wr) ∧ Hid (Runs lt (ltOf cf) 1 20 (20 * q) n d0 dk))
  case atStart => exact ⟨0, d0, rfl, rfl, by omega, by omega, S0, Lib.hid (by have := (done_start (lt := lt) (t := ltOf cf) (n := n) (d := d0) (fun i j h1 h2 => HA.out i j h1 (by rw [← HN.out]; exact h2))).runs 20; exact this)⟩
  case round =>
    clear S0
    obtain ⟨q, dk, rfl, rfl, hqn, hkx, S1, HR⟩ := hrel
    obtain ⟨a, hqa⟩ : ∃ a, a = 20 * q := ⟨_, rfl⟩
    rw [← hqa] at hqn hkx HR ⊢
    have hds : Hid (dk.size = n) := Lib.hid (HR.out.size.trans HN.out.symm)
    have hag : Hid (∀ i j, a ≤ i → i < j → j < n → ltOf cf dk[j]! dk[i]! = lt dk[j]! dk[i]!) := Lib.hid (fun i j h1 h2 h3 => HR.out.agr2 i j h2 h3 h1 (by simp; omega))
    by_cases hlt : a + 20 ≤ n
    · have HQ := Lib.hid hqa
      clear hqa
      have hin : Hid (20 * (q + 1) = a + 20) := Lib.hid (by have := HQ.out; omega)
      go_wp2_with (go_at_call 42; ((with_reducible refine (INS.out (a : Int) ((a : Int) + 20) a (a + 20) dk _ rfl (by omega) hds.out S1.out (by omega) (by omega) (fun i j h1 h2 h3 => hag.out i j h1 h2 (by omega))).mono ?_); rintro e w2 ⟨rfl, d2, S2', hm'⟩; have S2 := Lib.hid S2'; have hm := Lib.hid hm'; clear S2' hm'))
      have HR2 : Hid (Runs lt (ltOf cf) 1 20 (20 * (q + 1)) n d0 d2) := Lib.hid (by
        rw [hin.out]
        exact HR.out.step (q := q) (by omega) ⟨20, rfl⟩ HQ.out (.inl rfl) (by omega) (by omega) (by have := hds.out; omega) hm.out)
      go_roundg (n - (a + 20))
      case measure => omega
      case rel => exact ⟨q + 1, d2, by rw [hin.out]; go_num, by rw [hin.out]; go_num, by rw [hin.out]; omega, by rw [hin.out]; omega, S2, HR2⟩
    · have HQ := Lib.hid hqa
      clear hqa
      go_wp2_with (first
        | (go_at_call 42; ((with_reducible refine (INS.out (a : Int) (n : Int) a n dk _ rfl rfl hds.out S1.out (by omega) (by omega) (fun i j h1 h2 h3 => hag.out i j h1 h2 h3)).mono ?_); rintro e w2 ⟨rfl, d2, S2', hm'⟩; have S2 := Lib.hid S2'; have hm := Lib.hid hm'; clear S2' hm')))
      have HD : Hid (Done lt (ltOf cf) 20 n d0 d2) := Lib.hid (by
        have h := HR.out.step (q := q) (b := n) (by omega) ⟨20, rfl⟩ HQ.out (.inr ⟨rfl, by omega⟩) (by omega) (by omega) (by have := hds.out; omega) hm.out
        exact h.fin (q := q + 1) (by omega) (by omega) (by have := HQ.out; omega) (by omega) (.inr (by omega)))
      clear HR hag hm S1 HQ hds hlt hkx hqn
      go_loopg [6] n (fun kx s6 wr => ∃ (c : Nat) (dk : Array α), s6 = .int .i64 c ∧ 1 ≤ c ∧ c ≤ 2 * n + 20 ∧ n - c ≤ kx ∧ Hid (SWK enc k w0 blk off dk wr) ∧ Hid (Done lt (ltOf cf) c n d0 dk))
      case atStart => exact ⟨20, d2, rfl, by omega, by omega, by omega, S2, HD⟩
      case round =>
        clear S2 HD
        obtain ⟨c, dk, rfl, hc1, hc2, hkx, S1, HD⟩ := hrel
        by_cases hcn : c < n
        · go_wp2
          go_loopg [7, 8] n (fun ky s7 s8 wr => ∃ (q a : Nat) (dj : Array α), s7 = .int .i64 a ∧ s8 = .int .i64 ((a + 2 * c : Nat) : Int) ∧ Hid (a = c * 2 * q) ∧ a ≤ n ∧ n - a ≤ ky ∧ Hid (SWK enc k w0 blk off dj wr) ∧ Hid (Runs lt (ltOf cf) c (c * 2) a n d0 dj))
          case atStart => exact ⟨0, 0, dk, rfl, by rw [show ((0 + 2 * c : Nat) : Int) = 2 * (c : Int) by omega], Lib.hid (by rw [Nat.mul_zero]), by omega, by omega, S1, Lib.hid (HD.out.runs 2)⟩
          case round =>
            clear S1 HD
            obtain ⟨q, a, dj, rfl, rfl, HQ, han, hky, S1, HR⟩ := hrel
            have hds : Hid (dj.size = n) := Lib.hid (HR.out.size.trans HN.out.symm)
            by_cases hlt : a + 2 * c ≤ n
            · have hM : Hid (Mrg lt (ltOf cf) a (a + c) (a + 2 * c) dj) := Lib.hid (HR.out.mrg (q := q) (by omega) HQ.out (by omega) (by omega) hlt)
              have HQ2 : Hid (a + 2 * c = c * 2 * (q + 1)) := Lib.hid (by have := HQ.out; rw [Nat.mul_add, Nat.mul_one, ← this, Nat.mul_comm c 2])
              have hz : Hid (a + 2 * c ≤ n) := Lib.hid hlt
              go_wp2_with (go_at_call 43; ((with_reducible refine (MRG.out (n + 1) (a : Int) ((a : Int) + (c : Int)) ((a : Int) + 2 * (c : Int)) a (a + c) (a + 2 * c) dj _ rfl (by omega) (by omega) (by omega) hds.out S1.out (by omega) (by omega) hlt hM.out).mono ?_); rintro e w2 ⟨rfl, d2, S2', hm'⟩; have S2 := Lib.hid S2'; have hm := Lib.hid hm'; clear S2' hm'))
              have HR2 : Hid (Runs lt (ltOf cf) c (c * 2) (a + 2 * c) n d0 d2) := Lib.hid (by
                rw [Nat.mul_comm 2 c]
                exact HR.out.step (q := q) (b := a + 2 * c) (by omega) ⟨2, rfl⟩ HQ.out (.inl (by rw [Nat.mul_comm 2 c])) (by omega) hz.out (by have := hds.out; omega) hm.out)
              have hz2 := hz.out
              go_roundg (n - (a + 2 * c))
              case measure => omega
              case rel => exact ⟨q + 1, a + 2 * c, d2, by rw [show ((a + 2 * c : Nat) : Int) = (a : Int) + 2 * (c : Int) by omega], by rw [show ((a + 2 * c + 2 * c : Nat) : Int) = (a : Int) + 2 * (c : Int) + 2 * (c : Int) by omega], HQ2, hz2, by omega, S2, HR2⟩
            · by_cases hac : a + c < n
              · have hM : Hid (Mrg lt (ltOf cf) a (a + c) n dj) := Lib.hid (HR.out.mrg (q := q) (by omega) HQ.out (by omega) (by omega) (Nat.le_refl _))
                have HQ2 : Hid (a + c * 2 = c * 2 * (q + 1)) := Lib.hid (by have := HQ.out; rw [Nat.mul_add, Nat.mul_one, ← this])
                go_wp2_with (go_at_call 43; ((with_reducible refine (MRG.out (n + 1) (a : Int) ((a : Int) + (c : Int)) (n : Int) a (a + c) n dj _ rfl (by omega) rfl (by omega) hds.out S1.out (by omega) hac (Nat.le_refl _) hM.out).mono ?_); rintro e w2 ⟨rfl, d2, S2', hm'⟩; have S2 := Lib.hid S2'; have hm := Lib.hid hm'; clear S2' hm'))
                have HD2 : Hid (Done lt (ltOf cf) (c * 2) n d0 d2) := Lib.hid (by
                  have h := HR.out.step (q := q) (b := n) (by omega) ⟨2, rfl⟩ HQ.out (.inr ⟨rfl, by omega⟩) (by omega) (Nat.le_refl _) (by have := hds.out; omega) hm.out
                  exact h.fin (q := q + 1) (by omega) (by omega) HQ2.out (by omega) (.inr (by omega)))
                go_roundg (n - c * 2)
                case measure => omega
                case rel => exact ⟨c * 2, d2, by go_num, by omega, by omega, Nat.le_refl _, S2, HD2⟩
              · have HD2 : Hid (Done lt (ltOf cf) (c * 2) n d0 dj) := Lib.hid (HR.out.fin (q := q) (by omega) (by omega) HQ.out (by omega) (.inl rfl))
                go_wp2
                go_roundg (n - c * 2)
                case measure => omega
                case rel => exact ⟨c * 2, dj, by go_num, by omega, by omega, Nat.le_refl _, S1, HD2⟩
        · go_wp2
          go_end0
          exact ⟨rfl, dk, S1.out, HD.out.size, HD.out.perm, HD.out.whole (by omega)⟩
end Go.Proofs.Ytdmgnafafafdpaa
