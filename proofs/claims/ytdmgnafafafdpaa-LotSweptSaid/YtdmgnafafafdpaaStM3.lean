/- Merging in place, the general step, by recursion (slices.symMergeCmpFunc). Written by gen_m3.py. -/
import Derived.Test.YtdmgnafafafdpaaStM2
namespace Go.Proofs.Ytdmgnafafafdpaa
open Go.ChangeShapes Go.WideShapes Go.ChangeAt Go.RowKit Go.Shelf Go.Lib Go.Sort Go.Proofs
set_option linter.unusedVariables false
variable {α : Type} [Inhabited α]

/-- The merge of shorter rows, by whatever numbers they are named. -/
def MergesBelow (lt : α → α → Bool) (enc : α → List Value) (k : Nat) (cf : α → α → Int) (g : Nat) (cb : Array Value) (blk off cap size N : Nat) (w0 : World) : Prop :=
  ∀ (xa xm xb : Int) (a m b : Nat) (d : Array α) (w : World), xa = a → xm = m → xb = b → b - a < N → d.size = size → SWK enc k w0 blk off d w → a < m → m < b → b ≤ size → Mrg lt (ltOf cf) a m b d →
    Calls Try.prog 43 #[.slice (some ⟨blk, off, none⟩) size cap, .int .i64 xa, .int .i64 xm, .int .i64 xb, .func (.func g) #[] cb] w (MergeTo lt enc k w0 blk off a b d)
theorem MergesBelow.at_ {lt : α → α → Bool} {enc : α → List Value} {k : Nat} {cf : α → α → Int} {g : Nat} {cb : Array Value} {blk off cap size N : Nat} {w0 : World} (h : MergesBelow lt enc k cf g cb blk off cap size N w0) :
  ∀ (xa xm xb : Int) (a m b : Nat) (d : Array α) (w : World), xa = a → xm = m → xb = b → b - a < N → d.size = size → SWK enc k w0 blk off d w → a < m → m < b → b ≤ size → Mrg lt (ltOf cf) a m b d →
    Calls Try.prog 43 #[.slice (some ⟨blk, off, none⟩) size cap, .int .i64 xa, .int .i64 xm, .int .i64 xb, .func (.func g) #[] cb] w (MergeTo lt enc k w0 blk off a b d) := h
def Turns (enc : α → List Value) (k : Nat) (g : Nat) (cb : Array Value) (blk off cap size : Nat) (w0 : World) : Prop :=
  ∀ (xa xm xb : Int) (a m b : Nat) (d : Array α) (w : World), xa = a → xm = m → xb = b → d.size = size → SWK enc k w0 blk off d w → a < m → m < b → b ≤ size →
    Calls Try.prog 44 #[.slice (some ⟨blk, off, none⟩) size cap, .int .i64 xa, .int .i64 xm, .int .i64 xb, .func (.func g) #[] cb] w fun e w' =>
      e = .returned (.tuple #[]) ∧ ∃ d', SWK enc k w0 blk off d' w' ∧ Turned d a m b d'
theorem Turns.at_ {enc : α → List Value} {k g : Nat} {cb : Array Value} {blk off cap size : Nat} {w0 : World} (h : Turns enc k g cb blk off cap size w0) :
  ∀ (xa xm xb : Int) (a m b : Nat) (d : Array α) (w : World), xa = a → xm = m → xb = b → d.size = size → SWK enc k w0 blk off d w → a < m → m < b → b ≤ size →
    Calls Try.prog 44 #[.slice (some ⟨blk, off, none⟩) size cap, .int .i64 xa, .int .i64 xm, .int .i64 xb, .func (.func g) #[] cb] w fun e w' =>
      e = .returned (.tuple #[]) ∧ ∃ d', SWK enc k w0 blk off d' w' ∧ Turned d a m b d' := h

set_option maxHeartbeats 16000000 in
set_option maxRecDepth 1000000 in
theorem symMerge_step (k : Nat) (aE : ∀ w, (isAgg 25).run Try.prog w = .ok true w) (zE : ∀ w, (Go.sizeOf 25).run Try.prog w = .ok k w) (enc : α → List Value) (cf : α → α → Int) (lt : α → α → Bool) (hS : SWO lt) (g : Nat) (cb : Array Value) (blk off cap a m b mid : Nat) (d0 d : Array α) (w0 w : World)
    (eg : ∀ args w, (callFunc g args).run Try.prog w = .ok (.enter g args) w) (hcmp : CmpLays Try.prog g cb enc k cf blk off d0.size w0) (R : RowK enc k w0 blk off d0) (hs : d.size = d0.size) (S : SWK enc k w0 blk off d w) (hmid : mid = (a + b) / 2) (ham : a + 1 < m) (hmb : m + 1 < b) (hb : b ≤ d.size) (hsz : d.size < 1152921504606846976)
    (hM : Mrg lt (ltOf cf) a m b d) (hI : MergesBelow lt enc k cf g cb blk off cap d.size (b - a) w0) (hT : Turns enc k g cb blk off cap d.size w0) :
    Calls Try.prog 43 #[.slice (some ⟨blk, off, none⟩) d.size cap, .int .i64 a, .int .i64 m, .int .i64 b, .func (.func g) #[] cb] w (MergeTo lt enc k w0 blk off a b d) := by
  have mixed : Try.prog.follows .mixedOrders = true := by kernel_rfl
  have S0 : Hid (SWK enc k w0 blk off d w) := Lib.hid S
  have HC := Lib.hid hcmp
  have HS := Lib.hid hs
  have HSW := Lib.hid hS
  have HM := Lib.hid hM
  have HI := Lib.hid hI
  have HT := Lib.hid hT
  have hb1 : ((m : Int) - (a : Int) == 1) = false := by simp; omega
  have hb2 : ((b : Int) - (m : Int) == 1) = false := by simp; omega
  have hq : ((a : Int) + (b : Int)) / 2 = (mid : Int) := by omega
  have hmid1 : a + b ≤ 2 * mid + 1 := by omega
  have hmid2 : 2 * mid ≤ a + b := by omega
  clear S hcmp hs hS hM hmid hI hT
  by_cases hgm : mid < m
  ·
    have hd0 : decide (mid < m) = true := decide_eq_true (by omega)
    go_enter Try.func43, Try.ntmps43
    go_wp2
    clear hb1 hb2 hd0
    go_loopg [20, 21] (b - a) (fun kx s20 s21 wr => ∃ (i j : Nat), s20 = .int .i64 i ∧ s21 = .int .i64 j ∧ i ≤ j ∧ j ≤ mid ∧ (mid + m - b) ≤ i ∧ j - i ≤ kx ∧ Hid (SWK enc k w0 blk off d wr) ∧ Hid (Half (fun x => !ltOf cf d[mid + m - 1 - x]! d[x]!) (mid + m - b) mid i j))
    case atStart => exact ⟨(mid + m - b), mid, by rw [show ((mid + m - b : Nat) : Int) = (mid : Int) + (m : Int) - (b : Int) by omega], rfl, by omega, Nat.le_refl _, Nat.le_refl _, by omega, S0, Lib.hid (Half.start (by omega))⟩
    case round =>
      clear S0
      obtain ⟨i, j, rfl, rfl, hij, hjb, hmi, hkx, S1, HH⟩ := hrel
      by_cases hlt : i < j
      · obtain ⟨c, hcn⟩ : ∃ c, c = (i + j) / 2 := ⟨_, rfl⟩
        have hci : i ≤ c := by omega
        have hcj : c < j := by omega
        obtain ⟨pp, hpn⟩ : ∃ pp, pp = mid + m - 1 - c := ⟨_, rfl⟩
        have hpp : pp + c + 1 = mid + m := by omega
        have hcq : ((i : Int) + (j : Int)) / 2 = (c : Int) := by omega
        have hpq : IntKind.i64.wrap ((mid : Int) + (m : Int) - 1 - (c : Int)) = (pp : Int) := by rw [IntKind.wrap_i64]; omega
        have hpq2 : (mid : Int) + (m : Int) - 1 - (c : Int) = (pp : Int) := by omega
        have hpw : IntKind.i64.wrap (pp : Int) = (pp : Int) := by rw [IntKind.wrap_i64]; omega
        have bc1 : (c : Int) < (d.size : Int) := by omega
        have bp1 : (pp : Int) < (d.size : Int) := by omega
        have bc2 : c < d.size := by omega
        have bp2 : pp < d.size := by omega
        have HPN := Lib.hid hpn
        clear hcn hpn
        have la := S1.out.ld R HS.out Try.prog c bc2
        have lb := S1.out.ld R HS.out Try.prog pp bp2
        obtain ⟨x, hx⟩ : ∃ x, x = d[c]! := ⟨_, rfl⟩
        obtain ⟨y, hy⟩ : ∃ y, y = d[pp]! := ⟨_, rfl⟩
        rw [← hx] at la
        rw [← hy] at lb
        have hc := S1.out.cmp HC.out HS.out y x
        have HX := Lib.hid hx
        have HY := Lib.hid hy
        clear hx hy
        by_cases hv : cf y x < 0
        ·
          have hd : decide (cf y x < 0) = true := decide_eq_true hv
          go_wp2_with fail
          go_quiet_grown (first | (go_at_fn g; refine Calls.grown_of (hc _ _)))
          have S2 : Hid (SWK enc k w0 blk off d (grow (wr.drewN nq) osq)) := Lib.hid (S1.out.grown nq osq)
          clear la lb hc S1
          generalize grow (wr.drewN nq) osq = w2 at S2 ⊢
          clear nq osq
          go_wp2
          clear hcq hpq hpq2 hpw
          go_roundg (c - i)
          case measure => omega
          case rel =>
            refine ⟨i, c, rfl, rfl, by omega, by omega, hmi, Nat.le_refl _, S2, Lib.hid ?_⟩
            refine HH.out.down (falls3 HSW.out HM.out (by omega) (by omega) (by omega) (by omega)) (by omega) (by omega) ?_
            show (!ltOf cf d[mid + m - 1 - c]! d[c]!) = false
            rw [← HPN.out, ← HX.out, ← HY.out, Bool.not_eq_false']; exact decide_eq_true hv
        ·
          have hd : decide (cf y x < 0) = false := decide_eq_false hv
          go_wp2_with fail
          go_quiet_grown (first | (go_at_fn g; refine Calls.grown_of (hc _ _)))
          have S2 : Hid (SWK enc k w0 blk off d (grow (wr.drewN nq) osq)) := Lib.hid (S1.out.grown nq osq)
          clear la lb hc S1
          generalize grow (wr.drewN nq) osq = w2 at S2 ⊢
          clear nq osq
          go_wp2
          clear hcq hpq hpq2 hpw
          go_roundg (j - (c + 1))
          case measure => omega
          case rel =>
            refine ⟨c + 1, j, by go_num, rfl, by omega, hjb, by omega, Nat.le_refl _, S2, Lib.hid ?_⟩
            refine HH.out.up (falls3 HSW.out HM.out (by omega) (by omega) (by omega) (by omega)) (by omega) (by omega) ?_
            show (!ltOf cf d[mid + m - 1 - c]! d[c]!) = true
            rw [← HPN.out, ← HX.out, ← HY.out, Bool.not_eq_true']; exact decide_eq_false (by omega)
      · obtain rfl : i = j := by omega
        clear hlt hij
        obtain ⟨en, hen⟩ : ∃ en, en = mid + m - i := ⟨_, rfl⟩
        have he1 : i + en = mid + m := by omega
        have he2 : m ≤ en := by omega
        have he3 : en ≤ b := by omega
        have hsa : a ≤ i := by omega
        have hsm : i ≤ m := by omega
        have hez : (mid : Int) + (m : Int) - (i : Int) = (en : Int) := by omega
        have C1 : Hid (i = a ∨ en = b ∨ (a < i ∧ en < b ∧ lt d[en]! d[i - 1]! = false)) := Lib.hid (by
          rcases Nat.lt_or_ge en b with h | h
          · have hq := HH.out.yes (i - 1) (by omega) (by omega)
            have hq : (!ltOf cf d[mid + m - 1 - (i - 1)]! d[i - 1]!) = true := hq
            rw [Bool.not_eq_true', show mid + m - 1 - (i - 1) = en by omega, HM.out.agree (i - 1) en (by omega) (by omega) (by omega) (by omega)] at hq
            exact .inr (.inr ⟨by omega, h, hq⟩)
          · exact .inr (.inl (by omega)))
        have C2 : Hid (i = m ∨ en = m ∨ (i < m ∧ m < en ∧ lt d[en - 1]! d[i]! = true)) := Lib.hid (by
          rcases Nat.lt_or_ge m en with h | h
          · have hq := HH.out.no i (Nat.le_refl _) (by omega)
            have hq : (!ltOf cf d[mid + m - 1 - i]! d[i]!) = false := hq
            rw [Bool.not_eq_false', show mid + m - 1 - i = en - 1 by omega, HM.out.agree i (en - 1) (by omega) (by omega) (by omega) (by omega)] at hq
            exact .inr (.inr ⟨by omega, h, hq⟩)
          · exact .inr (.inl (by omega)))
        clear hen hkx HH hmi hjb
        by_cases ht1 : i < m
        · by_cases ht2 : m < en
          ·
            by_cases hL1 : a < i
            ·
              by_cases hR2 : en < b
              ·
                have hd1 : decide (i < m) = true := decide_eq_true ht1
                have hd2 : decide (m < en) = true := decide_eq_true ht2
                have hdL1 : decide (a < i) = true := decide_eq_true (by omega)
                have hdL2 : decide (i < mid) = true := decide_eq_true (by omega)
                have hdR1 : decide (mid < en) = true := decide_eq_true (by omega)
                have hdR2 : decide (en < b) = true := decide_eq_true (by omega)
                go_wp2_with (first | (go_at_call 44; ((with_reducible refine (HT.out.at_ (i : Int) (m : Int) (en : Int) i m en d _ rfl rfl rfl rfl S1.out ht1 ht2 (by omega)).mono ?_); rintro e w2 ⟨rfl, d1, S2', hturn⟩; have HCut := Lib.hid (cut_of HSW.out HM.out hb hsa hsm he2 he3 he1 C1.out C2.out hturn.1 hturn.2.1 hturn.2.2); have HZ1 := Lib.hid hturn.1; have S2 := Lib.hid S2'; clear S2' hturn)) | (go_at_call 43; ((with_reducible refine (HI.out.at_ (a : Int) (i : Int) (mid : Int) a i mid _ _ rfl rfl rfl (by omega) HZ1.out S2.out (by omega) (by omega) (by omega) HCut.out.mrgL).mono ?_); rintro e w3 ⟨rfl, d2, S3', hm2'⟩; have hm2 := Lib.hid hm2'; have hz2 := Lib.hid (hm2'.1.trans HZ1.out); have S3 := Lib.hid S3'; clear S3' hm2')) | (go_at_call 43; ((with_reducible refine (HI.out.at_ (mid : Int) (en : Int) (b : Int) mid en b _ _ rfl rfl rfl (by omega) hz2.out S3.out (by omega) (by omega) (by omega) (cut_R HSW.out HCut.out hm2.out)).mono ?_); rintro e w4 ⟨rfl, d3, S4, hm3⟩)))
                go_end0
                exact ⟨rfl, _, S4, cut_end HSW.out HCut.out hb hm2.out hm3⟩
              ·
                have hd1 : decide (i < m) = true := decide_eq_true ht1
                have hd2 : decide (m < en) = true := decide_eq_true ht2
                have hdL1 : decide (a < i) = true := decide_eq_true (by omega)
                have hdL2 : decide (i < mid) = true := decide_eq_true (by omega)
                have hdR1 : decide (mid < en) = true := decide_eq_true (by omega)
                have hdR2 : decide (en < b) = false := decide_eq_false (by omega)
                go_wp2_with (first | (go_at_call 44; ((with_reducible refine (HT.out.at_ (i : Int) (m : Int) (en : Int) i m en d _ rfl rfl rfl rfl S1.out ht1 ht2 (by omega)).mono ?_); rintro e w2 ⟨rfl, d1, S2', hturn⟩; have HCut := Lib.hid (cut_of HSW.out HM.out hb hsa hsm he2 he3 he1 C1.out C2.out hturn.1 hturn.2.1 hturn.2.2); have HZ1 := Lib.hid hturn.1; have S2 := Lib.hid S2'; clear S2' hturn)) | (go_at_call 43; ((with_reducible refine (HI.out.at_ (a : Int) (i : Int) (mid : Int) a i mid _ _ rfl rfl rfl (by omega) HZ1.out S2.out (by omega) (by omega) (by omega) HCut.out.mrgL).mono ?_); rintro e w3 ⟨rfl, d2, S3', hm2'⟩; have hm2 := Lib.hid hm2'; have hz2 := Lib.hid (hm2'.1.trans HZ1.out); have S3 := Lib.hid S3'; clear S3' hm2')))
                go_end0
                exact ⟨rfl, _, S3.out, cut_end HSW.out HCut.out hb hm2.out (cut_skipR HSW.out HCut.out (by omega) hm2.out)⟩
            ·
              by_cases hR2 : en < b
              ·
                have hd1 : decide (i < m) = true := decide_eq_true ht1
                have hd2 : decide (m < en) = true := decide_eq_true ht2
                have hdL1 : decide (a < i) = false := decide_eq_false (by omega)
                have hdR1 : decide (mid < en) = true := decide_eq_true (by omega)
                have hdR2 : decide (en < b) = true := decide_eq_true (by omega)
                go_wp2_with (first | (go_at_call 44; ((with_reducible refine (HT.out.at_ (i : Int) (m : Int) (en : Int) i m en d _ rfl rfl rfl rfl S1.out ht1 ht2 (by omega)).mono ?_); rintro e w2 ⟨rfl, d1, S2', hturn⟩; have HCut := Lib.hid (cut_of HSW.out HM.out hb hsa hsm he2 he3 he1 C1.out C2.out hturn.1 hturn.2.1 hturn.2.2); have HZ1 := Lib.hid hturn.1; have S2 := Lib.hid S2'; clear S2' hturn)) | (go_at_call 43; ((with_reducible refine (HI.out.at_ (mid : Int) (en : Int) (b : Int) mid en b _ _ rfl rfl rfl (by omega) HZ1.out S2.out (by omega) (by omega) (by omega) (cut_R HSW.out HCut.out (cut_skipL HSW.out HCut.out (by omega)))).mono ?_); rintro e w4 ⟨rfl, d3, S4, hm3⟩)))
                go_end0
                exact ⟨rfl, _, S4, cut_end HSW.out HCut.out hb (cut_skipL HSW.out HCut.out (by omega)) hm3⟩
              ·
                have hd1 : decide (i < m) = true := decide_eq_true ht1
                have hd2 : decide (m < en) = true := decide_eq_true ht2
                have hdL1 : decide (a < i) = false := decide_eq_false (by omega)
                have hdR1 : decide (mid < en) = true := decide_eq_true (by omega)
                have hdR2 : decide (en < b) = false := decide_eq_false (by omega)
                go_wp2_with (first | (go_at_call 44; ((with_reducible refine (HT.out.at_ (i : Int) (m : Int) (en : Int) i m en d _ rfl rfl rfl rfl S1.out ht1 ht2 (by omega)).mono ?_); rintro e w2 ⟨rfl, d1, S2', hturn⟩; have HCut := Lib.hid (cut_of HSW.out HM.out hb hsa hsm he2 he3 he1 C1.out C2.out hturn.1 hturn.2.1 hturn.2.2); have HZ1 := Lib.hid hturn.1; have S2 := Lib.hid S2'; clear S2' hturn)))
                go_end0
                exact ⟨rfl, _, S2.out, cut_end HSW.out HCut.out hb (cut_skipL HSW.out HCut.out (by omega)) (cut_skipR HSW.out HCut.out (by omega) (cut_skipL HSW.out HCut.out (by omega)))⟩
          ·
            have HCut := Lib.hid (cut_of HSW.out HM.out hb hsa hsm he2 he3 he1 C1.out C2.out rfl (permIn_refl _ _ _) (turned_none (.inr (by omega))))
            have S2 := Lib.hid S1.out
            have HZ1 : Hid (d.size = d.size) := Lib.hid rfl
            have hd1 : decide (i < m) = true := decide_eq_true ht1
            have hd2 : decide (m < en) = false := decide_eq_false ht2
            by_cases hR2 : en < b
            ·
              have hdL1 : decide (a < i) = true := decide_eq_true (by omega)
              have hdL2 : decide (i < mid) = false := decide_eq_false (by omega)
              have hdR1 : decide (mid < en) = true := decide_eq_true (by omega)
              have hdR2 : decide (en < b) = true := decide_eq_true (by omega)
              go_wp2_with (first | (go_at_call 43; ((with_reducible refine (HI.out.at_ (mid : Int) (en : Int) (b : Int) mid en b _ _ rfl rfl rfl (by omega) HZ1.out S2.out (by omega) (by omega) (by omega) (cut_R HSW.out HCut.out (cut_skipL HSW.out HCut.out (by omega)))).mono ?_); rintro e w4 ⟨rfl, d3, S4, hm3⟩)))
              go_end0
              exact ⟨rfl, _, S4, cut_end HSW.out HCut.out hb (cut_skipL HSW.out HCut.out (by omega)) hm3⟩
            ·
              have hdL1 : decide (a < i) = true := decide_eq_true (by omega)
              have hdL2 : decide (i < mid) = false := decide_eq_false (by omega)
              have hdR1 : decide (mid < en) = true := decide_eq_true (by omega)
              have hdR2 : decide (en < b) = false := decide_eq_false (by omega)
              go_wp2
              go_end0
              exact ⟨rfl, _, S2.out, cut_end HSW.out HCut.out hb (cut_skipL HSW.out HCut.out (by omega)) (cut_skipR HSW.out HCut.out (by omega) (cut_skipL HSW.out HCut.out (by omega)))⟩
        ·
          have HCut := Lib.hid (cut_of HSW.out HM.out hb hsa hsm he2 he3 he1 C1.out C2.out rfl (permIn_refl _ _ _) (turned_none (.inl (by omega))))
          have S2 := Lib.hid S1.out
          have HZ1 : Hid (d.size = d.size) := Lib.hid rfl
          have hd1 : decide (i < m) = false := decide_eq_false ht1
          by_cases hL1 : a < i
          · by_cases hL2 : i < mid
            ·
              have hdL1 : decide (a < i) = true := decide_eq_true (by omega)
              have hdL2 : decide (i < mid) = true := decide_eq_true (by omega)
              have hdR1 : decide (mid < en) = false := decide_eq_false (by omega)
              go_wp2_with (first | (go_at_call 43; ((with_reducible refine (HI.out.at_ (a : Int) (i : Int) (mid : Int) a i mid _ _ rfl rfl rfl (by omega) HZ1.out S2.out (by omega) (by omega) (by omega) HCut.out.mrgL).mono ?_); rintro e w3 ⟨rfl, d2, S3', hm2'⟩; have hm2 := Lib.hid hm2'; have hz2 := Lib.hid (hm2'.1.trans HZ1.out); have S3 := Lib.hid S3'; clear S3' hm2')))
              go_end0
              exact ⟨rfl, _, S3.out, cut_end HSW.out HCut.out hb hm2.out (cut_skipR HSW.out HCut.out (by omega) hm2.out)⟩
            ·
              have hdL1 : decide (a < i) = true := decide_eq_true (by omega)
              have hdL2 : decide (i < mid) = false := decide_eq_false (by omega)
              have hdR1 : decide (mid < en) = false := decide_eq_false (by omega)
              go_wp2
              go_end0
              exact ⟨rfl, _, S2.out, cut_end HSW.out HCut.out hb (cut_skipL HSW.out HCut.out (by omega)) (cut_skipR HSW.out HCut.out (by omega) (cut_skipL HSW.out HCut.out (by omega)))⟩
          ·
            have hdL1 : decide (a < i) = false := decide_eq_false (by omega)
            have hdR1 : decide (mid < en) = false := decide_eq_false (by omega)
            go_wp2
            go_end0
            exact ⟨rfl, _, S2.out, cut_end HSW.out HCut.out hb (cut_skipL HSW.out HCut.out (by omega)) (cut_skipR HSW.out HCut.out (by omega) (cut_skipL HSW.out HCut.out (by omega)))⟩
  ·
    have hd0 : decide (mid < m) = false := decide_eq_false (by omega)
    go_enter Try.func43, Try.ntmps43
    go_wp2
    clear hb1 hb2 hd0
    go_loopg [20, 21] (b - a) (fun kx s20 s21 wr => ∃ (i j : Nat), s20 = .int .i64 i ∧ s21 = .int .i64 j ∧ i ≤ j ∧ j ≤ m ∧ a ≤ i ∧ j - i ≤ kx ∧ Hid (SWK enc k w0 blk off d wr) ∧ Hid (Half (fun x => !ltOf cf d[mid + m - 1 - x]! d[x]!) a m i j))
    case atStart => exact ⟨a, m, rfl, rfl, by omega, Nat.le_refl _, Nat.le_refl _, by omega, S0, Lib.hid (Half.start (by omega))⟩
    case round =>
      clear S0
      obtain ⟨i, j, rfl, rfl, hij, hjb, hmi, hkx, S1, HH⟩ := hrel
      by_cases hlt : i < j
      · obtain ⟨c, hcn⟩ : ∃ c, c = (i + j) / 2 := ⟨_, rfl⟩
        have hci : i ≤ c := by omega
        have hcj : c < j := by omega
        obtain ⟨pp, hpn⟩ : ∃ pp, pp = mid + m - 1 - c := ⟨_, rfl⟩
        have hpp : pp + c + 1 = mid + m := by omega
        have hcq : ((i : Int) + (j : Int)) / 2 = (c : Int) := by omega
        have hpq : IntKind.i64.wrap ((mid : Int) + (m : Int) - 1 - (c : Int)) = (pp : Int) := by rw [IntKind.wrap_i64]; omega
        have hpq2 : (mid : Int) + (m : Int) - 1 - (c : Int) = (pp : Int) := by omega
        have hpw : IntKind.i64.wrap (pp : Int) = (pp : Int) := by rw [IntKind.wrap_i64]; omega
        have bc1 : (c : Int) < (d.size : Int) := by omega
        have bp1 : (pp : Int) < (d.size : Int) := by omega
        have bc2 : c < d.size := by omega
        have bp2 : pp < d.size := by omega
        have HPN := Lib.hid hpn
        clear hcn hpn
        have la := S1.out.ld R HS.out Try.prog c bc2
        have lb := S1.out.ld R HS.out Try.prog pp bp2
        obtain ⟨x, hx⟩ : ∃ x, x = d[c]! := ⟨_, rfl⟩
        obtain ⟨y, hy⟩ : ∃ y, y = d[pp]! := ⟨_, rfl⟩
        rw [← hx] at la
        rw [← hy] at lb
        have hc := S1.out.cmp HC.out HS.out y x
        have HX := Lib.hid hx
        have HY := Lib.hid hy
        clear hx hy
        by_cases hv : cf y x < 0
        ·
          have hd : decide (cf y x < 0) = true := decide_eq_true hv
          go_wp2_with fail
          go_quiet_grown (first | (go_at_fn g; refine Calls.grown_of (hc _ _)))
          have S2 : Hid (SWK enc k w0 blk off d (grow (wr.drewN nq) osq)) := Lib.hid (S1.out.grown nq osq)
          clear la lb hc S1
          generalize grow (wr.drewN nq) osq = w2 at S2 ⊢
          clear nq osq
          go_wp2
          clear hcq hpq hpq2 hpw
          go_roundg (c - i)
          case measure => omega
          case rel =>
            refine ⟨i, c, rfl, rfl, by omega, by omega, hmi, Nat.le_refl _, S2, Lib.hid ?_⟩
            refine HH.out.down (falls3 HSW.out HM.out (by omega) (by omega) (by omega) (by omega)) (by omega) (by omega) ?_
            show (!ltOf cf d[mid + m - 1 - c]! d[c]!) = false
            rw [← HPN.out, ← HX.out, ← HY.out, Bool.not_eq_false']; exact decide_eq_true hv
        ·
          have hd : decide (cf y x < 0) = false := decide_eq_false hv
          go_wp2_with fail
          go_quiet_grown (first | (go_at_fn g; refine Calls.grown_of (hc _ _)))
          have S2 : Hid (SWK enc k w0 blk off d (grow (wr.drewN nq) osq)) := Lib.hid (S1.out.grown nq osq)
          clear la lb hc S1
          generalize grow (wr.drewN nq) osq = w2 at S2 ⊢
          clear nq osq
          go_wp2
          clear hcq hpq hpq2 hpw
          go_roundg (j - (c + 1))
          case measure => omega
          case rel =>
            refine ⟨c + 1, j, by go_num, rfl, by omega, hjb, by omega, Nat.le_refl _, S2, Lib.hid ?_⟩
            refine HH.out.up (falls3 HSW.out HM.out (by omega) (by omega) (by omega) (by omega)) (by omega) (by omega) ?_
            show (!ltOf cf d[mid + m - 1 - c]! d[c]!) = true
            rw [← HPN.out, ← HX.out, ← HY.out, Bool.not_eq_true']; exact decide_eq_false (by omega)
      · obtain rfl : i = j := by omega
        clear hlt hij
        obtain ⟨en, hen⟩ : ∃ en, en = mid + m - i := ⟨_, rfl⟩
        have he1 : i + en = mid + m := by omega
        have he2 : m ≤ en := by omega
        have he3 : en ≤ b := by omega
        have hsa : a ≤ i := by omega
        have hsm : i ≤ m := by omega
        have hez : (mid : Int) + (m : Int) - (i : Int) = (en : Int) := by omega
        have C1 : Hid (i = a ∨ en = b ∨ (a < i ∧ en < b ∧ lt d[en]! d[i - 1]! = false)) := Lib.hid (by
          rcases Nat.lt_or_ge a i with h | h
          · have hq := HH.out.yes (i - 1) (by omega) (by omega)
            have hq : (!ltOf cf d[mid + m - 1 - (i - 1)]! d[i - 1]!) = true := hq
            rw [Bool.not_eq_true', show mid + m - 1 - (i - 1) = en by omega, HM.out.agree (i - 1) en (by omega) (by omega) (by omega) (by omega)] at hq
            exact .inr (.inr ⟨h, by omega, hq⟩)
          · exact .inl (by omega))
        have C2 : Hid (i = m ∨ en = m ∨ (i < m ∧ m < en ∧ lt d[en - 1]! d[i]! = true)) := Lib.hid (by
          rcases Nat.lt_or_ge i m with h | h
          · have hq := HH.out.no i (Nat.le_refl _) (by omega)
            have hq : (!ltOf cf d[mid + m - 1 - i]! d[i]!) = false := hq
            rw [Bool.not_eq_false', show mid + m - 1 - i = en - 1 by omega, HM.out.agree i (en - 1) (by omega) (by omega) (by omega) (by omega)] at hq
            exact .inr (.inr ⟨h, by omega, hq⟩)
          · exact .inl (by omega))
        clear hen hkx HH hmi hjb
        by_cases ht1 : i < m
        · by_cases ht2 : m < en
          ·
            by_cases hL1 : a < i
            ·
              by_cases hR2 : en < b
              ·
                have hd1 : decide (i < m) = true := decide_eq_true ht1
                have hd2 : decide (m < en) = true := decide_eq_true ht2
                have hdL1 : decide (a < i) = true := decide_eq_true (by omega)
                have hdL2 : decide (i < mid) = true := decide_eq_true (by omega)
                have hdR1 : decide (mid < en) = true := decide_eq_true (by omega)
                have hdR2 : decide (en < b) = true := decide_eq_true (by omega)
                go_wp2_with (first | (go_at_call 44; ((with_reducible refine (HT.out.at_ (i : Int) (m : Int) (en : Int) i m en d _ rfl rfl rfl rfl S1.out ht1 ht2 (by omega)).mono ?_); rintro e w2 ⟨rfl, d1, S2', hturn⟩; have HCut := Lib.hid (cut_of HSW.out HM.out hb hsa hsm he2 he3 he1 C1.out C2.out hturn.1 hturn.2.1 hturn.2.2); have HZ1 := Lib.hid hturn.1; have S2 := Lib.hid S2'; clear S2' hturn)) | (go_at_call 43; ((with_reducible refine (HI.out.at_ (a : Int) (i : Int) (mid : Int) a i mid _ _ rfl rfl rfl (by omega) HZ1.out S2.out (by omega) (by omega) (by omega) HCut.out.mrgL).mono ?_); rintro e w3 ⟨rfl, d2, S3', hm2'⟩; have hm2 := Lib.hid hm2'; have hz2 := Lib.hid (hm2'.1.trans HZ1.out); have S3 := Lib.hid S3'; clear S3' hm2')) | (go_at_call 43; ((with_reducible refine (HI.out.at_ (mid : Int) (en : Int) (b : Int) mid en b _ _ rfl rfl rfl (by omega) hz2.out S3.out (by omega) (by omega) (by omega) (cut_R HSW.out HCut.out hm2.out)).mono ?_); rintro e w4 ⟨rfl, d3, S4, hm3⟩)))
                go_end0
                exact ⟨rfl, _, S4, cut_end HSW.out HCut.out hb hm2.out hm3⟩
              ·
                have hd1 : decide (i < m) = true := decide_eq_true ht1
                have hd2 : decide (m < en) = true := decide_eq_true ht2
                have hdL1 : decide (a < i) = true := decide_eq_true (by omega)
                have hdL2 : decide (i < mid) = true := decide_eq_true (by omega)
                have hdR1 : decide (mid < en) = true := decide_eq_true (by omega)
                have hdR2 : decide (en < b) = false := decide_eq_false (by omega)
                go_wp2_with (first | (go_at_call 44; ((with_reducible refine (HT.out.at_ (i : Int) (m : Int) (en : Int) i m en d _ rfl rfl rfl rfl S1.out ht1 ht2 (by omega)).mono ?_); rintro e w2 ⟨rfl, d1, S2', hturn⟩; have HCut := Lib.hid (cut_of HSW.out HM.out hb hsa hsm he2 he3 he1 C1.out C2.out hturn.1 hturn.2.1 hturn.2.2); have HZ1 := Lib.hid hturn.1; have S2 := Lib.hid S2'; clear S2' hturn)) | (go_at_call 43; ((with_reducible refine (HI.out.at_ (a : Int) (i : Int) (mid : Int) a i mid _ _ rfl rfl rfl (by omega) HZ1.out S2.out (by omega) (by omega) (by omega) HCut.out.mrgL).mono ?_); rintro e w3 ⟨rfl, d2, S3', hm2'⟩; have hm2 := Lib.hid hm2'; have hz2 := Lib.hid (hm2'.1.trans HZ1.out); have S3 := Lib.hid S3'; clear S3' hm2')))
                go_end0
                exact ⟨rfl, _, S3.out, cut_end HSW.out HCut.out hb hm2.out (cut_skipR HSW.out HCut.out (by omega) hm2.out)⟩
            ·
              by_cases hR2 : en < b
              ·
                have hd1 : decide (i < m) = true := decide_eq_true ht1
                have hd2 : decide (m < en) = true := decide_eq_true ht2
                have hdL1 : decide (a < i) = false := decide_eq_false (by omega)
                have hdR1 : decide (mid < en) = true := decide_eq_true (by omega)
                have hdR2 : decide (en < b) = true := decide_eq_true (by omega)
                go_wp2_with (first | (go_at_call 44; ((with_reducible refine (HT.out.at_ (i : Int) (m : Int) (en : Int) i m en d _ rfl rfl rfl rfl S1.out ht1 ht2 (by omega)).mono ?_); rintro e w2 ⟨rfl, d1, S2', hturn⟩; have HCut := Lib.hid (cut_of HSW.out HM.out hb hsa hsm he2 he3 he1 C1.out C2.out hturn.1 hturn.2.1 hturn.2.2); have HZ1 := Lib.hid hturn.1; have S2 := Lib.hid S2'; clear S2' hturn)) | (go_at_call 43; ((with_reducible refine (HI.out.at_ (mid : Int) (en : Int) (b : Int) mid en b _ _ rfl rfl rfl (by omega) HZ1.out S2.out (by omega) (by omega) (by omega) (cut_R HSW.out HCut.out (cut_skipL HSW.out HCut.out (by omega)))).mono ?_); rintro e w4 ⟨rfl, d3, S4, hm3⟩)))
                go_end0
                exact ⟨rfl, _, S4, cut_end HSW.out HCut.out hb (cut_skipL HSW.out HCut.out (by omega)) hm3⟩
              ·
                have hd1 : decide (i < m) = true := decide_eq_true ht1
                have hd2 : decide (m < en) = true := decide_eq_true ht2
                have hdL1 : decide (a < i) = false := decide_eq_false (by omega)
                have hdR1 : decide (mid < en) = true := decide_eq_true (by omega)
                have hdR2 : decide (en < b) = false := decide_eq_false (by omega)
                go_wp2_with (first | (go_at_call 44; ((with_reducible refine (HT.out.at_ (i : Int) (m : Int) (en : Int) i m en d _ rfl rfl rfl rfl S1.out ht1 ht2 (by omega)).mono ?_); rintro e w2 ⟨rfl, d1, S2', hturn⟩; have HCut := Lib.hid (cut_of HSW.out HM.out hb hsa hsm he2 he3 he1 C1.out C2.out hturn.1 hturn.2.1 hturn.2.2); have HZ1 := Lib.hid hturn.1; have S2 := Lib.hid S2'; clear S2' hturn)))
                go_end0
                exact ⟨rfl, _, S2.out, cut_end HSW.out HCut.out hb (cut_skipL HSW.out HCut.out (by omega)) (cut_skipR HSW.out HCut.out (by omega) (cut_skipL HSW.out HCut.out (by omega)))⟩
          ·
            have HCut := Lib.hid (cut_of HSW.out HM.out hb hsa hsm he2 he3 he1 C1.out C2.out rfl (permIn_refl _ _ _) (turned_none (.inr (by omega))))
            have S2 := Lib.hid S1.out
            have HZ1 : Hid (d.size = d.size) := Lib.hid rfl
            have hd1 : decide (i < m) = true := decide_eq_true ht1
            have hd2 : decide (m < en) = false := decide_eq_false ht2
            by_cases hR2 : en < b
            ·
              have hdL1 : decide (a < i) = true := decide_eq_true (by omega)
              have hdL2 : decide (i < mid) = false := decide_eq_false (by omega)
              have hdR1 : decide (mid < en) = true := decide_eq_true (by omega)
              have hdR2 : decide (en < b) = true := decide_eq_true (by omega)
              go_wp2_with (first | (go_at_call 43; ((with_reducible refine (HI.out.at_ (mid : Int) (en : Int) (b : Int) mid en b _ _ rfl rfl rfl (by omega) HZ1.out S2.out (by omega) (by omega) (by omega) (cut_R HSW.out HCut.out (cut_skipL HSW.out HCut.out (by omega)))).mono ?_); rintro e w4 ⟨rfl, d3, S4, hm3⟩)))
              go_end0
              exact ⟨rfl, _, S4, cut_end HSW.out HCut.out hb (cut_skipL HSW.out HCut.out (by omega)) hm3⟩
            ·
              have hdL1 : decide (a < i) = true := decide_eq_true (by omega)
              have hdL2 : decide (i < mid) = false := decide_eq_false (by omega)
              have hdR1 : decide (mid < en) = true := decide_eq_true (by omega)
              have hdR2 : decide (en < b) = false := decide_eq_false (by omega)
              go_wp2
              go_end0
              exact ⟨rfl, _, S2.out, cut_end HSW.out HCut.out hb (cut_skipL HSW.out HCut.out (by omega)) (cut_skipR HSW.out HCut.out (by omega) (cut_skipL HSW.out HCut.out (by omega)))⟩
        ·
          have HCut := Lib.hid (cut_of HSW.out HM.out hb hsa hsm he2 he3 he1 C1.out C2.out rfl (permIn_refl _ _ _) (turned_none (.inl (by omega))))
          have S2 := Lib.hid S1.out
          have HZ1 : Hid (d.size = d.size) := Lib.hid rfl
          have hd1 : decide (i < m) = false := decide_eq_false ht1
          by_cases hL1 : a < i
          · by_cases hL2 : i < mid
            ·
              have hdL1 : decide (a < i) = true := decide_eq_true (by omega)
              have hdL2 : decide (i < mid) = true := decide_eq_true (by omega)
              have hdR1 : decide (mid < en) = false := decide_eq_false (by omega)
              go_wp2_with (first | (go_at_call 43; ((with_reducible refine (HI.out.at_ (a : Int) (i : Int) (mid : Int) a i mid _ _ rfl rfl rfl (by omega) HZ1.out S2.out (by omega) (by omega) (by omega) HCut.out.mrgL).mono ?_); rintro e w3 ⟨rfl, d2, S3', hm2'⟩; have hm2 := Lib.hid hm2'; have hz2 := Lib.hid (hm2'.1.trans HZ1.out); have S3 := Lib.hid S3'; clear S3' hm2')))
              go_end0
              exact ⟨rfl, _, S3.out, cut_end HSW.out HCut.out hb hm2.out (cut_skipR HSW.out HCut.out (by omega) hm2.out)⟩
            ·
              have hdL1 : decide (a < i) = true := decide_eq_true (by omega)
              have hdL2 : decide (i < mid) = false := decide_eq_false (by omega)
              have hdR1 : decide (mid < en) = false := decide_eq_false (by omega)
              go_wp2
              go_end0
              exact ⟨rfl, _, S2.out, cut_end HSW.out HCut.out hb (cut_skipL HSW.out HCut.out (by omega)) (cut_skipR HSW.out HCut.out (by omega) (cut_skipL HSW.out HCut.out (by omega)))⟩
          ·
            have hdL1 : decide (a < i) = false := decide_eq_false (by omega)
            have hdR1 : decide (mid < en) = false := decide_eq_false (by omega)
            go_wp2
            go_end0
            exact ⟨rfl, _, S2.out, cut_end HSW.out HCut.out hb (cut_skipL HSW.out HCut.out (by omega)) (cut_skipR HSW.out HCut.out (by omega) (cut_skipL HSW.out HCut.out (by omega)))⟩
end Go.Proofs.Ytdmgnafafafdpaa
