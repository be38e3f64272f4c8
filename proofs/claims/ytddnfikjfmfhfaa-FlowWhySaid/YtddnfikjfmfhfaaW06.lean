/- Texts of this proof, one behind the other. -/
import Derived.Shelf.SlLaysF
import Derived.Shelf.SlSortCmp.Insertion1
import Derived.Test.YtddnfikjfmfhfaaProg
import Derived.Deep.QuietTactic
import Derived.BigQuiet
import Derived.Sort.Grow
import Derived.Test.YtddnfikjfmfhfaaW05
import Derived.Test.YtddnfikjfmfhfaaW04
section
/- Merging in place, the general step, by recursion (slices.symMergeCmpFunc). Written by gen_m3.py. -/
namespace Go.Proofs.Ytddnfikjfmfhfaa
namespace I1
open Go.ChangeShapes Go.WideShapes Go.ChangeAt Go.RowKit Go.Shelf Go.Lib Go.Sort Go.Proofs
set_option linter.unusedVariables false
variable {α : Type} [Inhabited α]

/-- The merge of shorter rows, by whatever numbers they are named. -/
def MergesBelow (lt : α → α → Bool) (enc : α → Value) (cf : α → α → Int) (g : Nat) (cb : Array Value) (blk off cap size N : Nat) (w0 : World) : Prop :=
  ∀ (xa xm xb : Int) (a m b : Nat) (d : Array α) (w : World), xa = a → xm = m → xb = b → b - a < N → d.size = size → SW enc w0 blk off d w → a < m → m < b → b ≤ size → Mrg lt (ltOf cf) a m b d →
    Calls Try.prog 87 #[.slice (some ⟨blk, off, none⟩) size cap, .int .i64 xa, .int .i64 xm, .int .i64 xb, .func (.func g) #[] cb] w (MergeTo lt enc w0 blk off a b d)
theorem MergesBelow.at_ {lt : α → α → Bool} {enc : α → Value} {cf : α → α → Int} {g : Nat} {cb : Array Value} {blk off cap size N : Nat} {w0 : World} (h : MergesBelow lt enc cf g cb blk off cap size N w0) :
  ∀ (xa xm xb : Int) (a m b : Nat) (d : Array α) (w : World), xa = a → xm = m → xb = b → b - a < N → d.size = size → SW enc w0 blk off d w → a < m → m < b → b ≤ size → Mrg lt (ltOf cf) a m b d →
    Calls Try.prog 87 #[.slice (some ⟨blk, off, none⟩) size cap, .int .i64 xa, .int .i64 xm, .int .i64 xb, .func (.func g) #[] cb] w (MergeTo lt enc w0 blk off a b d) := h
def Turns (enc : α → Value) (g : Nat) (cb : Array Value) (blk off cap size : Nat) (w0 : World) : Prop :=
  ∀ (xa xm xb : Int) (a m b : Nat) (d : Array α) (w : World), xa = a → xm = m → xb = b → d.size = size → SW enc w0 blk off d w → a < m → m < b → b ≤ size →
    Calls Try.prog 90 #[.slice (some ⟨blk, off, none⟩) size cap, .int .i64 xa, .int .i64 xm, .int .i64 xb, .func (.func g) #[] cb] w fun e w' =>
      e = .returned (.tuple #[]) ∧ ∃ d', SW enc w0 blk off d' w' ∧ Turned d a m b d'
theorem Turns.at_ {enc : α → Value} {g : Nat} {cb : Array Value} {blk off cap size : Nat} {w0 : World} (h : Turns enc g cb blk off cap size w0) :
  ∀ (xa xm xb : Int) (a m b : Nat) (d : Array α) (w : World), xa = a → xm = m → xb = b → d.size = size → SW enc w0 blk off d w → a < m → m < b → b ≤ size →
    Calls Try.prog 90 #[.slice (some ⟨blk, off, none⟩) size cap, .int .i64 xa, .int .i64 xm, .int .i64 xb, .func (.func g) #[] cb] w fun e w' =>
      e = .returned (.tuple #[]) ∧ ∃ d', SW enc w0 blk off d' w' ∧ Turned d a m b d' := h

set_option maxHeartbeats 16000000 in
set_option maxRecDepth 1000000 in
theorem symMerge_step (enc : α → Value) (cf : α → α → Int) (lt : α → α → Bool) (hS : SWO lt) (g : Nat) (cb : Array Value) (blk off cap a m b mid : Nat) (d0 d : Array α) (w0 w : World)
    (eg : ∀ args w, (callFunc g args).run Try.prog w = .ok (.enter g args) w) (hcmp : CmpLays1 Try.prog g cb enc cf blk off d0.size w0) (R : Row1 enc w0 blk off d0) (hs : d.size = d0.size) (S : SW enc w0 blk off d w) (hmid : mid = (a + b) / 2) (ham : a + 1 < m) (hmb : m + 1 < b) (hb : b ≤ d.size) (hsz : d.size < 1152921504606846976)
    (hM : Mrg lt (ltOf cf) a m b d) (hI : MergesBelow lt enc cf g cb blk off cap d.size (b - a) w0) (hT : Turns enc g cb blk off cap d.size w0) :
    Calls Try.prog 87 #[.slice (some ⟨blk, off, none⟩) d.size cap, .int .i64 a, .int .i64 m, .int .i64 b, .func (.func g) #[] cb] w (MergeTo lt enc w0 blk off a b d) := by
  have mixed : Try.prog.follows .mixedOrders = true := by kernel_rfl
  have S0 : Hid (SW enc w0 blk off d w) := Lib.hid S
  have HC := Lib.hid hcmp
  have HS := Lib.hid hs
  have HSW := Lib.hid hS
  have HM := Lib.hid hM
  have HI := Lib.hid hI
  have HT := Lib.hid hT
  have hb1 : ((m : Int) - (a : Int) == 1) = false := by simp; omega
  have hb2 : ((b : Int) - (m : Int) == 1) = false := by simp; omega
  have hq : ((a : Int) + (b : Int)) / 2 = (mid : Int) := by omega
  have hmid1 : a + b ≤ 2 * mid + 1 := by omega
  have hmid2 : 2 * mid ≤ a + b := by omega
  clear S hcmp hs hS hM hmid hI hT
  by_cases hgm : mid < m
  ·
    have hd0 : decide (mid < m) = true := decide_eq_true (by omega)
    go_enter Try.func87, Try.ntmps87
    go_wp2
    clear hb1 hb2 hd0
    go_loopg [20, 21] (b - a) (fun kx s20 s21 wr => ∃ (i j : Nat), s20 = .int .i64 i ∧ s21 = .int .i64 j ∧ i ≤ j ∧ j ≤ mid ∧ (mid + m - b) ≤ i ∧ j - i ≤ kx ∧ Hid (SW enc w0 blk off d wr) ∧ Hid (Half (fun x => !ltOf cf d[mid + m - 1 - x]! d[x]!) (mid + m - b) mid i j))
    case atStart => exact ⟨(mid + m - b), mid, by rw [show ((mid + m - b : Nat) : Int) = (mid : Int) + (m : Int) - (b : Int) by omega], rfl, by omega, Nat.le_refl _, Nat.le_refl _, by omega, S0, Lib.hid (Half.start (by omega))⟩
    case round =>
      clear S0
      obtain ⟨i, j, rfl, rfl, hij, hjb, hmi, hkx, S1, HH⟩ := hrel
      by_cases hlt : i < j
      · obtain ⟨c, hcn⟩ : ∃ c, c = (i + j) / 2 := ⟨_, rfl⟩
        have hci : i ≤ c := by omega
        have hcj : c < j := by omega
        obtain ⟨pp, hpn⟩ : ∃ pp, pp = mid + m - 1 - c := ⟨_, rfl⟩
        have hpp : pp + c + 1 = mid + m := by omega
        have hcq : ((i : Int) + (j : Int)) / 2 = (c : Int) := by omega
        have hpq : IntKind.i64.wrap ((mid : Int) + (m : Int) - 1 - (c : Int)) = (pp : Int) := by rw [IntKind.wrap_i64]; omega
        have hpq2 : (mid : Int) + (m : Int) - 1 - (c : Int) = (pp : Int) := by omega
        have hpw : IntKind.i64.wrap (pp : Int) = (pp : Int) := by rw [IntKind.wrap_i64]; omega
        have bc1 : (c : Int) < (d.size : Int) := by omega
        have bp1 : (pp : Int) < (d.size : Int) := by omega
        have bc2 : c < d.size := by omega
        have bp2 : pp < d.size := by omega
        have HPN := Lib.hid hpn
        clear hcn hpn
        have la := S1.out.cl R HS.out c bc2
        have lb := S1.out.cl R HS.out pp bp2
        obtain ⟨x, hx⟩ : ∃ x, x = d[c]! := ⟨_, rfl⟩
        obtain ⟨y, hy⟩ : ∃ y, y = d[pp]! := ⟨_, rfl⟩
        rw [← hx] at la
        rw [← hy] at lb
        have hc := S1.out.cmp HC.out HS.out y x
        have HX := Lib.hid hx
        have HY := Lib.hid hy
        clear hx hy
        by_cases hv : cf y x < 0
        ·
          have hd : decide (cf y x < 0) = true := decide_eq_true hv
          go_wp2_with fail
          go_quiet_grown (first | (go_at_fn g; refine Calls.grown_of (hc _ _)))
          have S2 : Hid (SW enc w0 blk off d (grow (wr.drewN nq) osq)) := Lib.hid (S1.out.grown nq osq)
          clear la lb hc S1
          generalize grow (wr.drewN nq) osq = w2 at S2 ⊢
          clear nq osq
          go_wp2
          clear hcq hpq hpq2 hpw
          go_roundg (c - i)
          case measure => omega
          case rel =>
            refine ⟨i, c, rfl, rfl, by omega, by omega, hmi, Nat.le_refl _, S2, Lib.hid ?_⟩
            refine HH.out.down (falls3 HSW.out HM.out (by omega) (by omega) (by omega) (by omega)) (by omega) (by omega) ?_
            show (!ltOf cf d[mid + m - 1 - c]! d[c]!) = false
            rw [← HPN.out, ← HX.out, ← HY.out, Bool.not_eq_false']; exact decide_eq_true hv
        ·
          have hd : decide (cf y x < 0) = false := decide_eq_false hv
          go_wp2_with fail
          go_quiet_grown (first | (go_at_fn g; refine Calls.grown_of (hc _ _)))
          have S2 : Hid (SW enc w0 blk off d (grow (wr.drewN nq) osq)) := Lib.hid (S1.out.grown nq osq)
          clear la lb hc S1
          generalize grow (wr.drewN nq) osq = w2 at S2 ⊢
          clear nq osq
          go_wp2
          clear hcq hpq hpq2 hpw
          go_roundg (j - (c + 1))
          case measure => omega
          case rel =>
            refine ⟨c + 1, j, by go_num, rfl, by omega, hjb, by omega, Nat.le_refl _, S2, Lib.hid ?_⟩
            refine HH.out.up (falls3 HSW.out HM.out (by omega) (by omega) (by omega) (by omega)) (by omega) (by omega) ?_
            show (!ltOf cf d[mid + m - 1 - c]! d[c]!) = true
            rw [← HPN.out, ← HX.out, ← HY.out, Bool.not_eq_true']; exact decide_eq_false (by omega)
      · obtain rfl : i = j := by omega
        clear hlt hij
        obtain ⟨en, hen⟩ : ∃ en, en = mid + m - i := ⟨_, rfl⟩
        have he1 : i + en = mid + m := by omega
        have he2 : m ≤ en := by omega
        have he3 : en ≤ b := by omega
        have hsa : a ≤ i := by omega
        have hsm : i ≤ m := by omega
        have hez : (mid : Int) + (m : Int) - (i : Int) = (en : Int) := by omega
        have C1 : Hid (i = a ∨ en = b ∨ (a < i ∧ en < b ∧ lt d[en]! d[i - 1]! = false)) := Lib.hid (by
          rcases Nat.lt_or_ge en b with h | h
          · have hq := HH.out.yes (i - 1) (by omega) (by omega)
            have hq : (!ltOf cf d[mid + m - 1 - (i - 1)]! d[i - 1]!) = true := hq
            rw [Bool.not_eq_true', show mid + m - 1 - (i - 1) = en by omega, HM.out.agree (i - 1) en (by omega) (by omega) (by omega) (by omega)] at hq
            exact .inr (.inr ⟨by omega, h, hq⟩)
          · exact .inr (.inl (by omega)))
        have C2 : Hid (i = m ∨ en = m ∨ (i < m ∧ m < en ∧ lt d[en - 1]! d[i]! = true)) := Lib.hid (by
          rcases Nat.lt_or_ge m en with h | h
          · have hq := HH.out.no i (Nat.le_refl _) (by omega)
            have hq : (!ltOf cf d[mid + m - 1 - i]! d[i]!) = false := hq
            rw [Bool.not_eq_false', show mid + m - 1 - i = en - 1 by omega, HM.out.agree i (en - 1) (by omega) (by omega) (by omega) (by omega)] at hq
            exact .inr (.inr ⟨by omega, h, hq⟩)
          · exact .inr (.inl (by omega)))
        clear hen hkx HH hmi hjb
        by_cases ht1 : i < m
        · by_cases ht2 : m < en
          ·
            by_cases hL1 : a < i
            ·
              by_cases hR2 : en < b
              ·
                have hd1 : decide (i < m) = true := decide_eq_true ht1
                have hd2 : decide (m < en) = true := decide_eq_true ht2
                have hdL1 : decide (a < i) = true := decide_eq_true (by omega)
                have hdL2 : decide (i < mid) = true := decide_eq_true (by omega)
                have hdR1 : decide (mid < en) = true := decide_eq_true (by omega)
                have hdR2 : decide (en < b) = true := decide_eq_true (by omega)
                go_wp2_with (first | (go_at_call 90; ((with_reducible refine (HT.out.at_ (i : Int) (m : Int) (en : Int) i m en d _ rfl rfl rfl rfl S1.out ht1 ht2 (by omega)).mono ?_); rintro e w2 ⟨rfl, d1, S2', hturn⟩; have HCut := Lib.hid (cut_of HSW.out HM.out hb hsa hsm he2 he3 he1 C1.out C2.out hturn.1 hturn.2.1 hturn.2.2); have HZ1 := Lib.hid hturn.1; have S2 := Lib.hid S2'; clear S2' hturn)) | (go_at_call 87; ((with_reducible refine (HI.out.at_ (a : Int) (i : Int) (mid : Int) a i mid _ _ rfl rfl rfl (by omega) HZ1.out S2.out (by omega) (by omega) (by omega) HCut.out.mrgL).mono ?_); rintro e w3 ⟨rfl, d2, S3', hm2'⟩; have hm2 := Lib.hid hm2'; have hz2 := Lib.hid (hm2'.1.trans HZ1.out); have S3 := Lib.hid S3'; clear S3' hm2')) | (go_at_call 87; ((with_reducible refine (HI.out.at_ (mid : Int) (en : Int) (b : Int) mid en b _ _ rfl rfl rfl (by omega) hz2.out S3.out (by omega) (by omega) (by omega) (cut_R HSW.out HCut.out hm2.out)).mono ?_); rintro e w4 ⟨rfl, d3, S4, hm3⟩)))
                go_end0
                exact ⟨rfl, _, S4, cut_end HSW.out HCut.out hb hm2.out hm3⟩
              ·
                have hd1 : decide (i < m) = true := decide_eq_true ht1
                have hd2 : decide (m < en) = true := decide_eq_true ht2
                have hdL1 : decide (a < i) = true := decide_eq_true (by omega)
                have hdL2 : decide (i < mid) = true := decide_eq_true (by omega)
                have hdR1 : decide (mid < en) = true := decide_eq_true (by omega)
                have hdR2 : decide (en < b) = false := decide_eq_false (by omega)
                go_wp2_with (first | (go_at_call 90; ((with_reducible refine (HT.out.at_ (i : Int) (m : Int) (en : Int) i m en d _ rfl rfl rfl rfl S1.out ht1 ht2 (by omega)).mono ?_); rintro e w2 ⟨rfl, d1, S2', hturn⟩; have HCut := Lib.hid (cut_of HSW.out HM.out hb hsa hsm he2 he3 he1 C1.out C2.out hturn.1 hturn.2.1 hturn.2.2); have HZ1 := Lib.hid hturn.1; have S2 := Lib.hid S2'; clear S2' hturn)) | (go_at_call 87; ((with_reducible refine (HI.out.at_ (a : Int) (i : Int) (mid : Int) a i mid _ _ rfl rfl rfl (by omega) HZ1.out S2.out (by omega) (by omega) (by omega) HCut.out.mrgL).mono ?_); rintro e w3 ⟨rfl, d2, S3', hm2'⟩; have hm2 := Lib.hid hm2'; have hz2 := Lib.hid (hm2'.1.trans HZ1.out); have S3 := Lib.hid S3'; clear S3' hm2')))
                go_end0
                exact ⟨rfl, _, S3.out, cut_end HSW.out HCut.out hb hm2.out (cut_skipR HSW.out HCut.out (by omega) hm2.out)⟩
            ·
              by_cases hR2 : en < b
              ·
                have hd1 : decide (i < m) = true := decide_eq_true ht1
                have hd2 : decide (m < en) = true := decide_eq_true ht2
                have hdL1 : decide (a < i) = false := decide_eq_false (by omega)
                have hdR1 : decide (mid < en) = true := decide_eq_true (by omega)
                have hdR2 : decide (en < b) = true := decide_eq_true (by omega)
                go_wp2_with (first | (go_at_call 90; ((with_reducible refine (HT.out.at_ (i : Int) (m : Int) (en : Int) i m en d _ rfl rfl rfl rfl S1.out ht1 ht2 (by omega)).mono ?_); rintro e w2 ⟨rfl, d1, S2', hturn⟩; have HCut := Lib.hid (cut_of HSW.out HM.out hb hsa hsm he2 he3 he1 C1.out C2.out hturn.1 hturn.2.1 hturn.2.2); have HZ1 := Lib.hid hturn.1; have S2 := Lib.hid S2'; clear S2' hturn)) | (go_at_call 87; ((with_reducible refine (HI.out.at_ (mid : Int) (en : Int) (b : Int) mid en b _ _ rfl rfl rfl (by omega) HZ1.out S2.out (by omega) (by omega) (by omega) (cut_R HSW.out HCut.out (cut_skipL HSW.out HCut.out (by omega)))).mono ?_); rintro e w4 ⟨rfl, d3, S4, hm3⟩)))
                go_end0
                exact ⟨rfl, _, S4, cut_end HSW.out HCut.out hb (cut_skipL HSW.out HCut.out (by omega)) hm3⟩
              ·
                have hd1 : decide (i < m) = true := decide_eq_true ht1
                have hd2 : decide (m < en) = true := decide_eq_true ht2
                have hdL1 : decide (a < i) = false := decide_eq_false (by omega)
                have hdR1 : decide (mid < en) = true := decide_eq_true (by omega)
                have hdR2 : decide (en < b) = false := decide_eq_false (by omega)
                go_wp2_with (first | (go_at_call 90; ((with_reducible refine (HT.out.at_ (i : Int) (m : Int) (en : Int) i m en d _ rfl rfl rfl rfl S1.out ht1 ht2 (by omega)).mono ?_); rintro e w2 ⟨rfl, d1, S2', hturn⟩; have HCut := Lib.hid (cut_of HSW.out HM.out hb hsa hsm he2 he3 he1 C1.out C2.out hturn.1 hturn.2.1 hturn.2.2); have HZ1 := Lib.hid hturn.1; have S2 := Lib.hid S2'; clear S2' hturn)))
                go_end0
                exact ⟨rfl, _, S2.out, cut_end HSW.out HCut.out hb (cut_skipL HSW.out HCut.out (by omega)) (cut_skipR HSW.out HCut.out (by omega) (cut_skipL HSW.out HCut.out (by omega)))⟩
          ·
            have HCut := Lib.hid (cut_of HSW.out HM.out hb hsa hsm he2 he3 he1 C1.out C2.out rfl (permIn_refl _ _ _) (turned_none (.inr (by omega))))
            have S2 := Lib.hid S1.out
            have HZ1 : Hid (d.size = d.size) := Lib.hid rfl
            have hd1 : decide (i < m) = true := decide_eq_true ht1
            have hd2 : decide (m < en) = false := decide_eq_false ht2
            by_cases hR2 : en < b
            ·
              have hdL1 : decide (a < i) = true := decide_eq_true (by omega)
              have hdL2 : decide (i < mid) = false := decide_eq_false (by omega)
              have hdR1 : decide (mid < en) = true := decide_eq_true (by omega)
              have hdR2 : decide (en < b) = true := decide_eq_true (by omega)
              go_wp2_with (first | (go_at_call 87; ((with_reducible refine (HI.out.at_ (mid : Int) (en : Int) (b : Int) mid en b _ _ rfl rfl rfl (by omega) HZ1.out S2.out (by omega) (by omega) (by omega) (cut_R HSW.out HCut.out (cut_skipL HSW.out HCut.out (by omega)))).mono ?_); rintro e w4 ⟨rfl, d3, S4, hm3⟩)))
              go_end0
              exact ⟨rfl, _, S4, cut_end HSW.out HCut.out hb (cut_skipL HSW.out HCut.out (by omega)) hm3⟩
            ·
              have hdL1 : decide (a < i) = true := decide_eq_true (by omega)
              have hdL2 : decide (i < mid) = false := decide_eq_false (by omega)
              have hdR1 : decide (mid < en) = true := decide_eq_true (by omega)
              have hdR2 : decide (en < b) = false := decide_eq_false (by omega)
              go_wp2
              go_end0
              exact ⟨rfl, _, S2.out, cut_end HSW.out HCut.out hb (cut_skipL HSW.out HCut.out (by omega)) (cut_skipR HSW.out HCut.out (by omega) (cut_skipL HSW.out HCut.out (by omega)))⟩
        ·
          have HCut := Lib.hid (cut_of HSW.out HM.out hb hsa hsm he2 he3 he1 C1.out C2.out rfl (permIn_refl _ _ _) (turned_none (.inl (by omega))))
          have S2 := Lib.hid S1.out
          have HZ1 : Hid (d.size = d.size) := Lib.hid rfl
          have hd1 : decide (i < m) = false := decide_eq_false ht1
          by_cases hL1 : a < i
          · by_cases hL2 : i < mid
            ·
              have hdL1 : decide (a < i) = true := decide_eq_true (by omega)
              have hdL2 : decide (i < mid) = true := decide_eq_true (by omega)
              have hdR1 : decide (mid < en) = false := decide_eq_false (by omega)
              go_wp2_with (first | (go_at_call 87; ((with_reducible refine (HI.out.at_ (a : Int) (i : Int) (mid : Int) a i mid _ _ rfl rfl rfl (by omega) HZ1.out S2.out (by omega) (by omega) (by omega) HCut.out.mrgL).mono ?_); rintro e w3 ⟨rfl, d2, S3', hm2'⟩; have hm2 := Lib.hid hm2'; have hz2 := Lib.hid (hm2'.1.trans HZ1.out); have S3 := Lib.hid S3'; clear S3' hm2')))
              go_end0
              exact ⟨rfl, _, S3.out, cut_end HSW.out HCut.out hb hm2.out (cut_skipR HSW.out HCut.out (by omega) hm2.out)⟩
            ·
              have hdL1 : decide (a < i) = true := decide_eq_true (by omega)
              have hdL2 : decide (i < mid) = false := decide_eq_false (by omega)
              have hdR1 : decide (mid < en) = false := decide_eq_false (by omega)
              go_wp2
              go_end0
              exact ⟨rfl, _, S2.out, cut_end HSW.out HCut.out hb (cut_skipL HSW.out HCut.out (by omega)) (cut_skipR HSW.out HCut.out (by omega) (cut_skipL HSW.out HCut.out (by omega)))⟩
          ·
            have hdL1 : decide (a < i) = false := decide_eq_false (by omega)
            have hdR1 : decide (mid < en) = false := decide_eq_false (by omega)
            go_wp2
            go_end0
            exact ⟨rfl, _, S2.out, cut_end HSW.out HCut.out hb (cut_skipL HSW.out HCut.out (by omega)) (cut_skipR HSW.out HCut.out (by omega) (cut_skipL HSW.out HCut.out (by omega)))⟩
  ·
    have hd0 : decide (mid < m) = false := decide_eq_false (by omega)
    go_enter Try.func87, Try.ntmps87
    go_wp2
    clear hb1 hb2 hd0
    go_loopg [20, 21] (b - a) (fun kx s20 s21 wr => ∃ (i j : Nat), s20 = .int .i64 i ∧ s21 = .int .i64 j ∧ i ≤ j ∧ j ≤ m ∧ a ≤ i ∧ j - i ≤ kx ∧ Hid (SW enc w0 blk off d wr) ∧ Hid (Half (fun x => !ltOf cf d[mid + m - 1 - x]! d[x]!) a m i j))
    case atStart => exact ⟨a, m, rfl, rfl, by omega, Nat.le_refl _, Nat.le_refl _, by omega, S0, Lib.hid (Half.start (by omega))⟩
    case round =>
      clear S0
      obtain ⟨i, j, rfl, rfl, hij, hjb, hmi, hkx, S1, HH⟩ := hrel
      by_cases hlt : i < j
      · obtain ⟨c, hcn⟩ : ∃ c, c = (i + j) / 2 := ⟨_, rfl⟩
        have hci : i ≤ c := by omega
        have hcj : c < j := by omega
        obtain ⟨pp, hpn⟩ : ∃ pp, pp = mid + m - 1 - c := ⟨_, rfl⟩
        have hpp : pp + c + 1 = mid + m := by omega
        have hcq : ((i : Int) + (j : Int)) / 2 = (c : Int) := by omega
        have hpq : IntKind.i64.wrap ((mid : Int) + (m : Int) - 1 - (c : Int)) = (pp : Int) := by rw [IntKind.wrap_i64]; omega
        have hpq2 : (mid : Int) + (m : Int) - 1 - (c : Int) = (pp : Int) := by omega
        have hpw : IntKind.i64.wrap (pp : Int) = (pp : Int) := by rw [IntKind.wrap_i64]; omega
        have bc1 : (c : Int) < (d.size : Int) := by omega
        have bp1 : (pp : Int) < (d.size : Int) := by omega
        have bc2 : c < d.size := by omega
        have bp2 : pp < d.size := by omega
        have HPN := Lib.hid hpn
        clear hcn hpn
        have la := S1.out.cl R HS.out c bc2
        have lb := S1.out.cl R HS.out pp bp2
        obtain ⟨x, hx⟩ : ∃ x, x = d[c]! := ⟨_, rfl⟩
        obtain ⟨y, hy⟩ : ∃ y, y = d[pp]! := ⟨_, rfl⟩
        rw [← hx] at la
        rw [← hy] at lb
        have hc := S1.out.cmp HC.out HS.out y x
        have HX := Lib.hid hx
        have HY := Lib.hid hy
        clear hx hy
        by_cases hv : cf y x < 0
        ·
          have hd : decide (cf y x < 0) = true := decide_eq_true hv
          go_wp2_with fail
          go_quiet_grown (first | (go_at_fn g; refine Calls.grown_of (hc _ _)))
          have S2 : Hid (SW enc w0 blk off d (grow (wr.drewN nq) osq)) := Lib.hid (S1.out.grown nq osq)
          clear la lb hc S1
          generalize grow (wr.drewN nq) osq = w2 at S2 ⊢
          clear nq osq
          go_wp2
          clear hcq hpq hpq2 hpw
          go_roundg (c - i)
          case measure => omega
          case rel =>
            refine ⟨i, c, rfl, rfl, by omega, by omega, hmi, Nat.le_refl _, S2, Lib.hid ?_⟩
            refine HH.out.down (falls3 HSW.out HM.out (by omega) (by omega) (by omega) (by omega)) (by omega) (by omega) ?_
            show (!ltOf cf d[mid + m - 1 - c]! d[c]!) = false
            rw [← HPN.out, ← HX.out, ← HY.out, Bool.not_eq_false']; exact decide_eq_true hv
        ·
          have hd : decide (cf y x < 0) = false := decide_eq_false hv
          go_wp2_with fail
          go_quiet_grown (first | (go_at_fn g; refine Calls.grown_of (hc _ _)))
          have S2 : Hid (SW enc w0 blk off d (grow (wr.drewN nq) osq)) := Lib.hid (S1.out.grown nq osq)
          clear la lb hc S1
          generalize grow (wr.drewN nq) osq = w2 at S2 ⊢
          clear nq osq
          go_wp2
          clear hcq hpq hpq2 hpw
          go_roundg (j - (c + 1))
          case measure => omega
          case rel =>
            refine ⟨c + 1, j, by go_num, rfl, by omega, hjb, by omega, Nat.le_refl _, S2, Lib.hid ?_⟩
            refine HH.out.up (falls3 HSW.out HM.out (by omega) (by omega) (by omega) (by omega)) (by omega) (by omega) ?_
            show (!ltOf cf d[mid + m - 1 - c]! d[c]!) = true
            rw [← HPN.out, ← HX.out, ← HY.out, Bool.not_eq_true']; exact decide_eq_false (by omega)
      · obtain rfl : i = j := by omega
        clear hlt hij
        obtain ⟨en, hen⟩ : ∃ en, en = mid + m - i := ⟨_, rfl⟩
        have he1 : i + en = mid + m := by omega
        have he2 : m ≤ en := by omega
        have he3 : en ≤ b := by omega
        have hsa : a ≤ i := by omega
        have hsm : i ≤ m := by omega
        have hez : (mid : Int) + (m : Int) - (i : Int) = (en : Int) := by omega
        have C1 : Hid (i = a ∨ en = b ∨ (a < i ∧ en < b ∧ lt d[en]! d[i - 1]! = false)) := Lib.hid (by
          rcases Nat.lt_or_ge a i with h | h
          · have hq := HH.out.yes (i - 1) (by omega) (by omega)
            have hq : (!ltOf cf d[mid + m - 1 - (i - 1)]! d[i - 1]!) = true := hq
            rw [Bool.not_eq_true', show mid + m - 1 - (i - 1) = en by omega, HM.out.agree (i - 1) en (by omega) (by omega) (by omega) (by omega)] at hq
            exact .inr (.inr ⟨h, by omega, hq⟩)
          · exact .inl (by omega))
        have C2 : Hid (i = m ∨ en = m ∨ (i < m ∧ m < en ∧ lt d[en - 1]! d[i]! = true)) := Lib.hid (by
          rcases Nat.lt_or_ge i m with h | h
          · have hq := HH.out.no i (Nat.le_refl _) (by omega)
            have hq : (!ltOf cf d[mid + m - 1 - i]! d[i]!) = false := hq
            rw [Bool.not_eq_false', show mid + m - 1 - i = en - 1 by omega, HM.out.agree i (en - 1) (by omega) (by omega) (by omega) (by omega)] at hq
            exact .inr (.inr ⟨h, by omega, hq⟩)
          · exact .inl (by omega))
        clear hen hkx HH hmi hjb
        by_cases ht1 : i < m
        · by_cases ht2 : m < en
          ·
            by_cases hL1 : a < i
            ·
              by_cases hR2 : en < b
              ·
                have hd1 : decide (i < m) = true := decide_eq_true ht1
                have hd2 : decide (m < en) = true := decide_eq_true ht2
                have hdL1 : decide (a < i) = true := decide_eq_true (by omega)
                have hdL2 : decide (i < mid) = true := decide_eq_true (by omega)
                have hdR1 : decide (mid < en) = true := decide_eq_true (by omega)
                have hdR2 : decide (en < b) = true := decide_eq_true (by omega)
                go_wp2_with (first | (go_at_call 90; ((with_reducible refine (HT.out.at_ (i : Int) (m : Int) (en : Int) i m en d _ rfl rfl rfl rfl S1.out ht1 ht2 (by omega)).mono ?_); rintro e w2 ⟨rfl, d1, S2', hturn⟩; have HCut := Lib.hid (cut_of HSW.out HM.out hb hsa hsm he2 he3 he1 C1.out C2.out hturn.1 hturn.2.1 hturn.2.2); have HZ1 := Lib.hid hturn.1; have S2 := Lib.hid S2'; clear S2' hturn)) | (go_at_call 87; ((with_reducible refine (HI.out.at_ (a : Int) (i : Int) (mid : Int) a i mid _ _ rfl rfl rfl (by omega) HZ1.out S2.out (by omega) (by omega) (by omega) HCut.out.mrgL).mono ?_); rintro e w3 ⟨rfl, d2, S3', hm2'⟩; have hm2 := Lib.hid hm2'; have hz2 := Lib.hid (hm2'.1.trans HZ1.out); have S3 := Lib.hid S3'; clear S3' hm2')) | (go_at_call 87; ((with_reducible refine (HI.out.at_ (mid : Int) (en : Int) (b : Int) mid en b _ _ rfl rfl rfl (by omega) hz2.out S3.out (by omega) (by omega) (by omega) (cut_R HSW.out HCut.out hm2.out)).mono ?_); rintro e w4 ⟨rfl, d3, S4, hm3⟩)))
                go_end0
                exact ⟨rfl, _, S4, cut_end HSW.out HCut.out hb hm2.out hm3⟩
              ·
                have hd1 : decide (i < m) = true := decide_eq_true ht1
                have hd2 : decide (m < en) = true := decide_eq_true ht2
                have hdL1 : decide (a < i) = true := decide_eq_true (by omega)
                have hdL2 : decide (i < mid) = true := decide_eq_true (by omega)
                have hdR1 : decide (mid < en) = true := decide_eq_true (by omega)
                have hdR2 : decide (en < b) = false := decide_eq_false (by omega)
                go_wp2_with (first | (go_at_call 90; ((with_reducible refine (HT.out.at_ (i : Int) (m : Int) (en : Int) i m en d _ rfl rfl rfl rfl S1.out ht1 ht2 (by omega)).mono ?_); rintro e w2 ⟨rfl, d1, S2', hturn⟩; have HCut := Lib.hid (cut_of HSW.out HM.out hb hsa hsm he2 he3 he1 C1.out C2.out hturn.1 hturn.2.1 hturn.2.2); have HZ1 := Lib.hid hturn.1; have S2 := Lib.hid S2'; clear S2' hturn)) | (go_at_call 87; ((with_reducible refine (HI.out.at_ (a : Int) (i : Int) (mid : Int) a i mid _ _ rfl rfl rfl (by omega) HZ1.out S2.out (by omega) (by omega) (by omega) HCut.out.mrgL).mono ?_); rintro e w3 ⟨rfl, d2, S3', hm2'⟩; have hm2 := Lib.hid hm2'; have hz2 := Lib.hid (hm2'.1.trans HZ1.out); have S3 := Lib.hid S3'; clear S3' hm2')))
                go_end0
                exact ⟨rfl, _, S3.out, cut_end HSW.out HCut.out hb hm2.out (cut_skipR HSW.out HCut.out (by omega) hm2.out)⟩
            ·
              by_cases hR2 : en < b
              ·
                have hd1 : decide (i < m) = true := decide_eq_true ht1
                have hd2 : decide (m < en) = true := decide_eq_true ht2
                have hdL1 : decide (a < i) = false := decide_eq_false (by omega)
                have hdR1 : decide (mid < en) = true := decide_eq_true (by omega)
                have hdR2 : decide (en < b) = true := decide_eq_true (by omega)
                go_wp2_with (first | (go_at_call 90; ((with_reducible refine (HT.out.at_ (i : Int) (m : Int) (en : Int) i m en d _ rfl rfl rfl rfl S1.out ht1 ht2 (by omega)).mono ?_); rintro e w2 ⟨rfl, d1, S2', hturn⟩; have HCut := Lib.hid (cut_of HSW.out HM.out hb hsa hsm he2 he3 he1 C1.out C2.out hturn.1 hturn.2.1 hturn.2.2); have HZ1 := Lib.hid hturn.1; have S2 := Lib.hid S2'; clear S2' hturn)) | (go_at_call 87; ((with_reducible refine (HI.out.at_ (mid : Int) (en : Int) (b : Int) mid en b _ _ rfl rfl rfl (by omega) HZ1.out S2.out (by omega) (by omega) (by omega) (cut_R HSW.out HCut.out (cut_skipL HSW.out HCut.out (by omega)))).mono ?_); rintro e w4 ⟨rfl, d3, S4, hm3⟩)))
                go_end0
                exact ⟨rfl, _, S4, cut_end HSW.out HCut.out hb (cut_skipL HSW.out HCut.out (by omega)) hm3⟩
              ·
                have hd1 : decide (i < m) = true := decide_eq_true ht1
                have hd2 : decide (m < en) = true := decide_eq_true ht2
                have hdL1 : decide (a < i) = false := decide_eq_false (by omega)
                have hdR1 : decide (mid < en) = true := decide_eq_true (by omega)
                have hdR2 : decide (en < b) = false := decide_eq_false (by omega)
                go_wp2_with (first | (go_at_call 90; ((with_reducible refine (HT.out.at_ (i : Int) (m : Int) (en : Int) i m en d _ rfl rfl rfl rfl S1.out ht1 ht2 (by omega)).mono ?_); rintro e w2 ⟨rfl, d1, S2', hturn⟩; have HCut := Lib.hid (cut_of HSW.out HM.out hb hsa hsm he2 he3 he1 C1.out C2.out hturn.1 hturn.2.1 hturn.2.2); have HZ1 := Lib.hid hturn.1; have S2 := Lib.hid S2'; clear S2' hturn)))
                go_end0
                exact ⟨rfl, _, S2.out, cut_end HSW.out HCut.out hb (cut_skipL HSW.out HCut.out (by omega)) (cut_skipR HSW.out HCut.out (by omega) (cut_skipL HSW.out HCut.out (by omega)))⟩
          ·
            have HCut := Lib.hid (cut_of HSW.out HM.out hb hsa hsm he2 he3 he1 C1.out C2.out rfl (permIn_refl _ _ _) (turned_none (.inr (by omega))))
            have S2 := Lib.hid S1.out
            have HZ1 : Hid (d.size = d.size) := Lib.hid rfl
            have hd1 : decide (i < m) = true := decide_eq_true ht1
            have hd2 : decide (m < en) = false := decide_eq_false ht2
            by_cases hR2 : en < b
            ·
              have hdL1 : decide (a < i) = true := decide_eq_true (by omega)
              have hdL2 : decide (i < mid) = false := decide_eq_false (by omega)
              have hdR1 : decide (mid < en) = true := decide_eq_true (by omega)
              have hdR2 : decide (en < b) = true := decide_eq_true (by omega)
              go_wp2_with (first | (go_at_call 87; ((with_reducible refine (HI.out.at_ (mid : Int) (en : Int) (b : Int) mid en b _ _ rfl rfl rfl (by omega) HZ1.out S2.out (by omega) (by omega) (by omega) (cut_R HSW.out HCut.out (cut_skipL HSW.out HCut.out (by omega)))).mono ?_); rintro e w4 ⟨rfl, d3, S4, hm3⟩)))
              go_end0
              exact ⟨rfl, _, S4, cut_end HSW.out HCut.out hb (cut_skipL HSW.out HCut.out (by omega)) hm3⟩
            ·
              have hdL1 : decide (a < i) = true := decide_eq_true (by omega)
              have hdL2 : decide (i < mid) = false := decide_eq_false (by omega)
              have hdR1 : decide (mid < en) = true := decide_eq_true (by omega)
              have hdR2 : decide (en < b) = false := decide_eq_false (by omega)
              go_wp2
              go_end0
              exact ⟨rfl, _, S2.out, cut_end HSW.out HCut.out hb (cut_skipL HSW.out HCut.out (by omega)) (cut_skipR HSW.out HCut.out (by omega) (cut_skipL HSW.out HCut.out (by omega)))⟩
        ·
          have HCut := Lib.hid (cut_of HSW.out HM.out hb hsa hsm he2 he3 he1 C1.out C2.out rfl (permIn_refl _ _ _) (turned_none (.inl (by omega))))
          have S2 := Lib.hid S1.out
          have HZ1 : Hid (d.size = d.size) := Lib.hid rfl
          have hd1 : decide (i < m) = false := decide_eq_false ht1
          by_cases hL1 : a < i
          · by_cases hL2 : i < mid
            ·
              have hdL1 : decide (a < i) = true := decide_eq_true (by omega)
              have hdL2 : decide (i < mid) = true := decide_eq_true (by omega)
              have hdR1 : decide (mid < en) = false := decide_eq_false (by omega)
              go_wp2_with (first | (go_at_call 87; ((with_reducible refine (HI.out.at_ (a : Int) (i : Int) (mid : Int) a i mid _ _ rfl rfl rfl (by omega) HZ1.out S2.out (by omega) (by omega) (by omega) HCut.out.mrgL).mono ?_); rintro e w3 ⟨rfl, d2, S3', hm2'⟩; have hm2 := Lib.hid hm2'; have hz2 := Lib.hid (hm2'.1.trans HZ1.out); have S3 := Lib.hid S3'; clear S3' hm2')))
              go_end0
              exact ⟨rfl, _, S3.out, cut_end HSW.out HCut.out hb hm2.out (cut_skipR HSW.out HCut.out (by omega) hm2.out)⟩
            ·
              have hdL1 : decide (a < i) = true := decide_eq_true (by omega)
              have hdL2 : decide (i < mid) = false := decide_eq_false (by omega)
              have hdR1 : decide (mid < en) = false := decide_eq_false (by omega)
              go_wp2
              go_end0
              exact ⟨rfl, _, S2.out, cut_end HSW.out HCut.out hb (cut_skipL HSW.out HCut.out (by omega)) (cut_skipR HSW.out HCut.out (by omega) (cut_skipL HSW.out HCut.out (by omega)))⟩
          ·
            have hdL1 : decide (a < i) = false := decide_eq_false (by omega)
            have hdR1 : decide (mid < en) = false := decide_eq_false (by omega)
            go_wp2
            go_end0
            exact ⟨rfl, _, S2.out, cut_end HSW.out HCut.out hb (cut_skipL HSW.out HCut.out (by omega)) (cut_skipR HSW.out HCut.out (by omega) (cut_skipL HSW.out HCut.out (by omega)))⟩
end I1
end Go.Proofs.Ytddnfikjfmfhfaa
end
section
/- Merging in place (slices.symMergeCmpFunc), whatever rows. -/
namespace Go.Proofs.Ytddnfikjfmfhfaa
namespace I1
open Go.ChangeShapes Go.WideShapes Go.ChangeAt Go.RowKit Go.Shelf Go.Lib Go.Sort Go.Proofs
set_option linter.unusedVariables false
variable {α : Type} [Inhabited α]

theorem merges (enc : α → Value) (cf : α → α → Int) (lt : α → α → Bool) (hS : SWO lt) (g : Nat) (cb : Array Value) (blk off cap : Nat) (d0 : Array α) (w0 : World)
    (eg : ∀ args w, (callFunc g args).run Try.prog w = .ok (.enter g args) w) (hcmp : CmpLays1 Try.prog g cb enc cf blk off d0.size w0) (R : Row1 enc w0 blk off d0) (hsz : d0.size < 1152921504606846976) :
    ∀ N, MergesBelow lt enc cf g cb blk off cap d0.size N w0
  | 0 => fun xa xm xb a m b d w _ _ _ h => by omega
  | N + 1 => fun xa xm xb a m b d w ea em eb hN hs S ham hmb hb hM => by
    subst ea em eb
    by_cases h1 : m = a + 1
    · have := symMerge_one enc cf lt hS g cb blk off cap a m b d0 d w0 w eg hcmp R hs S h1 hmb (by omega) (by omega) hM
      rwa [hs] at this
    · by_cases h2 : b = m + 1
      · have := symMerge_last enc cf lt hS g cb blk off cap a m b d0 d w0 w eg hcmp R hs S h2 (by omega) (by omega) (by omega) hM
        rwa [hs] at this
      · have IH := merges enc cf lt hS g cb blk off cap d0 w0 eg hcmp R hsz N
        have hI : MergesBelow lt enc cf g cb blk off cap d.size (b - a) w0 := by
          rw [hs]
          intro xa xm xb a' m' b' d' w' e1 e2 e3 hlt h4 h5 h6 h7 h8 h9
          exact IH xa xm xb a' m' b' d' w' e1 e2 e3 (by omega) h4 h5 h6 h7 h8 h9
        have hT : Turns enc g cb blk off cap d.size w0 := by
          intro xa xm xb a' m' b' d' w' e1 e2 e3 h4 h5 h6 h7 h8
          subst e1 e2 e3
          have := rotate_any enc g cb blk off cap a' m' b' d0 d' w0 w' R (h4.trans hs) h5 h6 h7 (by omega) (by omega)
          rwa [h4] at this
        have := symMerge_step enc cf lt hS g cb blk off cap a m b ((a + b) / 2) d0 d w0 w eg hcmp R hs S rfl (by omega) (by omega) (by omega) (by omega) hM hI hT
        rwa [hs] at this
end I1
end Go.Proofs.Ytddnfikjfmfhfaa
end
section
/-
  DERIVED: THE SHELF's CONTRACTS AT THIS DUMP, IN PLAIN WORDS (tools/lay-plain.mjs out of 'YtddnfikjfmfhfaaISLays.lean', which tools/lay-shelf.mjs wrote): THE SAME DECLARATIONS UNDER THE SAME NAMES: 'import', 'namespace', 'open', 'def', 'theorem' AND NOTHING ELSE: no command of the shelf's: FOR A HAND-IN. Each laying: the table of numbers ('.._ren') and one theorem, a field a fact of the dump's own or the kernel's comparison; each contract: ONE APPLICATION.
-/
namespace Go.Proofs
open Go.Shelf
def Try.insl1_ren : Go.Shelf.Ren := ⟨fun | 20 => 86 | n => n, fun | 24 => 3 | 22 => 74 | 3 => 3 | 25 => 38 | 4 => 4 | 0 => 0 | n => n, fun | n => n⟩
theorem Try.insl1 : Go.Proofs.SlLaysF.n20 Try.prog Try.insl1_ren := {
  mixed := by kernel_rfl
  f20 := ⟨Try.f86.name, by decide, Try.func86.trans (congrArg some (by kernel_rfl))⟩
  t0 := Try.underlying0
  a0 := Try.isAgg0
  z0 := Try.sizeOf0
  v0 := Try.zeroValue0
  t3 := Try.underlying3
  a3 := Try.isAgg3
  z3 := Try.sizeOf3
  v3 := Try.zeroValue3
  t4 := Try.underlying4
  a4 := Try.isAgg4
  z4 := Try.sizeOf4
  v4 := Try.zeroValue4
  t22 := Try.underlying74
  a22 := Try.isAgg74
  z22 := Try.sizeOf74
  v22 := Try.zeroValue74
  a24 := Try.isAgg3
  z24 := Try.sizeOf3
  t25 := Try.underlying38
  a25 := Try.isAgg38
  z25 := Try.sizeOf38
  v25 := Try.zeroValue38 }
end Go.Proofs
end
section
/- The stable sort (slices.stableCmpFunc): runs of twenty by insertion, then merged in place. -/
namespace Go.Proofs.Ytddnfikjfmfhfaa
namespace I1
open Go.ChangeShapes Go.WideShapes Go.ChangeAt Go.RowKit Go.Shelf Go.Lib Go.Sort Go.Proofs
set_option linter.unusedVariables false
variable {α : Type} [Inhabited α]

/-- One run put in order by insertion. -/
theorem insert_run (enc : α → Value) (cf : α → α → Int) (lt : α → α → Bool) (hS : SWO lt) (g : Nat) (cb : Array Value) (blk off cap : Nat) (d0 : Array α) (w0 : World)
    (eg : ∀ args w, (callFunc g args).run Try.prog w = .ok (.enter g args) w) (hcmp : CmpLays1 Try.prog g cb enc cf blk off d0.size w0) (R : Row1 enc w0 blk off d0) (hsz : d0.size < 1152921504606846976)
    (xa xb : Int) (a b : Nat) (d : Array α) (w : World) (ea : xa = a) (eb : xb = b) (hs : d.size = d0.size) (S : SW enc w0 blk off d w) (hab : a ≤ b) (hb : b ≤ d0.size) (ha : ∀ i j, a ≤ i → i < j → j < b → ltOf cf d[j]! d[i]! = lt d[j]! d[i]!) :
    Calls Try.prog 86 #[.slice (some ⟨blk, off, none⟩) d0.size cap, .int .i64 xa, .int .i64 xb, .func (.func g) #[] cb] w (MergeTo lt enc w0 blk off a b d) := by
  subst ea eb
  have hblk := R.hblk
  have h := Any.insertionSortCmpFunc_s Try.insl1 enc cf g cb blk off cap a b d0 d w0 w eg hcmp R hs.symm S hab (by omega) (by omega)
  rw [hs] at h
  refine (show Calls Try.prog 86 _ _ _ from h).mono ?_
  rintro e w' ⟨rfl, hS'⟩
  have hm := insertion_merged hS hab (by omega) ha
  exact ⟨rfl, _, hS', hm⟩

set_option maxHeartbeats 8000000 in
set_option maxRecDepth 1000000 in
theorem stable_any (enc : α → Value) (cf : α → α → Int) (lt : α → α → Bool) (hS : SWO lt) (g : Nat) (cb : Array Value) (blk off cap : Nat) (d0 : Array α) (w0 : World)
    (eg : ∀ args w, (callFunc g args).run Try.prog w = .ok (.enter g args) w) (hcmp : CmpLays1 Try.prog g cb enc cf blk off d0.size w0) (R : Row1 enc w0 blk off d0) (hsz : d0.size < 1152921504606846976)
    (ha : ∀ i j, i < j → j < d0.size → ltOf cf d0[j]! d0[i]! = lt d0[j]! d0[i]!) :
    Calls Try.prog 76 #[.slice (some ⟨blk, off, none⟩) d0.size cap, .int .i64 d0.size, .func (.func g) #[] cb] w0 (MergeTo lt enc w0 blk off 0 d0.size d0) := by
  have S0 : Hid (SW enc w0 blk off d0 w0) := Lib.hid (SW.start R.hH)
  have ins := insert_run enc cf lt hS g cb blk off cap d0 w0 eg hcmp R hsz
  have mrg := fun N => (merges enc cf lt hS g cb blk off cap d0 w0 eg hcmp R hsz N).at_
  have HA := Lib.hid ha
  have HSW := Lib.hid hS
  clear hcmp ha hS
  obtain ⟨n, hn⟩ : ∃ n, n = d0.size := ⟨_, rfl⟩
  rw [← hn] at hsz ins mrg ⊢
  have HN := Lib.hid hn
  have INS := Lib.hid ins
  have MRG := Lib.hid mrg
  clear hn ins mrg
  go_enter Try.func76, Try.ntmps76
  go_wp2
  go_loopg [7, 8] n (fun kx s7 s8 wr => ∃ (q : Nat) (dk : Array α), s7 = .int .i64 (20 * q : Nat) ∧ s8 = .int .i64 (20 * q + 20 : Nat) ∧ 20 * q ≤ n ∧ n - 20 * q ≤ kx ∧ Hid (SW enc w0 blk off dk wr) ∧ Hid (Runs lt (ltOf cf) 1 20 (20 * q) n d0 dk))
  case atStart => exact ⟨0, d0, rfl, rfl, by omega, by omega, S0, Lib.hid (by have := (done_start (lt := lt) (t := ltOf cf) (n := n) (d := d0) (fun i j h1 h2 => HA.out i j h1 (by rw [← HN.out]; exact h2))).runs 20; exact this)⟩
  case round =>
    clear S0
    obtain ⟨q, dk, rfl, rfl, hqn, hkx, S1, HR⟩ := hrel
    obtain ⟨a, hqa⟩ : ∃ a, a = 20 * q := ⟨_, rfl⟩
    rw [← hqa] at hqn hkx HR ⊢
    have hds : Hid (dk.size = n) := Lib.hid (HR.out.size.trans HN.out.symm)
    have hag : Hid (∀ i j, a ≤ i → i < j → j < n → ltOf cf dk[j]! dk[i]! = lt dk[j]! dk[i]!) := Lib.hid (fun i j h1 h2 h3 => HR.out.agr2 i j h2 h3 h1 (by simp; omega))
    by_cases hlt : a + 20 ≤ n
    · have HQ := Lib.hid hqa
      clear hqa
      have hin : Hid (20 * (q + 1) = a + 20) := Lib.hid (by have := HQ.out; omega)
      go_wp2_with (go_at_call 86; ((with_reducible refine (INS.out (a : Int) ((a : Int) + 20) a (a + 20) dk _ rfl (by omega) hds.out S1.out (by omega) (by omega) (fun i j h1 h2 h3 => hag.out i j h1 h2 (by omega))).mono ?_); rintro e w2 ⟨rfl, d2, S2', hm'⟩; have S2 := Lib.hid S2'; have hm := Lib.hid hm'; clear S2' hm'))
      have HR2 : Hid (Runs lt (ltOf cf) 1 20 (20 * (q + 1)) n d0 d2) := Lib.hid (by
        rw [hin.out]
        exact HR.out.step (q := q) (by omega) ⟨20, rfl⟩ HQ.out (.inl rfl) (by omega) (by omega) (by have := hds.out; omega) hm.out)
      go_roundg (n - (a + 20))
      case measure => omega
      case rel => exact ⟨q + 1, d2, by rw [hin.out]; go_num, by rw [hin.out]; go_num, by rw [hin.out]; omega, by rw [hin.out]; omega, S2, HR2⟩
    · have HQ := Lib.hid hqa
      clear hqa
      go_wp2_with (first
        | (go_at_call 86; ((with_reducible refine (INS.out (a : Int) (n : Int) a n dk _ rfl rfl hds.out S1.out (by omega) (by omega) (fun i j h1 h2 h3 => hag.out i j h1 h2 h3)).mono ?_); rintro e w2 ⟨rfl, d2, S2', hm'⟩; have S2 := Lib.hid S2'; have hm := Lib.hid hm'; clear S2' hm')))
      have HD : Hid (Done lt (ltOf cf) 20 n d0 d2) := Lib.hid (by
        have h := HR.out.step (q := q) (b := n) (by omega) ⟨20, rfl⟩ HQ.out (.inr ⟨rfl, by omega⟩) (by omega) (by omega) (by have := hds.out; omega) hm.out
        exact h.fin (q := q + 1) (by omega) (by omega) (by have := HQ.out; omega) (by omega) (.inr (by omega)))
      clear HR hag hm S1 HQ hds hlt hkx hqn
      go_loopg [6] n (fun kx s6 wr => ∃ (c : Nat) (dk : Array α), s6 = .int .i64 c ∧ 1 ≤ c ∧ c ≤ 2 * n + 20 ∧ n - c ≤ kx ∧ Hid (SW enc w0 blk off dk wr) ∧ Hid (Done lt (ltOf cf) c n d0 dk))
      case atStart => exact ⟨20, d2, rfl, by omega, by omega, by omega, S2, HD⟩
      case round =>
        clear S2 HD
        obtain ⟨c, dk, rfl, hc1, hc2, hkx, S1, HD⟩ := hrel
        by_cases hcn : c < n
        · go_wp2
          go_loopg [7, 8] n (fun ky s7 s8 wr => ∃ (q a : Nat) (dj : Array α), s7 = .int .i64 a ∧ s8 = .int .i64 ((a + 2 * c : Nat) : Int) ∧ Hid (a = c * 2 * q) ∧ a ≤ n ∧ n - a ≤ ky ∧ Hid (SW enc w0 blk off dj wr) ∧ Hid (Runs lt (ltOf cf) c (c * 2) a n d0 dj))
          case atStart => exact ⟨0, 0, dk, rfl, by rw [show ((0 + 2 * c : Nat) : Int) = 2 * (c : Int) by omega], Lib.hid (by rw [Nat.mul_zero]), by omega, by omega, S1, Lib.hid (HD.out.runs 2)⟩
          case round =>
            clear S1 HD
            obtain ⟨q, a, dj, rfl, rfl, HQ, han, hky, S1, HR⟩ := hrel
            have hds : Hid (dj.size = n) := Lib.hid (HR.out.size.trans HN.out.symm)
            by_cases hlt : a + 2 * c ≤ n
            · have hM : Hid (Mrg lt (ltOf cf) a (a + c) (a + 2 * c) dj) := Lib.hid (HR.out.mrg (q := q) (by omega) HQ.out (by omega) (by omega) hlt)
              have HQ2 : Hid (a + 2 * c = c * 2 * (q + 1)) := Lib.hid (by have := HQ.out; rw [Nat.mul_add, Nat.mul_one, ← this, Nat.mul_comm c 2])
              have hz : Hid (a + 2 * c ≤ n) := Lib.hid hlt
              go_wp2_with (go_at_call 87; ((with_reducible refine (MRG.out (n + 1) (a : Int) ((a : Int) + (c : Int)) ((a : Int) + 2 * (c : Int)) a (a + c) (a + 2 * c) dj _ rfl (by omega) (by omega) (by omega) hds.out S1.out (by omega) (by omega) hlt hM.out).mono ?_); rintro e w2 ⟨rfl, d2, S2', hm'⟩; have S2 := Lib.hid S2'; have hm := Lib.hid hm'; clear S2' hm'))
              have HR2 : Hid (Runs lt (ltOf cf) c (c * 2) (a + 2 * c) n d0 d2) := Lib.hid (by
                rw [Nat.mul_comm 2 c]
                exact HR.out.step (q := q) (b := a + 2 * c) (by omega) ⟨2, rfl⟩ HQ.out (.inl (by rw [Nat.mul_comm 2 c])) (by omega) hz.out (by have := hds.out; omega) hm.out)
              have hz2 := hz.out
              go_roundg (n - (a + 2 * c))
              case measure => omega
              case rel => exact ⟨q + 1, a + 2 * c, d2, by rw [show ((a + 2 * c : Nat) : Int) = (a : Int) + 2 * (c : Int) by omega], by rw [show ((a + 2 * c + 2 * c : Nat) : Int) = (a : Int) + 2 * (c : Int) + 2 * (c : Int) by omega], HQ2, hz2, by omega, S2, HR2⟩
            · by_cases hac : a + c < n
              · have hM : Hid (Mrg lt (ltOf cf) a (a + c) n dj) := Lib.hid (HR.out.mrg (q := q) (by omega) HQ.out (by omega) (by omega) (Nat.le_refl _))
                have HQ2 : Hid (a + c * 2 = c * 2 * (q + 1)) := Lib.hid (by have := HQ.out; rw [Nat.mul_add, Nat.mul_one, ← this])
                go_wp2_with (go_at_call 87; ((with_reducible refine (MRG.out (n + 1) (a : Int) ((a : Int) + (c : Int)) (n : Int) a (a + c) n dj _ rfl (by omega) rfl (by omega) hds.out S1.out (by omega) hac (Nat.le_refl _) hM.out).mono ?_); rintro e w2 ⟨rfl, d2, S2', hm'⟩; have S2 := Lib.hid S2'; have hm := Lib.hid hm'; clear S2' hm'))
                have HD2 : Hid (Done lt (ltOf cf) (c * 2) n d0 d2) := Lib.hid (by
                  have h := HR.out.step (q := q) (b := n) (by omega) ⟨2, rfl⟩ HQ.out (.inr ⟨rfl, by omega⟩) (by omega) (Nat.le_refl _) (by have := hds.out; omega) hm.out
                  exact h.fin (q := q + 1) (by omega) (by omega) HQ2.out (by omega) (.inr (by omega)))
                go_roundg (n - c * 2)
                case measure => omega
                case rel => exact ⟨c * 2, d2, by go_num, by omega, by omega, Nat.le_refl _, S2, HD2⟩
              · have HD2 : Hid (Done lt (ltOf cf) (c * 2) n d0 dj) := Lib.hid (HR.out.fin (q := q) (by omega) (by omega) HQ.out (by omega) (.inl rfl))
                go_wp2
                go_roundg (n - c * 2)
                case measure => omega
                case rel => exact ⟨c * 2, dj, by go_num, by omega, by omega, Nat.le_refl _, S1, HD2⟩
        · go_wp2
          go_end0
          exact ⟨rfl, dk, S1.out, HD.out.size, HD.out.perm, HD.out.whole (by omega)⟩
end I1
end Go.Proofs.Ytddnfikjfmfhfaa
end
section
/- flow.needs, flow.byDay: what is wanted, place by place; the wants' places by their days. -/
namespace Go.Proofs.Ytddnfikjfmfhfaa
open Go.ChangeShapes Go.WideShapes Go.ChangeAt Go.RowKit Go.Maps Go.Shelf Go.Lib Go.Sort Go.Proofs
set_option linter.unusedVariables false

def ncells (l : List Int) : List Value := l.map (Value.int .i64)
theorem infoI64 : (Try.prog.info? 2).map (fun i => (i.zero, i.size, i.bytes)) = some (some (.int .i64 0), 1, 8) := by kernel_rfl
theorem infoI : (Try.prog.info? 3).map (fun i => (i.zero, i.size, i.bytes)) = some (some (.int .i64 0), 1, 8) := by kernel_rfl
/-- A row of which the first k are done. -/
theorem take_set {α : Type} {Y ys : List α} {k : Nat} {x : α} (h : Y.take k = ys) (hk : k < Y.length) : (Y.set k x).take (k + 1) = ys ++ [x] := by
  rw [List.take_add_one, List.take_set_of_le (Nat.le_refl _), h, List.getElem?_set_self hk]
  rfl

def NeedsTo (ws : List Wt) (w : World) (e : Ending) (w' : World) : Prop := e = .returned (.slice (some ⟨w.heap.size, 0, none⟩) ws.length ws.length) ∧ w'.ownsRow w.heap.size 2 1 (.slice (some ⟨w.heap.size, 0, none⟩) ws.length ws.length) ws.length (ncells (ws.map Wt.qty)) ∧ Go.RowKit.Below w.heap.size w w'
set_option maxHeartbeats 1000000 in
theorem needs_any (v : Value) (ws : List Wt) (w : World) (hlen : ws.length ≤ 1099511627776) (hv : WSl w w.heap.size v ws) :
    Calls Try.prog 40 #[v] w (NeedsTo ws w) := by
  obtain ⟨A, c, rfl, hc1, hc2, hcz, hl⟩ := id hv
  obtain ⟨i0, hi, hz0, hz1, hz2⟩ := info_parts infoI64
  have H1 := Lib.hid hi
  have H2 := Lib.hid hz0
  have H3 := Lib.hid hz1
  have H4 := Lib.hid hz2
  have HL := Lib.hid hl
  clear hl hv hi hz0 hz1 hz2
  go_enter Try.func40, Try.ntmps40
  go_wp2_with (at_make; refine wpList_make_full _ rfl _ _ 59 rfl w.heap.size 2 i0 (.int .i64 0) 1 Try.underlying59 H1.out H2.out H3.out .i64 .i64 _ _ ws.length rfl rfl rfl rfl (by rw [H4.out]; omega) (by unfold maxLen; omega) (Nat.le_refl _) ?_; intro w1 hgm' hg1'; have hgm := Lib.hid hgm'; have hg1 := Lib.hid hg1'; clear hgm' hg1')
  generalize hY : (madeCells (Value.int .i64 0).cells (ws.length * 1)).toList = Y0 at hgm
  clear hY
  have hb1 : Hid (Go.RowKit.Below w.heap.size w w1) := Lib.hid ((Go.RowKit.Below.refl _ _).grown hg1.out (Nat.le_refl _) (fun j hj => by cases hj))
  obtain ⟨g, hgE, hgle⟩ : ∃ g, w.heap.size = g ∧ w.heap.size ≤ g := ⟨_, rfl, Nat.le_refl _⟩
  have HG := Lib.hid hgE
  rw [hgE] at hgm ⊢
  clear hgE hg1
  go_loopw [11] (fun i wr => ∃ (k : Nat) (Y : List Value), k ≤ ws.length ∧ i = .int .i64 k ∧ Hid (Y.take k = ncells ((ws.take k).map Wt.qty)) ∧ Hid (wr.ownsRow g 2 1 (.slice (some ⟨g, 0, none⟩) ws.length ws.length) ws.length Y) ∧ Hid (Go.RowKit.Below w.heap.size w wr)) (fun i _ => ws.length - (intOf i).toNat)
  case atStart => exact ⟨0, Y0, Nat.zero_le _, rfl, Lib.hid (by simp [ncells]), hgm, hb1⟩
  case round =>
    clear hgm hb1
    obtain ⟨k, Y, hk, rfl, HY, HR, HB⟩ := hrel
    by_cases hlt : k < ws.length
    · obtain ⟨x, hx⟩ : ∃ x, ws[k]? = some x := ⟨_, List.getElem?_eq_getElem hlt⟩
      obtain ⟨ad, rfl, hab, hx0, hx1, hx2⟩ := (HL.out.below HB.out).rowW hx
      have hYl := HR.out.1
      obtain ⟨y, hy⟩ : ∃ y, Y[k]? = some y := ⟨_, List.getElem?_eq_getElem (by omega)⟩
      have hcy := (HR.out.cellAt k (by omega)).trans hy
      have hfy := HR.out.frozenAt k
      have hgl := (HR.out.lt g rfl).2
      have hst : Hid ((Y.set k (.int .i64 x.qty)).take (k + 1) = ncells ((ws.take (k + 1)).map Wt.qty)) := Lib.hid (by
        rw [take_set HY.out (by omega), List.take_add_one, hx]; simp [ncells])
      have HR2 := Lib.hid ((HR.out.stored k (.int .i64 x.qty)).1.alloc (.cells #[.string ⟨x.item.toArray⟩, .int .i64 x.day, .int .i64 x.qty] 47))
      have HB2 := Lib.hid ((HB.out.setCell (p := ⟨g, k, none⟩) hgle (.int .i64 x.qty)).alloc (by have := HB.out.size; simp only [World.size_setCell]; omega) (.cells #[.string ⟨x.item.toArray⟩, .int .i64 x.day, .int .i64 x.qty] 47))
      clear hx hy hYl
      go_wp2
      go_roundw
      case rel => exact ⟨k + 1, _, by omega, by go_num, hst, HR2, HB2⟩
      case measure => simp [intOf]; omega
    · obtain rfl : k = ws.length := by omega
      have hYl := Lib.hid HR.out.1
      go_wp2
      go_ret
      refine ⟨by rw [HG.out]; rfl, ?_, HB.out⟩
      have h1 := HY.out
      rw [List.take_of_length_le (by have := hYl.out; omega), List.take_of_length_le (Nat.le_refl _)] at h1
      rw [HG.out, ← h1]
      exact HR.out

/-! ### places by days -/
def dayAt (ws : List Wt) (i : Nat) : Int := (ws.getD i default).day
def ltD (ws : List Wt) (i j : Fin ws.length) : Bool := decide (dayAt ws i < dayAt ws j ∨ (dayAt ws i = dayAt ws j ∧ i.val < j.val))
def cfD (ws : List Wt) (i j : Fin ws.length) : Int := cmpI (dayAt ws i) (dayAt ws j)
theorem swoD (ws : List Wt) : SWO (ltD ws) where
  irrefl x := by unfold ltD; simp
  trans x y z h1 h2 := by unfold ltD at *; simp only [decide_eq_true_eq] at *; omega
  ntrans x y z h1 h2 := by unfold ltD at *; simp only [decide_eq_false_iff_not] at *; omega
/-- The places of the wants, by their days, those of one day as they stand. -/
structure Days (ws : List Wt) (P : List Nat) : Prop where
  perm : P.Perm (List.range ws.length)
  sorted : P.Pairwise (fun i j => dayAt ws i < dayAt ws j ∨ (dayAt ws i = dayAt ws j ∧ i < j))

def encD {n : Nat} (i : Fin n) : Value := .int .i64 (i.val : Int)
theorem encD_one {n : Nat} : OneCell (encD (n := n)) := fun x => rfl
theorem dayAt_get {ws : List Wt} {i : Nat} {x : Wt} (h : ws[i]? = some x) : dayAt ws i = x.day := by unfold dayAt; rw [List.getD_eq_getElem?_getD, h]; rfl

set_option maxHeartbeats 1000000 in
theorem byDayCmp_any (bx B : Nat) (A : Option Addr) (c : Nat) (ws : List Wt) (W : World) (hbx : W.cell? ⟨bx, 0, none⟩ = some (.slice A ws.length c)) (hl : Lies W B A (wcells ws)) (hlen : ws.length ≤ 1099511627776) (a b : Nat) (ha : a < ws.length) (hb : b < ws.length) :
    Calls Try.prog 61 #[.int .i64 a, .int .i64 b, .pointer (some ⟨bx, 0, none⟩)] W fun e w' => e = .returned (.int .i64 (cmpI (dayAt ws a) (dayAt ws b))) ∧ ∃ q, w' = W.drewN q := by
  obtain ⟨x, hx⟩ : ∃ x, ws[a]? = some x := ⟨_, List.getElem?_eq_getElem ha⟩
  obtain ⟨y, hy⟩ : ∃ y, ws[b]? = some y := ⟨_, List.getElem?_eq_getElem hb⟩
  obtain ⟨ad, rfl, _, hx0, hx1, hx2⟩ := hl.rowW hx
  obtain ⟨ad', had, _, hy0, hy1, hy2⟩ := hl.rowW hy
  cases had
  rw [dayAt_get hx, dayAt_get hy]
  clear hx hy hl hx0 hx2 hy0 hy2
  have h1 : (0 : Int) ≤ (a : Int) := by omega
  have h2 : (a : Int) < (ws.length : Int) := by omega
  have h3 : (0 : Int) ≤ (b : Int) := by omega
  have h4 : (b : Int) < (ws.length : Int) := by omega
  go_enter Try.func61, Try.ntmps61
  go_wp2_with fail
  go_quiet ((go_at_call 62; exact Calls.quiet_of_same ((ccmp_any _ _ _).mono fun e w' ⟨h1, h2⟩ => ⟨h1, h2.symm⟩)))
  go_wp2
  go_ret
  exact ⟨rfl, _, rfl⟩

theorem heap_sorted {α : Type} [Inhabited α] (enc : α → Value) {w : World} {g n : Nat} {os : Array Obj} {cur : Array Value} {e : TypeId} {fr : Nat × Nat} (d : Array α) (hb : w.heap[g]? = some (.cells cur e fr)) :
    (sortWorld enc w g 0 n d os).heap[g]? = some (.cells (Go.Sort.putCells enc 0 d cur) e fr) := by
  have hg : g < w.heap.size := (Array.getElem?_eq_some_iff.1 hb).1
  unfold sortWorld
  rw [heap_grow_old _ _ (by simpa [Go.Sort.putRow, Go.Sort.mapBlock, Go.Sort.ahead] using hg)]
  simp [Go.Sort.putRow, Go.Sort.mapBlock, Go.Sort.ahead, Array.getElem?_modify, hb, Go.Sort.onCells]
theorem grown_sorted {α : Type} [Inhabited α] (enc : α → Value) {w : World} {g n : Nat} {os : Array Obj} (d : Array α) : w.grownBy (sortWorld enc w g 0 n d os) (some g) := by
  unfold sortWorld
  refine ⟨rfl, rfl, rfl, by simp [Go.Sort.putRow, Go.Sort.mapBlock, Go.Sort.ahead], fun k hk hne => ?_⟩
  rw [heap_grow_old _ _ (by simpa [Go.Sort.putRow, Go.Sort.mapBlock, Go.Sort.ahead] using hk)]
  have : g ≠ k := fun e => hne (by rw [e])
  simp [Go.Sort.putRow, Go.Sort.mapBlock, Go.Sort.ahead, Array.getElem?_modify, this]
theorem take_put1 {α : Type} [Inhabited α] (enc : α → Value) (cur : Array Value) (ts : Array α) (h : ts.size ≤ cur.size) : (Go.Sort.putCells enc 0 ts cur).toList.take ts.size = ts.toList.map enc := by
  apply List.ext_getElem?
  intro j
  by_cases hj : j < ts.size
  · rw [List.getElem?_take_of_lt hj, Array.getElem?_toList, List.getElem?_map, Array.getElem?_toList]
    simp [Go.Sort.putCells, hj, show j < cur.size by omega]
  · rw [List.getElem?_take_eq_none (by omega), List.getElem?_eq_none (by simp; omega)]

def placesOf (n : Nat) : Array (Fin n) := Array.ofFn (fun i : Fin n => i)
theorem placesOf_size (n : Nat) : (placesOf n).size = n := by simp [placesOf]
theorem placesOf_get (n : Nat) [Inhabited (Fin n)] (j : Nat) (h : j < n) : (placesOf n)[j]! = ⟨j, h⟩ := by
  rw [getElem!_pos (placesOf n) j (by rw [placesOf_size]; exact h)]; simp [placesOf]
theorem extract_all {α : Type} (d : Array α) (n : Nat) (h : d.size = n) : d.extract 0 n = d := by subst h; simp
theorem placesOf_list (n : Nat) : (placesOf n).toList.map Fin.val = List.range n := by
  apply List.ext_getElem (by simp [placesOf])
  intro i h1 h2
  simp [placesOf]

/-- The places in order, in a row of their own. -/
def DaysRow (ws : List Wt) (base : Nat) (v : Value) (w : World) (e : Ending) (w' : World) : Prop :=
  e = .returned (.tuple #[]) ∧ ∃ P, Days ws P ∧ w'.ownsRow base 3 1 v ws.length (ncells (P.map (fun i : Nat => (i : Int)))) ∧ Go.RowKit.Below base w w'
set_option maxHeartbeats 1000000 in
theorem stableDays (ws : List Wt) (hpos : 0 < ws.length) (hlen : ws.length ≤ 1099511627776) (bx n₀ base g : Nat) (A : Option Addr) (c cap : Nat) (w : World) (hbx : w.cell? ⟨bx, 0, none⟩ = some (.slice A ws.length c)) (hbxl : bx < w.heap.size) (hbxg : bx ≠ g) (hl : Lies w n₀ A (wcells ws)) (hn₀ : n₀ ≤ g)
    (h : w.ownsRow base 3 1 (.slice (some ⟨g, 0, none⟩) ws.length cap) ws.length (ncells ((List.range ws.length).map (fun i : Nat => (i : Int))))) :
    Calls Try.prog 76 #[.slice (some ⟨g, 0, none⟩) ws.length cap, .int .i64 ws.length, .func (.func 61) #[] #[.pointer (some ⟨bx, 0, none⟩)]] w (DaysRow ws base (.slice (some ⟨g, 0, none⟩) ws.length cap) w) := by
  haveI : Inhabited (Fin ws.length) := ⟨⟨0, hpos⟩⟩
  have hz := placesOf_size ws.length
  have hg := h.lt g rfl
  have hH : Go.Sort.Holds (encD (n := ws.length)) w g 0 (placesOf ws.length) := by
    intro j hj
    rw [hz] at hj
    rw [Nat.zero_add, placesOf_get _ j hj]
    refine ⟨?_, h.frozenAt j⟩
    rw [h.cellAt j (by omega)]
    simp [ncells, encD, hj]
  have hcmp : CmpLays1 Try.prog 61 #[.pointer (some ⟨bx, 0, none⟩)] (encD (n := ws.length)) (cfD ws) g 0 (placesOf ws.length).size w := by
    intro m os dk hd x y
    have hgr := grown_sorted (encD (n := ws.length)) (w := w) (g := g) (n := m) (os := os) dk
    have h1 : (sortWorld (encD (n := ws.length)) w g 0 m dk os).cell? ⟨bx, 0, none⟩ = some (.slice A ws.length c) := (World.cell?_of_block (hgr.block bx hbxl (by simpa using hbxg))).trans hbx
    have h2 : Lies (sortWorld (encD (n := ws.length)) w g 0 m dk os) n₀ A (wcells ws) := hl.keep (fun p hp => World.cell?_of_block (hgr.block p.block (by omega) (by intro e; simp at e; omega)))
    refine (byDayCmp_any bx n₀ A c ws _ h1 h2 hlen x.val y.val x.isLt y.isLt).mono ?_
    rintro e w' ⟨rfl, q, rfl⟩
    exact ⟨rfl, q, #[], by rw [Go.Sort.grow_empty]⟩
  have hc := I1.stable_any (encD (n := ws.length)) (cfD ws) (ltD ws) (swoD ws) 61 #[.pointer (some ⟨bx, 0, none⟩)] g 0 cap (placesOf ws.length) w (enters_of Try.func61 (by kernel_rfl) rfl) hcmp ⟨encD_one, hH, hg.2⟩ (by omega) (by
    intro i j hij hj
    rw [hz] at hj
    rw [placesOf_get _ j hj, placesOf_get _ i (by omega)]
    unfold ltOf cfD ltD
    rw [decide_eq_decide]
    rcases cmpI_cases (dayAt ws j) (dayAt ws i) with ⟨h1, e⟩ | ⟨h1, e⟩ | ⟨h1, e⟩ <;> simp only [e] <;> omega)
  rw [hz] at hc
  refine hc.mono ?_
  rintro e w' ⟨rfl, d, S, hd, hp, hs⟩
  rw [hz] at hd
  obtain ⟨m, os, rfl⟩ := S
  have hgr := grown_sorted (encD (n := ws.length)) (w := w) (g := g) (n := m) (os := os) d
  refine ⟨rfl, d.toList.map Fin.val, ⟨?_, ?_⟩, ?_, (Go.RowKit.Below.refl base w).grown hgr (by omega) (fun j hj => by cases hj; exact hg.1)⟩
  · have h3 := hp.2.2
    have e1 : d.extract 0 ws.length = d := extract_all d _ hd
    have e2 : (placesOf ws.length).extract 0 ws.length = placesOf ws.length := extract_all _ _ hz
    rw [e1, e2] at h3
    have := h3.map Fin.val
    rwa [placesOf_list] at this
  · rw [List.pairwise_map, List.pairwise_iff_getElem]
    intro i j hi hj hij
    have hjd : j < d.size := by simpa using hj
    have h4 := hs i j (Nat.zero_le _) hij (by omega)
    rw [getElem!_pos d j hjd, getElem!_pos d i (by omega)] at h4
    unfold ltD at h4
    rw [decide_eq_false_iff_not] at h4
    have hne : (d[i]'(by omega)).val ≠ (d[j]'hjd).val := by
      intro e
      have h3 := hp.2.2
      have e1 : d.extract 0 ws.length = d := extract_all d _ hd
      have e2 : (placesOf ws.length).extract 0 ws.length = placesOf ws.length := extract_all _ _ hz
      rw [e1, e2] at h3
      have h5 := h3.map Fin.val
      rw [placesOf_list] at h5
      have h6 : (d.toList.map Fin.val).Nodup := h5.nodup_iff.2 List.nodup_range
      have h7 := List.pairwise_iff_getElem.1 h6 i j (by simp; omega) (by simpa using hjd) hij
      exact h7 (by simpa using e)
    simp only [Array.getElem_toList]
    omega
  · rcases h.2 with ⟨hv, _⟩ | ⟨g', cap', cur, hv, hb, hh, h1, h2, h3, h4⟩
    · cases hv
    · cases hv
      refine ⟨by simp [ncells, hd], .inr ⟨g, cap, _, rfl, hb, heap_sorted (encD (n := ws.length)) d hh, h1, h2, by simp [Go.Sort.putCells, h3], ?_⟩⟩
      rw [Nat.mul_one]
      have h5 := take_put1 (encD (n := ws.length)) cur d (by rw [h3, hd]; omega)
      rw [hd] at h5
      rw [h5]
      simp [ncells, encD, Function.comp_def]
end Go.Proofs.Ytddnfikjfmfhfaa
end
