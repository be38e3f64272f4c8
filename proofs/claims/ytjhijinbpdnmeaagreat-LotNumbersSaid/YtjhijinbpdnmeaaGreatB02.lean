/- Texts of this proof, one behind the other. -/
import Derived.Shelf.SlLaysF0
import Derived.Shelf.SlSortCmp.InsertionK
import Derived.Test.YtjhijinbpdnmeaaGreatProg
import Derived.RangeFuncNested
import Derived.RangeFuncBound
import Derived.RangeFuncCalls
import Derived.RangeFuncLeaves
import Derived.Shelf.Abstract
import Derived.OwnWalkIn
import Derived.TacticsInMore
import Derived.LoopNIn
import Derived.LoopIn
import Derived.Maps.AppendAt
import Derived.Test.YtjhijinbpdnmeaaGreatB01
import Derived.Test.YtjhijinbpdnmeaaGreatB00
section
/- Merging in place, the general step, by recursion (slices.symMergeCmpFunc). Written by gen_m3.py. -/
namespace Go.Proofs.YtjhijinbpdnmeaaGreat
open Go.ChangeShapes Go.WideShapes Go.ChangeAt Go.RowKit Go.Shelf Go.Lib Go.Sort Go.Proofs
set_option linter.unusedVariables false
variable {α : Type} [Inhabited α]

/-- The merge of shorter rows, by whatever numbers they are named. -/
def MergesBelow (lt : α → α → Bool) (enc : α → List Value) (k : Nat) (cf : α → α → Int) (g : Nat) (cb : Array Value) (blk off cap size N : Nat) (w0 : World) : Prop :=
  ∀ (xa xm xb : Int) (a m b : Nat) (d : Array α) (w : World), xa = a → xm = m → xb = b → b - a < N → d.size = size → SWK enc k w0 blk off d w → a < m → m < b → b ≤ size → Mrg lt (ltOf cf) a m b d →
    Calls Tryz.prog 104 #[.slice (some ⟨blk, off, none⟩) size cap, .int .i64 xa, .int .i64 xm, .int .i64 xb, .func (.func g) #[] cb] w (MergeTo lt enc k w0 blk off a b d)
theorem MergesBelow.at_ {lt : α → α → Bool} {enc : α → List Value} {k : Nat} {cf : α → α → Int} {g : Nat} {cb : Array Value} {blk off cap size N : Nat} {w0 : World} (h : MergesBelow lt enc k cf g cb blk off cap size N w0) :
  ∀ (xa xm xb : Int) (a m b : Nat) (d : Array α) (w : World), xa = a → xm = m → xb = b → b - a < N → d.size = size → SWK enc k w0 blk off d w → a < m → m < b → b ≤ size → Mrg lt (ltOf cf) a m b d →
    Calls Tryz.prog 104 #[.slice (some ⟨blk, off, none⟩) size cap, .int .i64 xa, .int .i64 xm, .int .i64 xb, .func (.func g) #[] cb] w (MergeTo lt enc k w0 blk off a b d) := h
def Turns (enc : α → List Value) (k : Nat) (g : Nat) (cb : Array Value) (blk off cap size : Nat) (w0 : World) : Prop :=
  ∀ (xa xm xb : Int) (a m b : Nat) (d : Array α) (w : World), xa = a → xm = m → xb = b → d.size = size → SWK enc k w0 blk off d w → a < m → m < b → b ≤ size →
    Calls Tryz.prog 114 #[.slice (some ⟨blk, off, none⟩) size cap, .int .i64 xa, .int .i64 xm, .int .i64 xb, .func (.func g) #[] cb] w fun e w' =>
      e = .returned (.tuple #[]) ∧ ∃ d', SWK enc k w0 blk off d' w' ∧ Turned d a m b d'
theorem Turns.at_ {enc : α → List Value} {k g : Nat} {cb : Array Value} {blk off cap size : Nat} {w0 : World} (h : Turns enc k g cb blk off cap size w0) :
  ∀ (xa xm xb : Int) (a m b : Nat) (d : Array α) (w : World), xa = a → xm = m → xb = b → d.size = size → SWK enc k w0 blk off d w → a < m → m < b → b ≤ size →
    Calls Tryz.prog 114 #[.slice (some ⟨blk, off, none⟩) size cap, .int .i64 xa, .int .i64 xm, .int .i64 xb, .func (.func g) #[] cb] w fun e w' =>
      e = .returned (.tuple #[]) ∧ ∃ d', SWK enc k w0 blk off d' w' ∧ Turned d a m b d' := h

set_option maxHeartbeats 16000000 in
set_option maxRecDepth 1000000 in
theorem symMerge_step (k : Nat) (aE : ∀ w, (isAgg 41).run Tryz.prog w = .ok true w) (zE : ∀ w, (Go.sizeOf 41).run Tryz.prog w = .ok k w) (enc : α → List Value) (cf : α → α → Int) (lt : α → α → Bool) (hS : SWO lt) (g : Nat) (cb : Array Value) (blk off cap a m b mid : Nat) (d0 d : Array α) (w0 w : World)
    (eg : ∀ args w, (callFunc g args).run Tryz.prog w = .ok (.enter g args) w) (hcmp : CmpLays Tryz.prog g cb enc k cf blk off d0.size w0) (R : RowK enc k w0 blk off d0) (hs : d.size = d0.size) (S : SWK enc k w0 blk off d w) (hmid : mid = (a + b) / 2) (ham : a + 1 < m) (hmb : m + 1 < b) (hb : b ≤ d.size) (hsz : d.size < 1152921504606846976)
    (hM : Mrg lt (ltOf cf) a m b d) (hI : MergesBelow lt enc k cf g cb blk off cap d.size (b - a) w0) (hT : Turns enc k g cb blk off cap d.size w0) :
    Calls Tryz.prog 104 #[.slice (some ⟨blk, off, none⟩) d.size cap, .int .i64 a, .int .i64 m, .int .i64 b, .func (.func g) #[] cb] w (MergeTo lt enc k w0 blk off a b d) := by
  have mixed : Tryz.prog.follows .mixedOrders = true := by kernel_rfl
  have S0 : Hid (SWK enc k w0 blk off d w) := Lib.hid S
  have HC := Lib.hid hcmp
  have HS := Lib.hid hs
  have HSW := Lib.hid hS
  have HM := Lib.hid hM
  have HI := Lib.hid hI
  have HT := Lib.hid hT
  have hb1 : ((m : Int) - (a : Int) == 1) = false := by simp; omega
  have hb2 : ((b : Int) - (m : Int) == 1) = false := by simp; omega
  have hq : ((a : Int) + (b : Int)) / 2 = (mid : Int) := by omega
  have hmid1 : a + b ≤ 2 * mid + 1 := by omega
  have hmid2 : 2 * mid ≤ a + b := by omega
  clear S hcmp hs hS hM hmid hI hT
  by_cases hgm : mid < m
  ·
    have hd0 : decide (mid < m) = true := decide_eq_true (by omega)
    go_enter Tryz.func104, Tryz.ntmps104
    go_wp2
    clear hb1 hb2 hd0
    go_loopg [20, 21] (b - a) (fun kx s20 s21 wr => ∃ (i j : Nat), s20 = .int .i64 i ∧ s21 = .int .i64 j ∧ i ≤ j ∧ j ≤ mid ∧ (mid + m - b) ≤ i ∧ j - i ≤ kx ∧ Hid (SWK enc k w0 blk off d wr) ∧ Hid (Half (fun x => !ltOf cf d[mid + m - 1 - x]! d[x]!) (mid + m - b) mid i j))
    case atStart => exact ⟨(mid + m - b), mid, by rw [show ((mid + m - b : Nat) : Int) = (mid : Int) + (m : Int) - (b : Int) by omega], rfl, by omega, Nat.le_refl _, Nat.le_refl _, by omega, S0, Lib.hid (Half.start (by omega))⟩
    case round =>
      clear S0
      obtain ⟨i, j, rfl, rfl, hij, hjb, hmi, hkx, S1, HH⟩ := hrel
      by_cases hlt : i < j
      · obtain ⟨c, hcn⟩ : ∃ c, c = (i + j) / 2 := ⟨_, rfl⟩
        have hci : i ≤ c := by omega
        have hcj : c < j := by omega
        obtain ⟨pp, hpn⟩ : ∃ pp, pp = mid + m - 1 - c := ⟨_, rfl⟩
        have hpp : pp + c + 1 = mid + m := by omega
        have hcq : ((i : Int) + (j : Int)) / 2 = (c : Int) := by omega
        have hpq : IntKind.i64.wrap ((mid : Int) + (m : Int) - 1 - (c : Int)) = (pp : Int) := by rw [IntKind.wrap_i64]; omega
        have hpq2 : (mid : Int) + (m : Int) - 1 - (c : Int) = (pp : Int) := by omega
        have hpw : IntKind.i64.wrap (pp : Int) = (pp : Int) := by rw [IntKind.wrap_i64]; omega
        have bc1 : (c : Int) < (d.size : Int) := by omega
        have bp1 : (pp : Int) < (d.size : Int) := by omega
        have bc2 : c < d.size := by omega
        have bp2 : pp < d.size := by omega
        have HPN := Lib.hid hpn
        clear hcn hpn
        have la := S1.out.ld R HS.out Tryz.prog c bc2
        have lb := S1.out.ld R HS.out Tryz.prog pp bp2
        obtain ⟨x, hx⟩ : ∃ x, x = d[c]! := ⟨_, rfl⟩
        obtain ⟨y, hy⟩ : ∃ y, y = d[pp]! := ⟨_, rfl⟩
        rw [← hx] at la
        rw [← hy] at lb
        have hc := S1.out.cmp HC.out HS.out y x
        have HX := Lib.hid hx
        have HY := Lib.hid hy
        clear hx hy
        by_cases hv : cf y x < 0
        ·
          have hd : decide (cf y x < 0) = true := decide_eq_true hv
          go_wp2_with fail
          go_quiet_grown (first | (go_at_fn g; refine Calls.grown_of (hc _ _)))
          have S2 : Hid (SWK enc k w0 blk off d (grow (wr.drewN nq) osq)) := Lib.hid (S1.out.grown nq osq)
          clear la lb hc S1
          generalize grow (wr.drewN nq) osq = w2 at S2 ⊢
          clear nq osq
          go_wp2
          clear hcq hpq hpq2 hpw
          go_roundg (c - i)
          case measure => omega
          case rel =>
            refine ⟨i, c, rfl, rfl, by omega, by omega, hmi, Nat.le_refl _, S2, Lib.hid ?_⟩
            refine HH.out.down (falls3 HSW.out HM.out (by omega) (by omega) (by omega) (by omega)) (by omega) (by omega) ?_
            show (!ltOf cf d[mid + m - 1 - c]! d[c]!) = false
            rw [← HPN.out, ← HX.out, ← HY.out, Bool.not_eq_false']; exact decide_eq_true hv
        ·
          have hd : decide (cf y x < 0) = false := decide_eq_false hv
          go_wp2_with fail
          go_quiet_grown (first | (go_at_fn g; refine Calls.grown_of (hc _ _)))
          have S2 : Hid (SWK enc k w0 blk off d (grow (wr.drewN nq) osq)) := Lib.hid (S1.out.grown nq osq)
          clear la lb hc S1
          generalize grow (wr.drewN nq) osq = w2 at S2 ⊢
          clear nq osq
          go_wp2
          clear hcq hpq hpq2 hpw
          go_roundg (j - (c + 1))
          case measure => omega
          case rel =>
            refine ⟨c + 1, j, by go_num, rfl, by omega, hjb, by omega, Nat.le_refl _, S2, Lib.hid ?_⟩
            refine HH.out.up (falls3 HSW.out HM.out (by omega) (by omega) (by omega) (by omega)) (by omega) (by omega) ?_
            show (!ltOf cf d[mid + m - 1 - c]! d[c]!) = true
            rw [← HPN.out, ← HX.out, ← HY.out, Bool.not_eq_true']; exact decide_eq_false (by omega)
      · obtain rfl : i = j := by omega
        clear hlt hij
        obtain ⟨en, hen⟩ : ∃ en, en = mid + m - i := ⟨_, rfl⟩
        have he1 : i + en = mid + m := by omega
        have he2 : m ≤ en := by omega
        have he3 : en ≤ b := by omega
        have hsa : a ≤ i := by omega
        have hsm : i ≤ m := by omega
        have hez : (mid : Int) + (m : Int) - (i : Int) = (en : Int) := by omega
        have C1 : Hid (i = a ∨ en = b ∨ (a < i ∧ en < b ∧ lt d[en]! d[i - 1]! = false)) := Lib.hid (by
          rcases Nat.lt_or_ge en b with h | h
          · have hq := HH.out.yes (i - 1) (by omega) (by omega)
            have hq : (!ltOf cf d[mid + m - 1 - (i - 1)]! d[i - 1]!) = true := hq
            rw [Bool.not_eq_true', show mid + m - 1 - (i - 1) = en by omega, HM.out.agree (i - 1) en (by omega) (by omega) (by omega) (by omega)] at hq
            exact .inr (.inr ⟨by omega, h, hq⟩)
          · exact .inr (.inl (by omega)))
        have C2 : Hid (i = m ∨ en = m ∨ (i < m ∧ m < en ∧ lt d[en - 1]! d[i]! = true)) := Lib.hid (by
          rcases Nat.lt_or_ge m en with h | h
          · have hq := HH.out.no i (Nat.le_refl _) (by omega)
            have hq : (!ltOf cf d[mid + m - 1 - i]! d[i]!) = false := hq
            rw [Bool.not_eq_false', show mid + m - 1 - i = en - 1 by omega, HM.out.agree i (en - 1) (by omega) (by omega) (by omega) (by omega)] at hq
            exact .inr (.inr ⟨by omega, h, hq⟩)
          · exact .inr (.inl (by omega)))
        clear hen hkx HH hmi hjb
        by_cases ht1 : i < m
        · by_cases ht2 : m < en
          ·
            by_cases hL1 : a < i
            ·
              by_cases hR2 : en < b
              ·
                have hd1 : decide (i < m) = true := decide_eq_true ht1
                have hd2 : decide (m < en) = true := decide_eq_true ht2
                have hdL1 : decide (a < i) = true := decide_eq_true (by omega)
                have hdL2 : decide (i < mid) = true := decide_eq_true (by omega)
                have hdR1 : decide (mid < en) = true := decide_eq_true (by omega)
                have hdR2 : decide (en < b) = true := decide_eq_true (by omega)
                go_wp2_with (first | (go_at_call 114; ((with_reducible refine (HT.out.at_ (i : Int) (m : Int) (en : Int) i m en d _ rfl rfl rfl rfl S1.out ht1 ht2 (by omega)).mono ?_); rintro e w2 ⟨rfl, d1, S2', hturn⟩; have HCut := Lib.hid (cut_of HSW.out HM.out hb hsa hsm he2 he3 he1 C1.out C2.out hturn.1 hturn.2.1 hturn.2.2); have HZ1 := Lib.hid hturn.1; have S2 := Lib.hid S2'; clear S2' hturn)) | (go_at_call 104; ((with_reducible refine (HI.out.at_ (a : Int) (i : Int) (mid : Int) a i mid _ _ rfl rfl rfl (by omega) HZ1.out S2.out (by omega) (by omega) (by omega) HCut.out.mrgL).mono ?_); rintro e w3 ⟨rfl, d2, S3', hm2'⟩; have hm2 := Lib.hid hm2'; have hz2 := Lib.hid (hm2'.1.trans HZ1.out); have S3 := Lib.hid S3'; clear S3' hm2')) | (go_at_call 104; ((with_reducible refine (HI.out.at_ (mid : Int) (en : Int) (b : Int) mid en b _ _ rfl rfl rfl (by omega) hz2.out S3.out (by omega) (by omega) (by omega) (cut_R HSW.out HCut.out hm2.out)).mono ?_); rintro e w4 ⟨rfl, d3, S4, hm3⟩)))
                go_end0
                exact ⟨rfl, _, S4, cut_end HSW.out HCut.out hb hm2.out hm3⟩
              ·
                have hd1 : decide (i < m) = true := decide_eq_true ht1
                have hd2 : decide (m < en) = true := decide_eq_true ht2
                have hdL1 : decide (a < i) = true := decide_eq_true (by omega)
                have hdL2 : decide (i < mid) = true := decide_eq_true (by omega)
                have hdR1 : decide (mid < en) = true := decide_eq_true (by omega)
                have hdR2 : decide (en < b) = false := decide_eq_false (by omega)
                go_wp2_with (first | (go_at_call 114; ((with_reducible refine (HT.out.at_ (i : Int) (m : Int) (en : Int) i m en d _ rfl rfl rfl rfl S1.out ht1 ht2 (by omega)).mono ?_); rintro e w2 ⟨rfl, d1, S2', hturn⟩; have HCut := Lib.hid (cut_of HSW.out HM.out hb hsa hsm he2 he3 he1 C1.out C2.out hturn.1 hturn.2.1 hturn.2.2); have HZ1 := Lib.hid hturn.1; have S2 := Lib.hid S2'; clear S2' hturn)) | (go_at_call 104; ((with_reducible refine (HI.out.at_ (a : Int) (i : Int) (mid : Int) a i mid _ _ rfl rfl rfl (by omega) HZ1.out S2.out (by omega) (by omega) (by omega) HCut.out.mrgL).mono ?_); rintro e w3 ⟨rfl, d2, S3', hm2'⟩; have hm2 := Lib.hid hm2'; have hz2 := Lib.hid (hm2'.1.trans HZ1.out); have S3 := Lib.hid S3'; clear S3' hm2')))
                go_end0
                exact ⟨rfl, _, S3.out, cut_end HSW.out HCut.out hb hm2.out (cut_skipR HSW.out HCut.out (by omega) hm2.out)⟩
            ·
              by_cases hR2 : en < b
              ·
                have hd1 : decide (i < m) = true := decide_eq_true ht1
                have hd2 : decide (m < en) = true := decide_eq_true ht2
                have hdL1 : decide (a < i) = false := decide_eq_false (by omega)
                have hdR1 : decide (mid < en) = true := decide_eq_true (by omega)
                have hdR2 : decide (en < b) = true := decide_eq_true (by omega)
                go_wp2_with (first | (go_at_call 114; ((with_reducible refine (HT.out.at_ (i : Int) (m : Int) (en : Int) i m en d _ rfl rfl rfl rfl S1.out ht1 ht2 (by omega)).mono ?_); rintro e w2 ⟨rfl, d1, S2', hturn⟩; have HCut := Lib.hid (cut_of HSW.out HM.out hb hsa hsm he2 he3 he1 C1.out C2.out hturn.1 hturn.2.1 hturn.2.2); have HZ1 := Lib.hid hturn.1; have S2 := Lib.hid S2'; clear S2' hturn)) | (go_at_call 104; ((with_reducible refine (HI.out.at_ (mid : Int) (en : Int) (b : Int) mid en b _ _ rfl rfl rfl (by omega) HZ1.out S2.out (by omega) (by omega) (by omega) (cut_R HSW.out HCut.out (cut_skipL HSW.out HCut.out (by omega)))).mono ?_); rintro e w4 ⟨rfl, d3, S4, hm3⟩)))
                go_end0
                exact ⟨rfl, _, S4, cut_end HSW.out HCut.out hb (cut_skipL HSW.out HCut.out (by omega)) hm3⟩
              ·
                have hd1 : decide (i < m) = true := decide_eq_true ht1
                have hd2 : decide (m < en) = true := decide_eq_true ht2
                have hdL1 : decide (a < i) = false := decide_eq_false (by omega)
                have hdR1 : decide (mid < en) = true := decide_eq_true (by omega)
                have hdR2 : decide (en < b) = false := decide_eq_false (by omega)
                go_wp2_with (first | (go_at_call 114; ((with_reducible refine (HT.out.at_ (i : Int) (m : Int) (en : Int) i m en d _ rfl rfl rfl rfl S1.out ht1 ht2 (by omega)).mono ?_); rintro e w2 ⟨rfl, d1, S2', hturn⟩; have HCut := Lib.hid (cut_of HSW.out HM.out hb hsa hsm he2 he3 he1 C1.out C2.out hturn.1 hturn.2.1 hturn.2.2); have HZ1 := Lib.hid hturn.1; have S2 := Lib.hid S2'; clear S2' hturn)))
                go_end0
                exact ⟨rfl, _, S2.out, cut_end HSW.out HCut.out hb (cut_skipL HSW.out HCut.out (by omega)) (cut_skipR HSW.out HCut.out (by omega) (cut_skipL HSW.out HCut.out (by omega)))⟩
          ·
            have HCut := Lib.hid (cut_of HSW.out HM.out hb hsa hsm he2 he3 he1 C1.out C2.out rfl (permIn_refl _ _ _) (turned_none (.inr (by omega))))
            have S2 := Lib.hid S1.out
            have HZ1 : Hid (d.size = d.size) := Lib.hid rfl
            have hd1 : decide (i < m) = true := decide_eq_true ht1
            have hd2 : decide (m < en) = false := decide_eq_false ht2
            by_cases hR2 : en < b
            ·
              have hdL1 : decide (a < i) = true := decide_eq_true (by omega)
              have hdL2 : decide (i < mid) = false := decide_eq_false (by omega)
              have hdR1 : decide (mid < en) = true := decide_eq_true (by omega)
              have hdR2 : decide (en < b) = true := decide_eq_true (by omega)
              go_wp2_with (first | (go_at_call 104; ((with_reducible refine (HI.out.at_ (mid : Int) (en : Int) (b : Int) mid en b _ _ rfl rfl rfl (by omega) HZ1.out S2.out (by omega) (by omega) (by omega) (cut_R HSW.out HCut.out (cut_skipL HSW.out HCut.out (by omega)))).mono ?_); rintro e w4 ⟨rfl, d3, S4, hm3⟩)))
              go_end0
              exact ⟨rfl, _, S4, cut_end HSW.out HCut.out hb (cut_skipL HSW.out HCut.out (by omega)) hm3⟩
            ·
              have hdL1 : decide (a < i) = true := decide_eq_true (by omega)
              have hdL2 : decide (i < mid) = false := decide_eq_false (by omega)
              have hdR1 : decide (mid < en) = true := decide_eq_true (by omega)
              have hdR2 : decide (en < b) = false := decide_eq_false (by omega)
              go_wp2
              go_end0
              exact ⟨rfl, _, S2.out, cut_end HSW.out HCut.out hb (cut_skipL HSW.out HCut.out (by omega)) (cut_skipR HSW.out HCut.out (by omega) (cut_skipL HSW.out HCut.out (by omega)))⟩
        ·
          have HCut := Lib.hid (cut_of HSW.out HM.out hb hsa hsm he2 he3 he1 C1.out C2.out rfl (permIn_refl _ _ _) (turned_none (.inl (by omega))))
          have S2 := Lib.hid S1.out
          have HZ1 : Hid (d.size = d.size) := Lib.hid rfl
          have hd1 : decide (i < m) = false := decide_eq_false ht1
          by_cases hL1 : a < i
          · by_cases hL2 : i < mid
            ·
              have hdL1 : decide (a < i) = true := decide_eq_true (by omega)
              have hdL2 : decide (i < mid) = true := decide_eq_true (by omega)
              have hdR1 : decide (mid < en) = false := decide_eq_false (by omega)
              go_wp2_with (first | (go_at_call 104; ((with_reducible refine (HI.out.at_ (a : Int) (i : Int) (mid : Int) a i mid _ _ rfl rfl rfl (by omega) HZ1.out S2.out (by omega) (by omega) (by omega) HCut.out.mrgL).mono ?_); rintro e w3 ⟨rfl, d2, S3', hm2'⟩; have hm2 := Lib.hid hm2'; have hz2 := Lib.hid (hm2'.1.trans HZ1.out); have S3 := Lib.hid S3'; clear S3' hm2')))
              go_end0
              exact ⟨rfl, _, S3.out, cut_end HSW.out HCut.out hb hm2.out (cut_skipR HSW.out HCut.out (by omega) hm2.out)⟩
            ·
              have hdL1 : decide (a < i) = true := decide_eq_true (by omega)
              have hdL2 : decide (i < mid) = false := decide_eq_false (by omega)
              have hdR1 : decide (mid < en) = false := decide_eq_false (by omega)
              go_wp2
              go_end0
              exact ⟨rfl, _, S2.out, cut_end HSW.out HCut.out hb (cut_skipL HSW.out HCut.out (by omega)) (cut_skipR HSW.out HCut.out (by omega) (cut_skipL HSW.out HCut.out (by omega)))⟩
          ·
            have hdL1 : decide (a < i) = false := decide_eq_false (by omega)
            have hdR1 : decide (mid < en) = false := decide_eq_false (by omega)
            go_wp2
            go_end0
            exact ⟨rfl, _, S2.out, cut_end HSW.out HCut.out hb (cut_skipL HSW.out HCut.out (by omega)) (cut_skipR HSW.out HCut.out (by omega) (cut_skipL HSW.out HCut.out (by omega)))⟩
  ·
    have hd0 : decide (mid < m) = false := decide_eq_false (by omega)
    go_enter Tryz.func104, Tryz.ntmps104
    go_wp2
    clear hb1 hb2 hd0
    go_loopg [20, 21] (b - a) (fun kx s20 s21 wr => ∃ (i j : Nat), s20 = .int .i64 i ∧ s21 = .int .i64 j ∧ i ≤ j ∧ j ≤ m ∧ a ≤ i ∧ j - i ≤ kx ∧ Hid (SWK enc k w0 blk off d wr) ∧ Hid (Half (fun x => !ltOf cf d[mid + m - 1 - x]! d[x]!) a m i j))
    case atStart => exact ⟨a, m, rfl, rfl, by omega, Nat.le_refl _, Nat.le_refl _, by omega, S0, Lib.hid (Half.start (by omega))⟩
    case round =>
      clear S0
      obtain ⟨i, j, rfl, rfl, hij, hjb, hmi, hkx, S1, HH⟩ := hrel
      by_cases hlt : i < j
      · obtain ⟨c, hcn⟩ : ∃ c, c = (i + j) / 2 := ⟨_, rfl⟩
        have hci : i ≤ c := by omega
        have hcj : c < j := by omega
        obtain ⟨pp, hpn⟩ : ∃ pp, pp = mid + m - 1 - c := ⟨_, rfl⟩
        have hpp : pp + c + 1 = mid + m := by omega
        have hcq : ((i : Int) + (j : Int)) / 2 = (c : Int) := by omega
        have hpq : IntKind.i64.wrap ((mid : Int) + (m : Int) - 1 - (c : Int)) = (pp : Int) := by rw [IntKind.wrap_i64]; omega
        have hpq2 : (mid : Int) + (m : Int) - 1 - (c : Int) = (pp : Int) := by omega
        have hpw : IntKind.i64.wrap (pp : Int) = (pp : Int) := by rw [IntKind.wrap_i64]; omega
        have bc1 : (c : Int) < (d.size : Int) := by omega
        have bp1 : (pp : Int) < (d.size : Int) := by omega
        have bc2 : c < d.size := by omega
        have bp2 : pp < d.size := by omega
        have HPN := Lib.hid hpn
        clear hcn hpn
        have la := S1.out.ld R HS.out Tryz.prog c bc2
        have lb := S1.out.ld R HS.out Tryz.prog pp bp2
        obtain ⟨x, hx⟩ : ∃ x, x = d[c]! := ⟨_, rfl⟩
        obtain ⟨y, hy⟩ : ∃ y, y = d[pp]! := ⟨_, rfl⟩
        rw [← hx] at la
        rw [← hy] at lb
        have hc := S1.out.cmp HC.out HS.out y x
        have HX := Lib.hid hx
        have HY := Lib.hid hy
        clear hx hy
        by_cases hv : cf y x < 0
        ·
          have hd : decide (cf y x < 0) = true := decide_eq_true hv
          go_wp2_with fail
          go_quiet_grown (first | (go_at_fn g; refine Calls.grown_of (hc _ _)))
          have S2 : Hid (SWK enc k w0 blk off d (grow (wr.drewN nq) osq)) := Lib.hid (S1.out.grown nq osq)
          clear la lb hc S1
          generalize grow (wr.drewN nq) osq = w2 at S2 ⊢
          clear nq osq
          go_wp2
          clear hcq hpq hpq2 hpw
          go_roundg (c - i)
          case measure => omega
          case rel =>
            refine ⟨i, c, rfl, rfl, by omega, by omega, hmi, Nat.le_refl _, S2, Lib.hid ?_⟩
            refine HH.out.down (falls3 HSW.out HM.out (by omega) (by omega) (by omega) (by omega)) (by omega) (by omega) ?_
            show (!ltOf cf d[mid + m - 1 - c]! d[c]!) = false
            rw [← HPN.out, ← HX.out, ← HY.out, Bool.not_eq_false']; exact decide_eq_true hv
        ·
          have hd : decide (cf y x < 0) = false := decide_eq_false hv
          go_wp2_with fail
          go_quiet_grown (first | (go_at_fn g; refine Calls.grown_of (hc _ _)))
          have S2 : Hid (SWK enc k w0 blk off d (grow (wr.drewN nq) osq)) := Lib.hid (S1.out.grown nq osq)
          clear la lb hc S1
          generalize grow (wr.drewN nq) osq = w2 at S2 ⊢
          clear nq osq
          go_wp2
          clear hcq hpq hpq2 hpw
          go_roundg (j - (c + 1))
          case measure => omega
          case rel =>
            refine ⟨c + 1, j, by go_num, rfl, by omega, hjb, by omega, Nat.le_refl _, S2, Lib.hid ?_⟩
            refine HH.out.up (falls3 HSW.out HM.out (by omega) (by omega) (by omega) (by omega)) (by omega) (by omega) ?_
            show (!ltOf cf d[mid + m - 1 - c]! d[c]!) = true
            rw [← HPN.out, ← HX.out, ← HY.out, Bool.not_eq_true']; exact decide_eq_false (by omega)
      · obtain rfl : i = j := by omega
        clear hlt hij
        obtain ⟨en, hen⟩ : ∃ en, en = mid + m - i := ⟨_, rfl⟩
        have he1 : i + en = mid + m := by omega
        have he2 : m ≤ en := by omega
        have he3 : en ≤ b := by omega
        have hsa : a ≤ i := by omega
        have hsm : i ≤ m := by omega
        have hez : (mid : Int) + (m : Int) - (i : Int) = (en : Int) := by omega
        have C1 : Hid (i = a ∨ en = b ∨ (a < i ∧ en < b ∧ lt d[en]! d[i - 1]! = false)) := Lib.hid (by
          rcases Nat.lt_or_ge a i with h | h
          · have hq := HH.out.yes (i - 1) (by omega) (by omega)
            have hq : (!ltOf cf d[mid + m - 1 - (i - 1)]! d[i - 1]!) = true := hq
            rw [Bool.not_eq_true', show mid + m - 1 - (i - 1) = en by omega, HM.out.agree (i - 1) en (by omega) (by omega) (by omega) (by omega)] at hq
            exact .inr (.inr ⟨h, by omega, hq⟩)
          · exact .inl (by omega))
        have C2 : Hid (i = m ∨ en = m ∨ (i < m ∧ m < en ∧ lt d[en - 1]! d[i]! = true)) := Lib.hid (by
          rcases Nat.lt_or_ge i m with h | h
          · have hq := HH.out.no i (Nat.le_refl _) (by omega)
            have hq : (!ltOf cf d[mid + m - 1 - i]! d[i]!) = false := hq
            rw [Bool.not_eq_false', show mid + m - 1 - i = en - 1 by omega, HM.out.agree i (en - 1) (by omega) (by omega) (by omega) (by omega)] at hq
            exact .inr (.inr ⟨h, by omega, hq⟩)
          · exact .inl (by omega))
        clear hen hkx HH hmi hjb
        by_cases ht1 : i < m
        · by_cases ht2 : m < en
          ·
            by_cases hL1 : a < i
            ·
              by_cases hR2 : en < b
              ·
                have hd1 : decide (i < m) = true := decide_eq_true ht1
                have hd2 : decide (m < en) = true := decide_eq_true ht2
                have hdL1 : decide (a < i) = true := decide_eq_true (by omega)
                have hdL2 : decide (i < mid) = true := decide_eq_true (by omega)
                have hdR1 : decide (mid < en) = true := decide_eq_true (by omega)
                have hdR2 : decide (en < b) = true := decide_eq_true (by omega)
                go_wp2_with (first | (go_at_call 114; ((with_reducible refine (HT.out.at_ (i : Int) (m : Int) (en : Int) i m en d _ rfl rfl rfl rfl S1.out ht1 ht2 (by omega)).mono ?_); rintro e w2 ⟨rfl, d1, S2', hturn⟩; have HCut := Lib.hid (cut_of HSW.out HM.out hb hsa hsm he2 he3 he1 C1.out C2.out hturn.1 hturn.2.1 hturn.2.2); have HZ1 := Lib.hid hturn.1; have S2 := Lib.hid S2'; clear S2' hturn)) | (go_at_call 104; ((with_reducible refine (HI.out.at_ (a : Int) (i : Int) (mid : Int) a i mid _ _ rfl rfl rfl (by omega) HZ1.out S2.out (by omega) (by omega) (by omega) HCut.out.mrgL).mono ?_); rintro e w3 ⟨rfl, d2, S3', hm2'⟩; have hm2 := Lib.hid hm2'; have hz2 := Lib.hid (hm2'.1.trans HZ1.out); have S3 := Lib.hid S3'; clear S3' hm2')) | (go_at_call 104; ((with_reducible refine (HI.out.at_ (mid : Int) (en : Int) (b : Int) mid en b _ _ rfl rfl rfl (by omega) hz2.out S3.out (by omega) (by omega) (by omega) (cut_R HSW.out HCut.out hm2.out)).mono ?_); rintro e w4 ⟨rfl, d3, S4, hm3⟩)))
                go_end0
                exact ⟨rfl, _, S4, cut_end HSW.out HCut.out hb hm2.out hm3⟩
              ·
                have hd1 : decide (i < m) = true := decide_eq_true ht1
                have hd2 : decide (m < en) = true := decide_eq_true ht2
                have hdL1 : decide (a < i) = true := decide_eq_true (by omega)
                have hdL2 : decide (i < mid) = true := decide_eq_true (by omega)
                have hdR1 : decide (mid < en) = true := decide_eq_true (by omega)
                have hdR2 : decide (en < b) = false := decide_eq_false (by omega)
                go_wp2_with (first | (go_at_call 114; ((with_reducible refine (HT.out.at_ (i : Int) (m : Int) (en : Int) i m en d _ rfl rfl rfl rfl S1.out ht1 ht2 (by omega)).mono ?_); rintro e w2 ⟨rfl, d1, S2', hturn⟩; have HCut := Lib.hid (cut_of HSW.out HM.out hb hsa hsm he2 he3 he1 C1.out C2.out hturn.1 hturn.2.1 hturn.2.2); have HZ1 := Lib.hid hturn.1; have S2 := Lib.hid S2'; clear S2' hturn)) | (go_at_call 104; ((with_reducible refine (HI.out.at_ (a : Int) (i : Int) (mid : Int) a i mid _ _ rfl rfl rfl (by omega) HZ1.out S2.out (by omega) (by omega) (by omega) HCut.out.mrgL).mono ?_); rintro e w3 ⟨rfl, d2, S3', hm2'⟩; have hm2 := Lib.hid hm2'; have hz2 := Lib.hid (hm2'.1.trans HZ1.out); have S3 := Lib.hid S3'; clear S3' hm2')))
                go_end0
                exact ⟨rfl, _, S3.out, cut_end HSW.out HCut.out hb hm2.out (cut_skipR HSW.out HCut.out (by omega) hm2.out)⟩
            ·
              by_cases hR2 : en < b
              ·
                have hd1 : decide (i < m) = true := decide_eq_true ht1
                have hd2 : decide (m < en) = true := decide_eq_true ht2
                have hdL1 : decide (a < i) = false := decide_eq_false (by omega)
                have hdR1 : decide (mid < en) = true := decide_eq_true (by omega)
                have hdR2 : decide (en < b) = true := decide_eq_true (by omega)
                go_wp2_with (first | (go_at_call 114; ((with_reducible refine (HT.out.at_ (i : Int) (m : Int) (en : Int) i m en d _ rfl rfl rfl rfl S1.out ht1 ht2 (by omega)).mono ?_); rintro e w2 ⟨rfl, d1, S2', hturn⟩; have HCut := Lib.hid (cut_of HSW.out HM.out hb hsa hsm he2 he3 he1 C1.out C2.out hturn.1 hturn.2.1 hturn.2.2); have HZ1 := Lib.hid hturn.1; have S2 := Lib.hid S2'; clear S2' hturn)) | (go_at_call 104; ((with_reducible refine (HI.out.at_ (mid : Int) (en : Int) (b : Int) mid en b _ _ rfl rfl rfl (by omega) HZ1.out S2.out (by omega) (by omega) (by omega) (cut_R HSW.out HCut.out (cut_skipL HSW.out HCut.out (by omega)))).mono ?_); rintro e w4 ⟨rfl, d3, S4, hm3⟩)))
                go_end0
                exact ⟨rfl, _, S4, cut_end HSW.out HCut.out hb (cut_skipL HSW.out HCut.out (by omega)) hm3⟩
              ·
                have hd1 : decide (i < m) = true := decide_eq_true ht1
                have hd2 : decide (m < en) = true := decide_eq_true ht2
                have hdL1 : decide (a < i) = false := decide_eq_false (by omega)
                have hdR1 : decide (mid < en) = true := decide_eq_true (by omega)
                have hdR2 : decide (en < b) = false := decide_eq_false (by omega)
                go_wp2_with (first | (go_at_call 114; ((with_reducible refine (HT.out.at_ (i : Int) (m : Int) (en : Int) i m en d _ rfl rfl rfl rfl S1.out ht1 ht2 (by omega)).mono ?_); rintro e w2 ⟨rfl, d1, S2', hturn⟩; have HCut := Lib.hid (cut_of HSW.out HM.out hb hsa hsm he2 he3 he1 C1.out C2.out hturn.1 hturn.2.1 hturn.2.2); have HZ1 := Lib.hid hturn.1; have S2 := Lib.hid S2'; clear S2' hturn)))
                go_end0
                exact ⟨rfl, _, S2.out, cut_end HSW.out HCut.out hb (cut_skipL HSW.out HCut.out (by omega)) (cut_skipR HSW.out HCut.out (by omega) (cut_skipL HSW.out HCut.out (by omega)))⟩
          ·
            have HCut := Lib.hid (cut_of HSW.out HM.out hb hsa hsm he2 he3 he1 C1.out C2.out rfl (permIn_refl _ _ _) (turned_none (.inr (by omega))))
            have S2 := Lib.hid S1.out
            have HZ1 : Hid (d.size = d.size) := Lib.hid rfl
            have hd1 : decide (i < m) = true := decide_eq_true ht1
            have hd2 : decide (m < en) = false := decide_eq_false ht2
            by_cases hR2 : en < b
            ·
              have hdL1 : decide (a < i) = true := decide_eq_true (by omega)
              have hdL2 : decide (i < mid) = false := decide_eq_false (by omega)
              have hdR1 : decide (mid < en) = true := decide_eq_true (by omega)
              have hdR2 : decide (en < b) = true := decide_eq_true (by omega)
              go_wp2_with (first | (go_at_call 104; ((with_reducible refine (HI.out.at_ (mid : Int) (en : Int) (b : Int) mid en b _ _ rfl rfl rfl (by omega) HZ1.out S2.out (by omega) (by omega) (by omega) (cut_R HSW.out HCut.out (cut_skipL HSW.out HCut.out (by omega)))).mono ?_); rintro e w4 ⟨rfl, d3, S4, hm3⟩)))
              go_end0
              exact ⟨rfl, _, S4, cut_end HSW.out HCut.out hb (cut_skipL HSW.out HCut.out (by omega)) hm3⟩
            ·
              have hdL1 : decide (a < i) = true := decide_eq_true (by omega)
              have hdL2 : decide (i < mid) = false := decide_eq_false (by omega)
              have hdR1 : decide (mid < en) = true := decide_eq_true (by omega)
              have hdR2 : decide (en < b) = false := decide_eq_false (by omega)
              go_wp2
              go_end0
              exact ⟨rfl, _, S2.out, cut_end HSW.out HCut.out hb (cut_skipL HSW.out HCut.out (by omega)) (cut_skipR HSW.out HCut.out (by omega) (cut_skipL HSW.out HCut.out (by omega)))⟩
        ·
          have HCut := Lib.hid (cut_of HSW.out HM.out hb hsa hsm he2 he3 he1 C1.out C2.out rfl (permIn_refl _ _ _) (turned_none (.inl (by omega))))
          have S2 := Lib.hid S1.out
          have HZ1 : Hid (d.size = d.size) := Lib.hid rfl
          have hd1 : decide (i < m) = false := decide_eq_false ht1
          by_cases hL1 : a < i
          · by_cases hL2 : i < mid
            ·
              have hdL1 : decide (a < i) = true := decide_eq_true (by omega)
              have hdL2 : decide (i < mid) = true := decide_eq_true (by omega)
              have hdR1 : decide (mid < en) = false := decide_eq_false (by omega)
              go_wp2_with (first | (go_at_call 104; ((with_reducible refine (HI.out.at_ (a : Int) (i : Int) (mid : Int) a i mid _ _ rfl rfl rfl (by omega) HZ1.out S2.out (by omega) (by omega) (by omega) HCut.out.mrgL).mono ?_); rintro e w3 ⟨rfl, d2, S3', hm2'⟩; have hm2 := Lib.hid hm2'; have hz2 := Lib.hid (hm2'.1.trans HZ1.out); have S3 := Lib.hid S3'; clear S3' hm2')))
              go_end0
              exact ⟨rfl, _, S3.out, cut_end HSW.out HCut.out hb hm2.out (cut_skipR HSW.out HCut.out (by omega) hm2.out)⟩
            ·
              have hdL1 : decide (a < i) = true := decide_eq_true (by omega)
              have hdL2 : decide (i < mid) = false := decide_eq_false (by omega)
              have hdR1 : decide (mid < en) = false := decide_eq_false (by omega)
              go_wp2
              go_end0
              exact ⟨rfl, _, S2.out, cut_end HSW.out HCut.out hb (cut_skipL HSW.out HCut.out (by omega)) (cut_skipR HSW.out HCut.out (by omega) (cut_skipL HSW.out HCut.out (by omega)))⟩
          ·
            have hdL1 : decide (a < i) = false := decide_eq_false (by omega)
            have hdR1 : decide (mid < en) = false := decide_eq_false (by omega)
            go_wp2
            go_end0
            exact ⟨rfl, _, S2.out, cut_end HSW.out HCut.out hb (cut_skipL HSW.out HCut.out (by omega)) (cut_skipR HSW.out HCut.out (by omega) (cut_skipL HSW.out HCut.out (by omega)))⟩
end Go.Proofs.YtjhijinbpdnmeaaGreat
end
section
/- Merging in place (slices.symMergeCmpFunc), whatever rows. -/
namespace Go.Proofs.YtjhijinbpdnmeaaGreat
open Go.ChangeShapes Go.WideShapes Go.ChangeAt Go.RowKit Go.Shelf Go.Lib Go.Sort Go.Proofs
set_option linter.unusedVariables false
variable {α : Type} [Inhabited α]

theorem merges (k : Nat) (aE : ∀ w, (isAgg 41).run Tryz.prog w = .ok true w) (zE : ∀ w, (Go.sizeOf 41).run Tryz.prog w = .ok k w) (enc : α → List Value) (cf : α → α → Int) (lt : α → α → Bool) (hS : SWO lt) (g : Nat) (cb : Array Value) (blk off cap : Nat) (d0 : Array α) (w0 : World)
    (eg : ∀ args w, (callFunc g args).run Tryz.prog w = .ok (.enter g args) w) (hcmp : CmpLays Tryz.prog g cb enc k cf blk off d0.size w0) (R : RowK enc k w0 blk off d0) (hsz : d0.size < 1152921504606846976) :
    ∀ N, MergesBelow lt enc k cf g cb blk off cap d0.size N w0
  | 0 => fun xa xm xb a m b d w _ _ _ h => by omega
  | N + 1 => fun xa xm xb a m b d w ea em eb hN hs S ham hmb hb hM => by
    subst ea em eb
    by_cases h1 : m = a + 1
    · have := symMerge_one k aE zE enc cf lt hS g cb blk off cap a m b d0 d w0 w eg hcmp R hs S h1 hmb (by omega) (by omega) hM
      rwa [hs] at this
    · by_cases h2 : b = m + 1
      · have := symMerge_last k aE zE enc cf lt hS g cb blk off cap a m b d0 d w0 w eg hcmp R hs S h2 (by omega) (by omega) (by omega) hM
        rwa [hs] at this
      · have IH := merges k aE zE enc cf lt hS g cb blk off cap d0 w0 eg hcmp R hsz N
        have hI : MergesBelow lt enc k cf g cb blk off cap d.size (b - a) w0 := by
          rw [hs]
          intro xa xm xb a' m' b' d' w' e1 e2 e3 hlt h4 h5 h6 h7 h8 h9
          exact IH xa xm xb a' m' b' d' w' e1 e2 e3 (by omega) h4 h5 h6 h7 h8 h9
        have hT : Turns enc k g cb blk off cap d.size w0 := by
          intro xa xm xb a' m' b' d' w' e1 e2 e3 h4 h5 h6 h7 h8
          subst e1 e2 e3
          have := rotate_any k aE zE enc g cb blk off cap a' m' b' d0 d' w0 w' R (h4.trans hs) h5 h6 h7 (by omega) (by omega)
          rwa [h4] at this
        have := symMerge_step k aE zE enc cf lt hS g cb blk off cap a m b ((a + b) / 2) d0 d w0 w eg hcmp R hs S rfl (by omega) (by omega) (by omega) (by omega) hM hI hT
        rwa [hs] at this
end Go.Proofs.YtjhijinbpdnmeaaGreat
end
section
/-
  DERIVED: THE SHELF's CONTRACTS AT THIS DUMP, IN PLAIN WORDS (tools/lay-plain.mjs out of 'YtjhijinbpdnmeaaGreatSLays.lean', which tools/lay-shelf.mjs wrote): THE SAME DECLARATIONS UNDER THE SAME NAMES: 'import', 'namespace', 'open', 'def', 'theorem' AND NOTHING ELSE: no command of the shelf's: FOR A HAND-IN. Each laying: the table of numbers ('.._ren') and one theorem, a field a fact of the dump's own or the kernel's comparison; each contract: ONE APPLICATION.
-/
namespace Go.Proofs
open Go.Shelf
def Tryz.insl_ren : Go.Shelf.Ren := ⟨fun | 20 => 103 | n => n, fun | 24 => 41 | 22 => 22 | 3 => 3 | 25 => 50 | 4 => 4 | 0 => 0 | n => n, fun | n => n⟩
theorem Tryz.insl : Go.Proofs.SlLaysF0.n20 Tryz.prog Tryz.insl_ren := {
  mixed := by kernel_rfl
  f20 := ⟨Tryz.f103.name, by decide, Tryz.func103.trans (congrArg some (by kernel_rfl))⟩
  t0 := Tryz.underlying0
  a0 := Tryz.isAgg0
  z0 := Tryz.sizeOf0
  v0 := Tryz.zeroValue0
  t3 := Tryz.underlying3
  a3 := Tryz.isAgg3
  z3 := Tryz.sizeOf3
  v3 := Tryz.zeroValue3
  t4 := Tryz.underlying4
  a4 := Tryz.isAgg4
  z4 := Tryz.sizeOf4
  v4 := Tryz.zeroValue4
  t22 := Tryz.underlying22
  a22 := Tryz.isAgg22
  z22 := Tryz.sizeOf22
  v22 := Tryz.zeroValue22
  t25 := Tryz.underlying50
  a25 := Tryz.isAgg50
  z25 := Tryz.sizeOf50
  v25 := Tryz.zeroValue50 }
end Go.Proofs
end
section
/- The stable sort (slices.stableCmpFunc): runs of twenty by insertion, then merged in place. -/
namespace Go.Proofs.YtjhijinbpdnmeaaGreat
open Go.ChangeShapes Go.WideShapes Go.ChangeAt Go.RowKit Go.Shelf Go.Lib Go.Sort Go.Proofs
set_option linter.unusedVariables false
variable {α : Type} [Inhabited α]

theorem cmpLays_on {P : Program} {g : Nat} {cb : Array Value} {enc : α → List Value} {k : Nat} {cf : α → α → Int} {blk off size : Nat} {w0 W : World} {dk : Array α} (hcmp : CmpLays P g cb enc k cf blk off size w0) (hblk : blk < w0.heap.size) (hd : dk.size = size) (S : SWK enc k w0 blk off dk W) :
    CmpLays P g cb enc k cf blk off size W := fun m os d' hd' x y => by
  obtain ⟨n, os', hw⟩ := S.on hblk m d' os (hd'.trans hd.symm)
  rw [hw]
  exact hcmp n os' d' hd' x y

/-- One run put in order by insertion. -/
theorem insert_run (k : Nat) (aE : ∀ w, (isAgg 41).run Tryz.prog w = .ok true w) (zE : ∀ w, (Go.sizeOf 41).run Tryz.prog w = .ok k w) (enc : α → List Value) (cf : α → α → Int) (lt : α → α → Bool) (hS : SWO lt) (g : Nat) (cb : Array Value) (blk off cap : Nat) (d0 : Array α) (w0 : World)
    (eg : ∀ args w, (callFunc g args).run Tryz.prog w = .ok (.enter g args) w) (hcmp : CmpLays Tryz.prog g cb enc k cf blk off d0.size w0) (R : RowK enc k w0 blk off d0) (hsz : d0.size < 1152921504606846976)
    (xa xb : Int) (a b : Nat) (d : Array α) (w : World) (ea : xa = a) (eb : xb = b) (hs : d.size = d0.size) (S : SWK enc k w0 blk off d w) (hab : a ≤ b) (hb : b ≤ d0.size) (ha : ∀ i j, a ≤ i → i < j → j < b → ltOf cf d[j]! d[i]! = lt d[j]! d[i]!) :
    Calls Tryz.prog 103 #[.slice (some ⟨blk, off, none⟩) d0.size cap, .int .i64 xa, .int .i64 xb, .func (.func g) #[] cb] w (MergeTo lt enc k w0 blk off a b d) := by
  subst ea eb
  have hblk := R.hblk
  have h := AnyQ.insertionSortCmpFunc Tryz.insl k aE zE enc R.hk R.h1 cf g cb blk off cap a b d w eg (by rw [hs]; exact cmpLays_on hcmp hblk hs S) (S.holds hblk R.hH hs) (S.lt hblk) hab (by omega) (by omega)
  rw [hs] at h
  refine (show Calls Tryz.prog 103 _ _ _ from h).mono ?_
  rintro e w' ⟨rfl, n, os, rfl⟩
  have hm := insertion_merged hS hab (by omega) ha
  exact ⟨rfl, _, S.on hblk n _ os hm.1, hm⟩

set_option maxHeartbeats 8000000 in
set_option maxRecDepth 1000000 in
theorem stable_any (k : Nat) (aE : ∀ w, (isAgg 41).run Tryz.prog w = .ok true w) (zE : ∀ w, (Go.sizeOf 41).run Tryz.prog w = .ok k w) (enc : α → List Value) (cf : α → α → Int) (lt : α → α → Bool) (hS : SWO lt) (g : Nat) (cb : Array Value) (blk off cap : Nat) (d0 : Array α) (w0 : World)
    (eg : ∀ args w, (callFunc g args).run Tryz.prog w = .ok (.enter g args) w) (hcmp : CmpLays Tryz.prog g cb enc k cf blk off d0.size w0) (R : RowK enc k w0 blk off d0) (hsz : d0.size < 1152921504606846976)
    (ha : ∀ i j, i < j → j < d0.size → ltOf cf d0[j]! d0[i]! = lt d0[j]! d0[i]!) :
    Calls Tryz.prog 73 #[.slice (some ⟨blk, off, none⟩) d0.size cap, .int .i64 d0.size, .func (.func g) #[] cb] w0 (MergeTo lt enc k w0 blk off 0 d0.size d0) := by
  have S0 : Hid (SWK enc k w0 blk off d0 w0) := Lib.hid (SWK.start R.hH)
  have ins := insert_run k aE zE enc cf lt hS g cb blk off cap d0 w0 eg hcmp R hsz
  have mrg := fun N => (merges k aE zE enc cf lt hS g cb blk off cap d0 w0 eg hcmp R hsz N).at_
  have HA := Lib.hid ha
  have HSW := Lib.hid hS
  clear hcmp ha hS
  obtain ⟨n, hn⟩ : ∃ n, n = d0.size := ⟨_, rfl⟩
  rw [← hn] at hsz ins mrg ⊢
  have HN := Lib.hid hn
  have INS := Lib.hid ins
  have MRG := Lib.hid mrg
  clear hn ins mrg
  go_enter Tryz.func73, Tryz.ntmps73
  go_wp2
  go_loopg [7, 8] n (fun kx s7 s8 wr => ∃ (q : Nat) (dk : Array α), s7 = .int .i64 (20 * q : Nat) ∧ s8 = .int .i64 (20 * q + 20 : Nat) ∧ 20 * q ≤ n ∧ n - 20 * q ≤ kx ∧ Hid (SWK enc k w0 blk off dk wr) ∧ Hid (Runs lt (ltOf cf) 1 20 (20 * q) n d0 dk))
  case atStart => exact ⟨0, d0, rfl, rfl, by omega, by omega, S0, Lib.hid (by have := (done_start (lt := lt) (t := ltOf cf) (n := n) (d := d0) (fun i j h1 h2 => HA.out i j h1 (by rw [← HN.out]; exact h2))).runs 20; exact this)⟩
  case round =>
    clear S0
    obtain ⟨q, dk, rfl, rfl, hqn, hkx, S1, HR⟩ := hrel
    obtain ⟨a, hqa⟩ : ∃ a, a = 20 * q := ⟨_, rfl⟩
    rw [← hqa] at hqn hkx HR ⊢
    have hds : Hid (dk.size = n) := Lib.hid (HR.out.size.trans HN.out.symm)
    have hag : Hid (∀ i j, a ≤ i → i < j → j < n → ltOf cf dk[j]! dk[i]! = lt dk[j]! dk[i]!) := Lib.hid (fun i j h1 h2 h3 => HR.out.agr2 i j h2 h3 h1 (by simp; omega))
    by_cases hlt : a + 20 ≤ n
    · have HQ := Lib.hid hqa
      clear hqa
      have hin : Hid (20 * (q + 1) = a + 20) := Lib.hid (by have := HQ.out; omega)
      go_wp2_with (go_at_call 103; ((with_reducible refine (INS.out (a : Int) ((a : Int) + 20) a (a + 20) dk _ rfl (by omega) hds.out S1.out (by omega) (by omega) (fun i j h1 h2 h3 => hag.out i j h1 h2 (by omega))).mono ?_); rintro e w2 ⟨rfl, d2, S2', hm'⟩; have S2 := Lib.hid S2'; have hm := Lib.hid hm'; clear S2' hm'))
      have HR2 : Hid (Runs lt (ltOf cf) 1 20 (20 * (q + 1)) n d0 d2) := Lib.hid (by
        rw [hin.out]
        exact HR.out.step (q := q) (by omega) ⟨20, rfl⟩ HQ.out (.inl rfl) (by omega) (by omega) (by have := hds.out; omega) hm.out)
      go_roundg (n - (a + 20))
      case measure => omega
      case rel => exact ⟨q + 1, d2, by rw [hin.out]; go_num, by rw [hin.out]; go_num, by rw [hin.out]; omega, by rw [hin.out]; omega, S2, HR2⟩
    · have HQ := Lib.hid hqa
      clear hqa
      go_wp2_with (first
        | (go_at_call 103; ((with_reducible refine (INS.out (a : Int) (n : Int) a n dk _ rfl rfl hds.out S1.out (by omega) (by omega) (fun i j h1 h2 h3 => hag.out i j h1 h2 h3)).mono ?_); rintro e w2 ⟨rfl, d2, S2', hm'⟩; have S2 := Lib.hid S2'; have hm := Lib.hid hm'; clear S2' hm')))
      have HD : Hid (Done lt (ltOf cf) 20 n d0 d2) := Lib.hid (by
        have h := HR.out.step (q := q) (b := n) (by omega) ⟨20, rfl⟩ HQ.out (.inr ⟨rfl, by omega⟩) (by omega) (by omega) (by have := hds.out; omega) hm.out
        exact h.fin (q := q + 1) (by omega) (by omega) (by have := HQ.out; omega) (by omega) (.inr (by omega)))
      clear HR hag hm S1 HQ hds hlt hkx hqn
      go_loopg [6] n (fun kx s6 wr => ∃ (c : Nat) (dk : Array α), s6 = .int .i64 c ∧ 1 ≤ c ∧ c ≤ 2 * n + 20 ∧ n - c ≤ kx ∧ Hid (SWK enc k w0 blk off dk wr) ∧ Hid (Done lt (ltOf cf) c n d0 dk))
      case atStart => exact ⟨20, d2, rfl, by omega, by omega, by omega, S2, HD⟩
      case round =>
        clear S2 HD
        obtain ⟨c, dk, rfl, hc1, hc2, hkx, S1, HD⟩ := hrel
        by_cases hcn : c < n
        · go_wp2
          go_loopg [7, 8] n (fun ky s7 s8 wr => ∃ (q a : Nat) (dj : Array α), s7 = .int .i64 a ∧ s8 = .int .i64 ((a + 2 * c : Nat) : Int) ∧ Hid (a = c * 2 * q) ∧ a ≤ n ∧ n - a ≤ ky ∧ Hid (SWK enc k w0 blk off dj wr) ∧ Hid (Runs lt (ltOf cf) c (c * 2) a n d0 dj))
          case atStart => exact ⟨0, 0, dk, rfl, by rw [show ((0 + 2 * c : Nat) : Int) = 2 * (c : Int) by omega], Lib.hid (by rw [Nat.mul_zero]), by omega, by omega, S1, Lib.hid (HD.out.runs 2)⟩
          case round =>
            clear S1 HD
            obtain ⟨q, a, dj, rfl, rfl, HQ, han, hky, S1, HR⟩ := hrel
            have hds : Hid (dj.size = n) := Lib.hid (HR.out.size.trans HN.out.symm)
            by_cases hlt : a + 2 * c ≤ n
            · have hM : Hid (Mrg lt (ltOf cf) a (a + c) (a + 2 * c) dj) := Lib.hid (HR.out.mrg (q := q) (by omega) HQ.out (by omega) (by omega) hlt)
              have HQ2 : Hid (a + 2 * c = c * 2 * (q + 1)) := Lib.hid (by have := HQ.out; rw [Nat.mul_add, Nat.mul_one, ← this, Nat.mul_comm c 2])
              have hz : Hid (a + 2 * c ≤ n) := Lib.hid hlt
              go_wp2_with (go_at_call 104; ((with_reducible refine (MRG.out (n + 1) (a : Int) ((a : Int) + (c : Int)) ((a : Int) + 2 * (c : Int)) a (a + c) (a + 2 * c) dj _ rfl (by omega) (by omega) (by omega) hds.out S1.out (by omega) (by omega) hlt hM.out).mono ?_); rintro e w2 ⟨rfl, d2, S2', hm'⟩; have S2 := Lib.hid S2'; have hm := Lib.hid hm'; clear S2' hm'))
              have HR2 : Hid (Runs lt (ltOf cf) c (c * 2) (a + 2 * c) n d0 d2) := Lib.hid (by
                rw [Nat.mul_comm 2 c]
                exact HR.out.step (q := q) (b := a + 2 * c) (by omega) ⟨2, rfl⟩ HQ.out (.inl (by rw [Nat.mul_comm 2 c])) (by omega) hz.out (by have := hds.out; omega) hm.out)
              have hz2 := hz.out
              go_roundg (n - (a + 2 * c))
              case measure => omega
              case rel => exact ⟨q + 1, a + 2 * c, d2, by rw [show ((a + 2 * c : Nat) : Int) = (a : Int) + 2 * (c : Int) by omega], by rw [show ((a + 2 * c + 2 * c : Nat) : Int) = (a : Int) + 2 * (c : Int) + 2 * (c : Int) by omega], HQ2, hz2, by omega, S2, HR2⟩
            · by_cases hac : a + c < n
              · have hM : Hid (Mrg lt (ltOf cf) a (a + c) n dj) := Lib.hid (HR.out.mrg (q := q) (by omega) HQ.out (by omega) (by omega) (Nat.le_refl _))
                have HQ2 : Hid (a + c * 2 = c * 2 * (q + 1)) := Lib.hid (by have := HQ.out; rw [Nat.mul_add, Nat.mul_one, ← this])
                go_wp2_with (go_at_call 104; ((with_reducible refine (MRG.out (n + 1) (a : Int) ((a : Int) + (c : Int)) (n : Int) a (a + c) n dj _ rfl (by omega) rfl (by omega) hds.out S1.out (by omega) hac (Nat.le_refl _) hM.out).mono ?_); rintro e w2 ⟨rfl, d2, S2', hm'⟩; have S2 := Lib.hid S2'; have hm := Lib.hid hm'; clear S2' hm'))
                have HD2 : Hid (Done lt (ltOf cf) (c * 2) n d0 d2) := Lib.hid (by
                  have h := HR.out.step (q := q) (b := n) (by omega) ⟨2, rfl⟩ HQ.out (.inr ⟨rfl, by omega⟩) (by omega) (Nat.le_refl _) (by have := hds.out; omega) hm.out
                  exact h.fin (q := q + 1) (by omega) (by omega) HQ2.out (by omega) (.inr (by omega)))
                go_roundg (n - c * 2)
                case measure => omega
                case rel => exact ⟨c * 2, d2, by go_num, by omega, by omega, Nat.le_refl _, S2, HD2⟩
              · have HD2 : Hid (Done lt (ltOf cf) (c * 2) n d0 dj) := Lib.hid (HR.out.fin (q := q) (by omega) (by omega) HQ.out (by omega) (.inl rfl))
                go_wp2
                go_roundg (n - c * 2)
                case measure => omega
                case rel => exact ⟨c * 2, dj, by go_num, by omega, by omega, Nat.le_refl _, S1, HD2⟩
        · go_wp2
          go_end0
          exact ⟨rfl, dk, S1.out, HD.out.size, HD.out.perm, HD.out.whole (by omega)⟩
end Go.Proofs.YtjhijinbpdnmeaaGreat
end
section
/- What is sorted, and stays where it stood among its likes, is one list alone. No walk. -/
namespace Go.Proofs.YtjhijinbpdnmeaaGreat
open Go.Sort Go.Proofs
set_option linter.unusedVariables false

theorem cmpI_rng (a b : Int) : cmpI a b = -1 ∨ cmpI a b = 0 ∨ cmpI a b = 1 := by
  rcases cmpI_cases a b with ⟨_, e⟩ | ⟨_, e⟩ | ⟨_, e⟩ <;> simp [e]
/-- x stands ahead of y. -/
theorem cmpL_neg (x y : Lt) : cmpL x y < 0 ↔ x.un < y.un ∨ (x.un = y.un ∧ x.id < y.id) := by
  unfold cmpL
  rcases cmpI_cases x.un y.un with ⟨h, e⟩ | ⟨h, e⟩ | ⟨h, e⟩ <;> rcases cmpI_cases x.id y.id with ⟨h', e'⟩ | ⟨h', e'⟩ | ⟨h', e'⟩ <;> rw [e, e'] <;> simp <;> omega
theorem cmpL_zero (x y : Lt) : cmpL x y = 0 ↔ x.un = y.un ∧ x.id = y.id := by
  unfold cmpL
  rcases cmpI_cases x.un y.un with ⟨h, e⟩ | ⟨h, e⟩ | ⟨h, e⟩ <;> rcases cmpI_cases x.id y.id with ⟨h', e'⟩ | ⟨h', e'⟩ | ⟨h', e'⟩ <;> rw [e, e'] <;> simp <;> omega
theorem cmpL_pos (x y : Lt) : 0 < cmpL x y ↔ y.un < x.un ∨ (y.un = x.un ∧ y.id < x.id) := by
  unfold cmpL
  rcases cmpI_cases x.un y.un with ⟨h, e⟩ | ⟨h, e⟩ | ⟨h, e⟩ <;> rcases cmpI_cases x.id y.id with ⟨h', e'⟩ | ⟨h', e'⟩ | ⟨h', e'⟩ <;> rw [e, e'] <;> simp <;> omega
theorem cmpL_rng (x y : Lt) : cmpL x y = -1 ∨ cmpL x y = 0 ∨ cmpL x y = 1 := by
  unfold cmpL
  rcases cmpI_cases x.un y.un with ⟨h, e⟩ | ⟨h, e⟩ | ⟨h, e⟩ <;> rcases cmpI_cases x.id y.id with ⟨h', e'⟩ | ⟨h', e'⟩ | ⟨h', e'⟩ <;> rw [e, e'] <;> simp

abbrev Ix := Lt × Nat
def cfP (p q : Ix) : Int := cmpL p.1 q.1
def ltP (p q : Ix) : Bool := decide (cmpL p.1 q.1 < 0 ∨ (cmpL p.1 q.1 = 0 ∧ p.2 < q.2))
theorem ltP_true {p q : Ix} : ltP p q = true ↔ p.1.un < q.1.un ∨ (p.1.un = q.1.un ∧ (p.1.id < q.1.id ∨ (p.1.id = q.1.id ∧ p.2 < q.2))) := by
  unfold ltP
  rw [decide_eq_true_iff, cmpL_neg, cmpL_zero]
  omega
theorem ltP_false {p q : Ix} : ltP p q = false ↔ ¬ (p.1.un < q.1.un ∨ (p.1.un = q.1.un ∧ (p.1.id < q.1.id ∨ (p.1.id = q.1.id ∧ p.2 < q.2)))) := by
  rw [← ltP_true]; simp
theorem swoP : SWO ltP where
  irrefl x := by rw [ltP_false]; omega
  trans x y z h1 h2 := by rw [ltP_true] at *; omega
  ntrans x y z h1 h2 := by rw [ltP_false] at *; omega

/-- out is l, sorted, likes as they stood. -/
def Stab (l out : List Lt) : Prop := ∃ P : List Ix, P.map Prod.fst = out ∧ P.Perm l.zipIdx ∧ P.Pairwise (fun p q => ltP q p = false)
theorem Stab.perm {l out : List Lt} (h : Stab l out) : out.Perm l := by
  obtain ⟨P, rfl, h2, _⟩ := h
  have := h2.map Prod.fst
  rwa [List.zipIdx_map_fst] at this
theorem Stab.length {l out : List Lt} (h : Stab l out) : out.length = l.length := h.perm.length_eq
theorem zip_inj {l : List Lt} {p q : Ix} (hp : p ∈ l.zipIdx) (hq : q ∈ l.zipIdx) (h : p.2 = q.2) : p = q := by
  have h1 := List.mem_zipIdx_iff_getElem?.1 hp
  have h2 := List.mem_zipIdx_iff_getElem?.1 hq
  rw [h, h2] at h1
  exact Prod.ext (Option.some.inj h1).symm h
theorem Stab.unique {l o1 o2 : List Lt} (h1 : Stab l o1) (h2 : Stab l o2) : o1 = o2 := by
  obtain ⟨P, rfl, p1, s1⟩ := h1
  obtain ⟨Q, rfl, p2, s2⟩ := h2
  have e : P = Q := List.Perm.eq_of_pairwise (le := fun p q => ltP q p = false) (fun a b ha hb hab hba => by
    refine zip_inj (p1.mem_iff.1 ha) (p2.mem_iff.1 hb) ?_
    rw [ltP_false] at hab hba
    omega) s1 s2 (p1.trans p2.symm)
  rw [e]
theorem stab_nil : Stab [] [] := ⟨[], rfl, List.Perm.refl _, List.Pairwise.nil⟩
/-- What is sorted is sorted. -/
theorem Stab.pairs {l out : List Lt} (h : Stab l out) : out.Pairwise (fun a b => cmpL a b ≤ 0) := by
  obtain ⟨P, rfl, _, s⟩ := h
  rw [List.pairwise_map]
  refine s.imp fun {p q} hpq => ?_
  rw [ltP_false] at hpq
  have := cmpL_pos p.1 q.1
  omega
theorem stab_self {out : List Lt} (h : out.Pairwise (fun a b => cmpL a b ≤ 0)) : Stab out out := by
  refine ⟨out.zipIdx, List.zipIdx_map_fst _ _, List.Perm.refl _, ?_⟩
  rw [List.pairwise_iff_getElem] at h ⊢
  intro i j hi hj hij
  rw [List.getElem_zipIdx, List.getElem_zipIdx, ltP_false]
  have h1 := h i j (by simpa using hi) (by simpa using hj) hij
  have h2 := cmpL_pos (out[i]'(by simpa using hi)) (out[j]'(by simpa using hj))
  simp only
  omega

/-- The rows that the sort works on. -/
def rowOf (l : List Lt) : Array Ix := l.zipIdx.toArray
theorem rowOf_size (l : List Lt) : (rowOf l).size = l.length := by simp [rowOf]
theorem rowOf_agree (l : List Lt) : ∀ i j, i < j → j < (rowOf l).size → ltOf cfP (rowOf l)[j]! (rowOf l)[i]! = ltP (rowOf l)[j]! (rowOf l)[i]! := fun i j hij hj => by
  rw [rowOf_size] at hj
  have g : ∀ k, k < l.length → ((rowOf l)[k]!).2 = k := fun k hk => by
    rw [getElem!_pos (rowOf l) k (by rw [rowOf_size]; exact hk)]
    simp [rowOf]
  unfold ltP ltOf cfP
  rw [g j hj, g i (by omega)]
  congr 1
  apply propext
  constructor
  · exact .inl
  · rintro (h | h)
    · exact h
    · omega
theorem stab_of {l : List Lt} {d : Array Ix} (hp : PermIn 0 (rowOf l).size (rowOf l) d) (hs : SortedIn ltP 0 (rowOf l).size d) : Stab l (d.toList.map Prod.fst) := by
  have hz := hp.1
  refine ⟨d.toList, rfl, ?_, ?_⟩
  · have h := hp.2.2
    rw [← hz, Array.extract_size, hz, Array.extract_size] at h
    exact h
  · rw [List.pairwise_iff_getElem]
    intro i j hi hj hij
    have h := hs i j (Nat.zero_le _) hij (by rw [← hz]; simpa using hj)
    rw [getElem!_pos d i (by simpa using hi), getElem!_pos d j (by simpa using hj)] at h
    simpa using h
end Go.Proofs.YtjhijinbpdnmeaaGreat
end
section
/- slices.Values over lots: the iterator's contract. -/
namespace Go.Proofs.YtjhijinbpdnmeaaGreat
open Go.RowKit Go.Shelf
set_option linter.unusedVariables false
attribute [local go_sem] Oper.semAt_some

theorem abides_alloc {β : Type} {B : Nat} {J : β → World → Prop} (h : AbidesFrom B J) {s : β} {W : World} (o : Obj) (hs : J s W) : J s (W.alloc o) :=
  h s W _ none hs (World.grownBy_alloc W o none) (fun r e => by cases e)

set_option maxRecDepth 100000 in
set_option maxHeartbeats 2000000 in
theorem values1_in (F : Fence) (n : Nat) (h7 : F.fn 42) (hro : F.round = none) (hn : 1 ≤ n) (l Bs n₀ B cap : Nat) (A : Option Addr) (zs : List Lt) (hlen : zs.length ≤ 140737488355328) (J Jx : List Lt → World → Prop) (hJ : AbidesFrom B J)
    (hY : ∀ pre x W, J pre W → pre.length < zs.length → YieldAt F (n - 1) Tryz.prog l #[aggL x] W fun e W' =>
      (e = .returned (.bool true) ∧ J (pre ++ [x]) W' ∧ Below n₀ W W') ∨ (e = .returned (.bool false) ∧ Jx (pre ++ [x]) W'))
    (W : World) (hBs : W.cell? ⟨Bs, 0, none⟩ = some (.slice A zs.length cap)) (hl : Lies W n₀ A (lcells zs)) (hn₀ : n₀ ≤ W.heap.size) (h0 : J [] W) :
    CallsIn F n Tryz.prog 42 #[.func (.yield l) #[] #[], .pointer (some ⟨Bs, 0, none⟩)] W fun e W' => (∃ v, e = .returned v) ∧
      ((∃ ys, ys = zs ∧ J ys W') ∨ (∃ pre, pre <+: zs ∧ Jx pre W')) := by
  refine callsIn_of_wp Tryz.func42 rfl h7 ?_ hro
  simp only [Tryz.ntmps42, List.size_toArray, List.length_cons, List.length_nil, Nat.reduceAdd, Nat.reduceSub, Array.replicate_succ, Array.replicate_zero, List.push_toArray, List.append_toArray, List.nil_append, List.cons_append]
  have HJ := Lib.hid hJ
  have HY := Lib.hid hY
  have HL := Lib.hid hl
  clear hJ hY hl
  gi_wp2
  gi_loopw [7] (fun i wr => ∃ k : Nat, k ≤ zs.length ∧ i = .int .i64 k ∧ Hid (J (zs.take k) wr) ∧ Hid (Below n₀ W wr) ∧ n₀ ≤ wr.heap.size)
    (fun i _ => zs.length - (intOf i).toNat)
  case atStart => exact ⟨0, Nat.zero_le _, rfl, Lib.hid h0, Lib.hid (Below.refl _ _), hn₀⟩
  case round =>
    obtain ⟨k, hk, rfl, HJs, HB, hnr⟩ := hrel
    by_cases hlt : k < zs.length
    · obtain ⟨x, hx⟩ : ∃ x, zs[k]? = some x := ⟨_, List.getElem?_eq_getElem hlt⟩
      obtain ⟨ad, rfl, hab, hc0, hc1, hc2, hc3, hc4, hc5⟩ := (HL.out.below HB.out).six hx
      have hja := abides_alloc (o := .cells #[.int .i64 x.id, .string ⟨x.item.toArray⟩, .int .i64 x.fr, .int .i64 x.un, .int .i64 x.qty, .bool x.arr] 41) HJ.out HJs.out
      obtain ⟨fn, tmps, assign, body, hy, hR⟩ := HY.out _ x _ hja (by rw [List.length_take]; omega)
      have hba : Hid (Below n₀ W (wr.alloc (.cells #[.int .i64 x.id, .string ⟨x.item.toArray⟩, .int .i64 x.fr, .int .i64 x.un, .int .i64 x.qty, .bool x.arr] 41))) := Lib.hid (HB.out.alloc hnr _)
      have htk : Hid (zs.take (k + 1) = zs.take k ++ [x]) := Lib.hid (by rw [List.take_add_one, hx]; rfl)
      have HR := Lib.hid hR
      clear hR hja hx
      dsimp only [aggL, strV] at hy
      gi_wp2
      refine HR.out.mono ?_
      rintro e W3 (⟨rfl, hJ3', hk3'⟩ | ⟨rfl, hJx3⟩)
      · have hJ3 := Lib.hid hJ3'
        have hk3 := Lib.hid hk3'
        have hn3 : n₀ ≤ W3.heap.size := by have := hk3'.size; simp only [World.size_alloc] at this; omega
        clear hJ3' hk3' hy
        gi_wp2
        go_roundw
        case rel => exact ⟨k + 1, by omega, by simp, Lib.hid (by rw [htk.out]; exact hJ3.out), Lib.hid (hba.out.trans hk3.out), hn3⟩
        case measure => simp [intOf]; omega
      · have hJx4 := Lib.hid hJx3
        clear hJx3 hy
        gi_wp2
        refine bodyPost_ret (results_none rfl _ _ _) rfl ?_
        exact ⟨⟨_, rfl⟩, .inr ⟨_, by rw [← htk.out]; exact List.take_prefix _ _, hJx4.out⟩⟩
    · obtain rfl : k = zs.length := by omega
      gi_wp2
      go_end0
      exact ⟨⟨_, rfl⟩, .inl ⟨_, rfl, by have := HJs.out; rwa [List.take_length] at this⟩⟩

set_option maxHeartbeats 1000000 in
theorem values_in (F : Fence) (n : Nat) (h5 : F.fn 25) (hro : F.round = none) (A : Option Addr) (len cap : Nat) (w : World) :
    CallsIn F n Tryz.prog 25 #[.slice A len cap] w fun e w' => e = .returned (.func (.func 42) #[] #[.pointer (some ⟨w.heap.size, 0, none⟩)]) ∧ w' = w.alloc (.cells #[.slice A len cap] 22) := by
  refine callsIn_of_wp Tryz.func25 rfl h5 ?_ hro
  simp only [Tryz.ntmps25, List.size_toArray, List.length_cons, List.length_nil, Nat.reduceAdd, Nat.reduceSub, Array.replicate_succ, Array.replicate_zero, List.push_toArray, List.append_toArray, List.nil_append, List.cons_append]
  gi_wp2
  go_ret
  exact ⟨rfl, rfl⟩

theorem values_stops (F : Fence) (n : Nat) (h7 : F.fn 42) (hro : F.round = none) (hn : 1 ≤ n) (Bs n₀ cap : Nat) (A : Option Addr) (zs : List Lt) (hlen : zs.length ≤ 140737488355328) (w : World) (hBs : Bs < w.heap.size) (hn₀ : n₀ ≤ w.heap.size)
    (hc : w.cell? ⟨Bs, 0, none⟩ = some (.slice A zs.length cap)) (hl : Lies w n₀ A (lcells zs)) :
    SeqStopsK F n Tryz.prog 42 #[.pointer (some ⟨Bs, 0, none⟩)] (fun x : Lt => #[aggL x]) (Below n₀) (fun ys => ys = zs) (fun pre => pre <+: zs) zs.length w := fun l J Jx W hW hJ _ hY h0 =>
  values1_in F n h7 hro hn l Bs n₀ W.heap.size cap A zs hlen J Jx hJ hY W ((hW.cell (p := ⟨Bs, 0, none⟩) hBs).trans hc) (hl.below (hW.mono hn₀)) (Nat.le_trans hn₀ hW.size) h0
end Go.Proofs.YtjhijinbpdnmeaaGreat
end
section
/- slices.AppendSeq, Collect over an iterator of lots. -/
namespace Go.Proofs.YtjhijinbpdnmeaaGreat
open Go.RowKit Go.Shelf
set_option linter.unusedVariables false
attribute [local go_sem] Oper.semAt_some

theorem infoLot : (Tryz.prog.info? 41).map (fun i => (i.zero, i.size, i.bytes)) = some (some (.agg #[.int .i64 0, .string ⟨#[]⟩, .int .i64 0, .int .i64 0, .int .i64 0, .bool false]), 6, 56) := by kernel_rfl

/-- A block that holds one lot. -/
def Box6 (W : World) (B : Nat) (x : Lt) : Prop := W.heap[B]? = some (.cells #[.int .i64 x.id, .string ⟨x.item.toArray⟩, .int .i64 x.fr, .int .i64 x.un, .int .i64 x.qty, .bool x.arr] 41 (0, 0))
theorem Box6.new (W : World) (x : Lt) : Box6 (W.alloc (.cells #[.int .i64 x.id, .string ⟨x.item.toArray⟩, .int .i64 x.fr, .int .i64 x.un, .int .i64 x.qty, .bool x.arr] 41)) W.heap.size x := World.alloc_heap_new W _
theorem Box6.lt {W : World} {B : Nat} {x : Lt} (h : Box6 W B x) : B < W.heap.size := (Array.getElem?_eq_some_iff.1 h).1
theorem Box6.cells {W : World} {B : Nat} {x : Lt} (h : Box6 W B x) : W.cell? ⟨B, 0, none⟩ = some (.int .i64 x.id) ∧ W.cell? ⟨B, 1, none⟩ = some (.string ⟨x.item.toArray⟩) ∧ W.cell? ⟨B, 2, none⟩ = some (.int .i64 x.fr) ∧
    W.cell? ⟨B, 3, none⟩ = some (.int .i64 x.un) ∧ W.cell? ⟨B, 4, none⟩ = some (.int .i64 x.qty) ∧ W.cell? ⟨B, 5, none⟩ = some (.bool x.arr) := by
  unfold Box6 at h
  refine ⟨?_, ?_, ?_, ?_, ?_, ?_⟩ <;> rw [cell_of_row _ _ _ _ _ _ h] <;> rfl
theorem box6_own {β : Type} (B : Nat) (x : Lt) : Own (fun (_ : β) W => Box6 W B x) := fun s X Y row hs hg hrow => by
  refine (hg.block B hs.lt (fun e' => ?_)).trans hs
  obtain ⟨o, ho, hc⟩ := hrow B e'.symm
  rw [show X.heap[B]? = _ from hs] at ho; cases ho; cases hc

theorem six_new (W : World) (x : Lt) (t : TypeId) : ∀ (j : Nat) (u : Value), (encL x)[j]? = some u → (W.alloc (.cells #[.int .i64 x.id, .string ⟨x.item.toArray⟩, .int .i64 x.fr, .int .i64 x.un, .int .i64 x.qty, .bool x.arr] t)).cell? ((⟨W.heap.size, 0, none⟩ : Addr).add j) = some u := by
  intro j u h
  rw [fresh_cell, ← h, ← Array.getElem?_toList]
  rfl

/-- What a collection leaves. -/
def Collected (w : World) (zs : List Lt) (e : Ending) (w' : World) : Prop := ∃ v, e = .returned v ∧ w'.ownsRow w.heap.size 41 6 v zs.length (lcells zs) ∧ (v = .slice none 0 0 ↔ zs = []) ∧ Below w.heap.size w w'

set_option maxRecDepth 100000 in
set_option maxHeartbeats 4000000 in
theorem appendSeq_in (F : Fence) (n : Nat) (h3 : F.fn 72) (hro : F.round = none) (hn : 3 ≤ n) (g : Nat) (lb : Array Value) (hFg : F.fn g) (eg : ∀ args w, (callFunc g args).run Tryz.prog w = .ok (.enter g args) w)
    (n₀ : Nat) (zs : List Lt) (hlen : zs.length * 56 ≤ 140737488355328) (Sp : List Lt → Prop) (w : World) (hn₀ : n₀ ≤ w.heap.size) (hseq : SeqStopsK F (n - 1) Tryz.prog g lb (fun x : Lt => #[aggL x]) (Below n₀) (fun ys => ys = zs) Sp zs.length w) :
    CallsIn F n Tryz.prog 72 #[.slice none 0 0, .func (.func g) #[] lb] w (Collected w zs) := by
  have h1 : 1 ≤ n := by omega
  obtain ⟨i0, hi, hz0, hz1, hz2⟩ := info_parts infoLot
  refine callsIn_of_wp_marks Tryz.func72 rfl h3 ?_ hro
  simp only [Tryz.ntmps72, List.size_toArray, List.length_cons, List.length_nil, Nat.reduceAdd, Nat.reduceSub, Array.replicate_succ, Array.replicate_zero, List.push_toArray, List.append_toArray, List.nil_append, List.cons_append]
  gi_wp2
  have bO := Boxed.new w 22 (.slice none 0 0)
  have hB0 : Below w.heap.size w (w.alloc (.cells #[.slice none 0 0] 22)) := (Below.refl _ w).alloc (Nat.le_refl _) _
  refine wpIn_rangeFunc_ownH hro h1 (gf := g) (lb := lb) rfl hFg eg hseq belowK_t (belowK_b (by simp; omega)) hB0 (fun _ => rfl)
    (fun pre W => (∃ v, Boxed W w.heap.size 22 v ∧ W.ownsRow w.heap.size 41 6 v pre.length (lcells pre) ∧ (v = .slice none 0 0 ↔ pre = [])) ∧ Below w.heap.size w W)
    (fun _ _ _ => False)
    (OwnFrom.and (Own.from (holdsRow_own w.heap.size w.heap.size 22 41 6 (fun pre => pre.length) (fun pre => lcells pre) (fun pre v => v = .slice none 0 0 ↔ pre = [])) _) (ownFrom_below (Nat.le_refl _) (by simp)))
    (fun _ _ _ _ _ hs _ _ => hs)
    ⟨⟨_, bO, World.ownsRow_nil _ _ _ _, by simp⟩, hB0⟩
    (fun x a' W => ∃ Bx, Box6 W Bx x ∧ a' = { tmps := #[.slice none 0 0, .func (.func g) #[] lb, .pointer (some ⟨w.heap.size, 0, none⟩), undef, .slice none 0 0, .pointer (some ⟨Bx, 0, none⟩), .func (.func g) #[] lb, aggL x, undef, undef, undef, undef, undef], defers := [] })
    (fun x a' => by
      rintro s X Y row ⟨Bx, hbx, rfl⟩ hg hr
      exact ⟨Bx, (box6_own (β := Unit) Bx x) s X Y row hbx hg (fun r e => (hr r e).2), rfl⟩) ?assign ?body ?done ?stop
  case assign =>
    rintro l pre x W K ⟨⟨v, hv, hrow, hnil⟩, hB⟩ hK
    gi_wp2
    exact hK _ _ ((KeepsOthers.alloc _ _).from _) ((Below.refl _ W).alloc (Nat.le_trans hn₀ hB.size) _) ⟨⟨v, hv.alloc _, hrow.alloc _, hnil⟩, hB.alloc hB.size _⟩ ⟨W.heap.size, Box6.new W x, rfl⟩
  case body =>
    rintro l pre x a' W hl hlr ⟨⟨v, hv, hrow, hnil⟩, hB⟩ ⟨Bx, hbx, rfl⟩ hlt
    have hc := hv.cell
    obtain ⟨c0, c1, c2, c3, c4, c5⟩ := hbx.cells
    gi_wp2_with (gi_at_builtin; refine wpListIn_append_own _ rfl _ _ 22 rfl w.heap.size 41 i0 _ 6 56 Tryz.underlying22 hi hz0 hz1 hz2 rfl (by decide) _ _ _ rfl (hrow.alloc _) ⟨W.heap.size, 0, none⟩ 1 1 (encL x) rfl rfl (six_new W x _) (encL_one x) (by unfold maxLen; omega) (by omega) (by have := hB.size; simp; omega) ?_; intro v' w1 hown' hgrow _; obtain ⟨g', cap', rfl⟩ := ownsRow_succ hown'; obtain ⟨hv1, hv2, hr2, hk2, hb2⟩ := hv.appended (by decide) hrow hB.size (Nat.le_refl _) hown' hgrow; have hc1 := hv1.cell; have hf1 := hv1.frozen)
    exact ⟨hk2.from _, hb2.mono hn₀, ⟨_, hv2, by rw [lcells_append]; simpa [lcells] using hr2, by simp⟩, hB.trans hb2⟩
  case done =>
    rintro D ys W hD rfl ⟨⟨v, hv, hrow, hnil⟩, hB⟩ hK
    have hc := hv.cell
    gi_wp2
    refine ⟨by simp, .inl ⟨_, _, rfl, run_takeDeferred hK, ?_⟩⟩
    exact ⟨_, results_tmp rfl _ _ _, v, rfl, ownsRow_putObj hrow _ hK rfl, hnil, hB.trans (belowK_b (w := w) (Nat.le_refl _) W D _ _ (by simp at hD; omega) hK rfl rfl)⟩
  case stop =>
    rintro D c pre W _ _ h _
    exact h.elim

set_option maxHeartbeats 1000000 in
theorem collect_in (F : Fence) (n : Nat) (h2 : F.fn 40) (h3 : F.fn 72) (hro : F.round = none) (hn : 4 ≤ n) (g : Nat) (lb : Array Value) (hFg : F.fn g) (eg : ∀ args w, (callFunc g args).run Tryz.prog w = .ok (.enter g args) w)
    (n₀ : Nat) (zs : List Lt) (hlen : zs.length * 56 ≤ 140737488355328) (Sp : List Lt → Prop) (w : World) (hn₀ : n₀ ≤ w.heap.size) (hseq : SeqStopsK F (n - 1 - 1) Tryz.prog g lb (fun x : Lt => #[aggL x]) (Below n₀) (fun ys => ys = zs) Sp zs.length w) :
    CallsIn F n Tryz.prog 40 #[.func (.func g) #[] lb] w (Collected w zs) := by
  have h1 : 1 ≤ n := by omega
  have HA := appendSeq_in F (n - 1) h3 hro (by omega) g lb hFg eg n₀ zs hlen Sp w hn₀ hseq
  refine callsIn_of_wp Tryz.func40 rfl h2 ?_ hro
  simp only [Tryz.ntmps40, List.size_toArray, List.length_cons, List.length_nil, Nat.reduceAdd, Nat.reduceSub, Array.replicate_succ, Array.replicate_zero, List.push_toArray, List.append_toArray, List.nil_append, List.cons_append]
  gi_wp2_with (gi_at_call 72; refine HA.mono ?_; rintro e w' ⟨v, rfl, hrow, hnil, hb⟩)
  go_ret
  exact ⟨v, rfl, hrow, hnil, hb⟩
end Go.Proofs.YtjhijinbpdnmeaaGreat
end
