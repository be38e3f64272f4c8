/- Texts of this proof, one behind the other. -/
import Derived.Maps.AppendAt
import Derived.Test.YtkdcpnbfeagggaaRows
import Derived.Deep.Slices
import Derived.Deep.Fields
import Derived.ChangeSame
import Derived.SizedLaws
import Derived.OpenShut
import Derived.Test.YtkdcpnbfeagggaaA05
section
/- storemankit.SameTexts; storemanlaw07.great, four, among, item. -/
namespace Go.Proofs.Ytkdcpnbfeagggaa
namespace Kt
open Go.ChangeShapes Go.WideShapes Go.ChangeAt Go.RowKit Go.Maps Go.Shelf
set_option linter.unusedVariables false

set_option maxHeartbeats 1000000 in
theorem sameT_any (l m : List (List UInt8)) (v1 v2 : Value) (w : World) (h1 : TSl w w.heap.size v1 l) (h2 : TSl w w.heap.size v2 m) (hl : l.length ≤ 1099511627776) (hm : m.length ≤ 1099511627776) :
    Calls Try.prog 14 #[v1, v2] w fun e w' => e = .returned (.bool (decide (l = m))) ∧ Go.RowKit.Below w.heap.size w w' := by
  obtain ⟨A, c, rfl, hc1, hc2, _, hl1⟩ := id h1
  obtain ⟨A', c', rfl, hc1', hc2', _, hl1'⟩ := id h2
  have H1 := Lib.hid hl1
  have H2 := Lib.hid hl1'
  clear hl1 hl1' h1 h2
  by_cases hlen : l.length = m.length
  · have hn1 : (decide ((l.length : Int) = (m.length : Int))) = true := by simp [hlen]
    have hb1 : ((l.length : Int) == (m.length : Int)) = true := by simp [hlen]
    have hb2 : ((l.length : Int) != (m.length : Int)) = false := by simp [hlen]
    have hle1 : l.length ≤ m.length := by omega
    have hle2 : m.length ≤ l.length := by omega
    have HLEN := Lib.hid hlen
    clear hlen
    go_enter Try.func14, Try.ntmps14
    go_wp2
    clear hn1 hb1 hb2
    go_loopw [5] (fun i wr => ∃ k : Nat, k ≤ l.length ∧ i = .int .i64 k ∧ Hid (Go.RowKit.Below w.heap.size w wr) ∧ Hid (l.take k = m.take k)) (fun i _ => l.length - (intOf i).toNat)
    case atStart => exact ⟨0, Nat.zero_le _, rfl, Lib.hid (Below.refl _ _), Lib.hid rfl⟩
    case round =>
      obtain ⟨k, hk, rfl, HB, HTK⟩ := hrel
      by_cases hlt : k < l.length
      · obtain ⟨p, hp⟩ : ∃ p, l[k]? = some p := ⟨_, List.getElem?_eq_getElem hlt⟩
        obtain ⟨q, hq⟩ : ∃ q, m[k]? = some q := ⟨_, List.getElem?_eq_getElem (by omega)⟩
        obtain ⟨ap, rfl, _, hp0⟩ := (H1.out.below HB.out).get (u := strV p) (j := k) (by unfold tcells; simp [hp])
        obtain ⟨aq, rfl, _, hq0⟩ := (H2.out.below HB.out).get (u := strV q) (j := k) (by unfold tcells; simp [hq])
        have HP := Lib.hid hp
        have HQ := Lib.hid hq
        clear hp hq
        have hltm : k < m.length := by omega
        by_cases hpq : p = q
        · subst hpq
          go_wp2
          go_quiet (fail)
          go_wp2
          go_roundw
          case rel => exact ⟨k + 1, by omega, by go_num, Lib.hid (below_draws HB.out _), Lib.hid (by rw [List.take_add_one, List.take_add_one, HTK.out, HP.out, HQ.out])⟩
          case measure => simp [intOf]; omega
        · have hbe : (p == q) = false := beq_eq_false_iff_ne.2 hpq
          have HPQ := Lib.hid hpq
          clear hpq
          go_wp2
          go_quiet (fail)
          go_wp2
          go_ret
          refine ⟨Cd.ret_bool ?_, below_draws HB.out _⟩
          symm
          simp only [decide_eq_false_iff_not]
          intro e
          subst e
          exact HPQ.out (Option.some.inj (HP.out.symm.trans HQ.out))
      · obtain rfl : k = l.length := by omega
        go_wp2
        go_ret
        refine ⟨Cd.ret_bool ?_, HB.out⟩
        have h := HTK.out
        rw [List.take_of_length_le (Nat.le_refl _), List.take_of_length_le (by omega)] at h
        simp [h]
  · have hb1 : ((l.length : Int) == (m.length : Int)) = false := by simp; omega
    have hb2 : ((l.length : Int) != (m.length : Int)) = true := by simp; omega
    have HLEN := Lib.hid hlen
    clear hlen
    go_enter Try.func14, Try.ntmps14
    go_wp2
    go_ret
    refine ⟨Cd.ret_bool ?_, Below.refl _ _⟩
    symm
    simp only [decide_eq_false_iff_not]
    rintro rfl
    exact HLEN.out rfl

/-- Items of any size. -/
def BigI (l : List Iv) : Prop := ∀ x ∈ l, x.it.code.length ≤ maxLen ∧ Sized x.it.parts ∧ x.it.parts.length ≤ 140737488355328 ∧ x.others.length ≤ 140737488355328
/-- Whether there are more items than are gone through: if not, they are few, with few parts. -/
def FewI (l : List Iv) : Prop := ∀ x ∈ l, x.it.parts.length ≤ 4000 ∧ x.others.length ≤ 4000
def Few (l : List Iv) (w : World) (e : Ending) (w' : World) : Prop := ∃ b : Bool, e = .returned (.bool b) ∧ Go.RowKit.Below w.heap.size w w' ∧ (b = false → l.length ≤ 70 ∧ FewI l)
end Kt
end Go.Proofs.Ytkdcpnbfeagggaa
end
section
/- storemanlaw07.great. -/
namespace Go.Proofs.Ytkdcpnbfeagggaa
namespace Kt
open Go.ChangeShapes Go.WideShapes Go.ChangeAt Go.RowKit Go.Maps Go.Shelf
set_option linter.unusedVariables false
theorem few_succ {l : List Iv} {k : Nat} {x : Iv} {n : Int} (hx : l[k]? = some x) (h : n ≤ 4000 → FewI (l.take k)) (hn : n ≤ 4000 → x.it.parts.length ≤ 4000 ∧ x.others.length ≤ 4000) : n ≤ 4000 → FewI (l.take (k + 1)) := by
  intro h0 y hy
  rw [List.take_add_one, hx] at hy
  simp only [Option.toList, List.mem_append, List.mem_singleton] at hy
  rcases hy with hy | rfl
  · exact h h0 y hy
  · exact hn h0
set_option maxHeartbeats 1000000 in
theorem great_any (v : Value) (l : List Iv) (w : World) (hv : ISl w w.heap.size v l) (hs : BigI l) (hlen : l.length ≤ 140737488355328) :
    Calls Try.prog 4 #[v] w (Few l w) := by
  obtain ⟨⟨A, c, rfl, hc1, hc2, hcz, hl⟩, hsub⟩ := id hv
  have HL := Lib.hid hl
  have HU := Lib.hid hsub
  have HS : Hid (BigI l) := Lib.hid hs
  clear hl hsub hv hs
  go_enter Try.func4, Try.ntmps4
  go_wp2
  go_loopw [3, 4] (fun t i wr => ∃ (k : Nat) (n : Int), k ≤ l.length ∧ i = .int .i64 k ∧ t = .int .i64 n ∧ 0 ≤ n ∧ n ≤ 6917529027641081856 ∧ Hid (Go.RowKit.Below w.heap.size w wr) ∧ Hid (n ≤ 4000 → FewI (l.take k))) (fun _ i _ => l.length - (intOf i).toNat)
  case atStart => exact ⟨0, 0, Nat.zero_le _, rfl, rfl, by omega, by omega, Lib.hid (Below.refl _ _), Lib.hid (fun _ x hx => by simp at hx)⟩
  case round =>
    obtain ⟨k, n, hk, rfl, rfl, hn0, hn1, HB, HFW⟩ := hrel
    by_cases hlt : k < l.length
    · have hd1 : decide (k < l.length) = true := decide_eq_true hlt
      by_cases hmo : n ≤ 4000
      · have hd2 : decide (n ≤ 4000) = true := decide_eq_true hmo
        obtain ⟨x, hx⟩ : ∃ x, l[k]? = some x := ⟨_, List.getElem?_eq_getElem hlt⟩
        have hxm := List.mem_of_getElem? hx
        have HPL := Lib.hid (HU.out _ hxm).parts
        obtain ⟨f1, f3, f5, f6⟩ := HS.out _ hxm
        have HF := Lib.hid f3
        clear f3
        obtain ⟨⟨code, life, ps⟩, os, pv, ov⟩ := x
        obtain ⟨Ap, cp, Ao, co, rfl, rfl, hcp, hcq⟩ := (HU.out _ hxm).form
        obtain ⟨ad, rfl, hab, x0, x1, x2, x3⟩ := (HL.out.below HB.out).rowI hx
        simp only at *
        have HXX := Lib.hid hx
        clear hx hxm
        have hss : (ByteArray.mk code.toArray).size = code.length := str_size f1
        unfold maxLen at f1
        go_wp2
        go_quiet (fail)
        go_wp2
        obtain ⟨wq, hwq⟩ : ∃ wq, wr.drewN nq = wq := ⟨_, rfl⟩
        rw [hwq]
        have HBQ : Hid (Go.RowKit.Below w.heap.size w wq) := Lib.hid (by rw [← hwq]; exact below_draws HB.out _)
        clear hwq x0 x1 x2 x3
        obtain ⟨nz, hnz⟩ : ∃ nz : Int, n + 1 + (code.length : Int) / 20 + ps.length + os.length = nz := ⟨_, rfl⟩
        have hz0 : 0 ≤ nz := by omega
        have HFN : Hid (nz ≤ 4000 → FewI (l.take (k + 1))) := Lib.hid (few_succ HXX.out (fun h => HFW.out (by omega)) (by simp only; omega))
        have hz1 : nz ≤ 6917529027641081856 := by omega
        go_loopw [3, 5] (fun t i wr => ∃ (j : Nat) (n : Int), j ≤ ps.length ∧ i = .int .i64 j ∧ t = .int .i64 n ∧ nz ≤ n ∧ n ≤ 6917529027641081856 ∧ Hid (Go.RowKit.Below w.heap.size w wr)) (fun _ i _ => ps.length - (intOf i).toNat)
        case atStart => exact ⟨0, nz, Nat.zero_le _, rfl, by rw [← hnz], Int.le_refl _, hz1, HBQ⟩
        case round =>
          obtain ⟨j, m, hj, rfl, rfl, hm0, hm1, HBJ⟩ := hrel
          obtain ⟨ad', hae, _, y0, y1, y2, y3⟩ := (HL.out.below HBJ.out).rowI HXX.out
          cases hae
          simp only at y0 y1 y2 y3
          by_cases hjt : j < ps.length
          · have hd1 : decide (j < ps.length) = true := decide_eq_true hjt
            by_cases hmm : m ≤ 4000
            · have hd2 : decide (m ≤ 4000) = true := decide_eq_true hmm
              obtain ⟨p, hp⟩ : ∃ p, ps[j]? = some p := ⟨_, List.getElem?_eq_getElem hjt⟩
              obtain ⟨Ap', cp', hpe, hp1, hp2, hpz, hpl⟩ := HPL.out
              cases hpe
              obtain ⟨ap, rfl, hapb, z0, z1⟩ := (hpl.below HBJ.out).part hp
              have hpl1 := (HF.out p (List.mem_of_getElem? hp)).1
              have hps : (ByteArray.mk p.1.toArray).size = p.1.length := str_size hpl1
              unfold maxLen at hpl1
              clear hp hpl
              go_wp2
              go_roundw
              case rel => exact ⟨j + 1, m + (p.1.length : Int) / 20, by omega, by go_num, rfl, by omega, by omega, HBJ⟩
              case measure => simp [intOf]; omega
            · have hd2 : decide (m ≤ 4000) = false := decide_eq_false hmm
              go_wp2
              go_roundw
              case rel => exact ⟨k + 1, m, by omega, by go_num, rfl, by omega, hm1, HBJ, Lib.hid (fun h => HFN.out (by omega))⟩
              case measure => simp [intOf]; omega
          · obtain rfl : j = ps.length := by omega
            have hd1 : decide (ps.length < ps.length) = false := decide_eq_false (by omega)
            go_wp2
            go_roundw
            case rel => exact ⟨k + 1, m, by omega, by go_num, rfl, by omega, hm1, HBJ, Lib.hid (fun h => HFN.out (by omega))⟩
            case measure => simp [intOf]; omega
      · have hd2 : decide (n ≤ 4000) = false := decide_eq_false hmo
        have hd3 : decide (4000 < n) = true := decide_eq_true (by omega)
        go_wp2
        go_ret
        exact ⟨true, rfl, HB.out, fun h => by cases h⟩
    · obtain rfl : k = l.length := by omega
      have hd1 : decide (l.length < l.length) = false := decide_eq_false (by omega)
      by_cases hmo : n ≤ 4000
      · have hd3 : decide (4000 < n) = false := decide_eq_false (by omega)
        by_cases h70 : l.length ≤ 70
        · have hd4 : decide (70 < l.length) = false := decide_eq_false (by omega)
          have hd5 : decide (70 < (l.length : Int)) = false := decide_eq_false (by omega)
          go_wp2
          go_ret
          exact ⟨false, rfl, HB.out, fun _ => ⟨h70, by have := HFW.out hmo; rwa [List.take_of_length_le (Nat.le_refl _)] at this⟩⟩
        · have hd4 : decide (70 < l.length) = true := decide_eq_true (by omega)
          have hd5 : decide (70 < (l.length : Int)) = true := decide_eq_true (by omega)
          go_wp2
          go_ret
          exact ⟨true, rfl, HB.out, fun h => by cases h⟩
      · have hd3 : decide (4000 < n) = true := decide_eq_true (by omega)
        go_wp2
        go_ret
        exact ⟨true, rfl, HB.out, fun h => by cases h⟩
end Kt
end Go.Proofs.Ytkdcpnbfeagggaa
end
section
/- storemanlaw07.four; what the chapter's example answers. -/
namespace Go.Proofs.Ytkdcpnbfeagggaa
namespace Kt
open Go.ChangeShapes Go.WideShapes Go.ChangeAt Go.RowKit Go.Maps Go.Shelf
set_option linter.unusedVariables false

def fourL : List It := [⟨[65], 5, []⟩, ⟨[66], 9, []⟩, ⟨[75], 0, [([65], 2), ([66], 1)]⟩, ⟨[76], 0, [([75], 3), ([65], 1)]⟩]
def fourI (n : Nat) : List Iv := [⟨⟨[65], 5, []⟩, [], .slice none 0 0, .slice none 0 0⟩, ⟨⟨[66], 9, []⟩, [], .slice none 0 0, .slice none 0 0⟩,
  ⟨⟨[75], 0, [([65], 2), ([66], 1)]⟩, [], .slice (some ⟨n, 0, none⟩) 2 2, .slice none 0 0⟩, ⟨⟨[76], 0, [([75], 3), ([65], 1)]⟩, [], .slice (some ⟨n + 1, 0, none⟩) 2 2, .slice none 0 0⟩]
theorem fourI_it (n : Nat) : (fourI n).map (·.it) = fourL := rfl
theorem fourI_sized (n : Nat) : SizedI (fourI n) := by
  intro x hx
  unfold fourI at hx
  simp only [List.mem_cons, List.not_mem_nil, or_false] at hx
  rcases hx with rfl | rfl | rfl | rfl <;> (unfold Iv.Fits Sized maxLen; simp)
abbrev fP1 : Obj := .cells #[.string ⟨#[65]⟩, .int .i64 2, .string ⟨#[66]⟩, .int .i64 1] 34
abbrev fP2 : Obj := .cells #[.string ⟨#[75]⟩, .int .i64 3, .string ⟨#[65]⟩, .int .i64 1] 34
abbrev fO (n : Nat) : Obj := .cells #[.string ⟨#[65]⟩, .int .i64 5, .slice none 0 0, .slice none 0 0, .string ⟨#[66]⟩, .int .i64 9, .slice none 0 0, .slice none 0 0, .string ⟨#[75]⟩, .int .i64 0, .slice (some ⟨n, 0, none⟩) 2 2, .slice none 0 0, .string ⟨#[76]⟩, .int .i64 0, .slice (some ⟨n + 1, 0, none⟩) 2 2, .slice none 0 0] 32
abbrev fW (w : World) : World := ((w.alloc fP1).alloc fP2).alloc (fO w.heap.size)
theorem fW_below (w : World) : Go.RowKit.Below w.heap.size w (fW w) := ((below_alloc1 w _).alloc (by simp only [World.size_alloc]; omega) _).alloc (by simp only [World.size_alloc]; omega) _
theorem four_isl (w : World) : ISl (fW w) (fW w).heap.size (.slice (some ⟨w.heap.size + 1 + 1, 0, none⟩) 4 4) (fourI w.heap.size) := by
  have b1 := below_alloc1 (w.alloc fP1) fP2
  have b2 := below_alloc1 ((w.alloc fP1).alloc fP2) (fO w.heap.size)
  have h1 : PSl (w.alloc fP1) (w.alloc fP1).heap.size (.slice (some ⟨w.heap.size, 0, none⟩) 2 2) [([65], 2), ([66], 1)] :=
    PSl.own (World.ownsRow_lit (base := w.heap.size) (e := 34) (size := 2) w #[.string ⟨#[65]⟩, .int .i64 2, .string ⟨#[66]⟩, .int .i64 1] 2 (Nat.le_refl _) (by simp [maxLen]) rfl)
  have h2 : PSl ((w.alloc fP1).alloc fP2) ((w.alloc fP1).alloc fP2).heap.size (.slice (some ⟨w.heap.size + 1, 0, none⟩) 2 2) [([75], 3), ([65], 1)] := by
    have := PSl.own (World.ownsRow_lit (base := (w.alloc fP1).heap.size) (e := 34) (size := 2) (w.alloc fP1) #[.string ⟨#[75]⟩, .int .i64 3, .string ⟨#[65]⟩, .int .i64 1] 2 (Nat.le_refl _) (by simp [maxLen]) rfl) (l := [([75], 3), ([65], 1)])
    simpa using this
  have h1' := (h1.below (b1.trans (b2.mono b1.size))).mono (Nat.le_trans b1.size b2.size)
  have h2' := (h2.below b2).mono b2.size
  have hn : PSl (fW w) (fW w).heap.size (.slice none 0 0) [] := PSl.nil
  have ht : TSl (fW w) (fW w).heap.size (.slice none 0 0) [] := TSl.nil
  have ho := World.ownsRow_lit (base := ((w.alloc fP1).alloc fP2).heap.size) (e := 32) (size := 4) ((w.alloc fP1).alloc fP2) #[.string ⟨#[65]⟩, .int .i64 5, .slice none 0 0, .slice none 0 0, .string ⟨#[66]⟩, .int .i64 9, .slice none 0 0, .slice none 0 0, .string ⟨#[75]⟩, .int .i64 0, .slice (some ⟨w.heap.size, 0, none⟩) 2 2, .slice none 0 0, .string ⟨#[76]⟩, .int .i64 0, .slice (some ⟨w.heap.size + 1, 0, none⟩) 2 2, .slice none 0 0] 4 (Nat.le_refl _) (by simp [maxLen]) rfl
  refine ⟨⟨_, 4, rfl, Nat.le_refl _, by simp [maxLen], fun h => (by cases h), ?_⟩, ?_⟩
  · have := Lies.own ho
    show Lies (((w.alloc fP1).alloc fP2).alloc (fO w.heap.size)) (((w.alloc fP1).alloc fP2).alloc (fO w.heap.size)).heap.size _ (icells (fourI w.heap.size))
    simp only [World.size_alloc] at this ⊢
    exact this
  · intro x hx
    unfold fourI at hx
    simp only [List.mem_cons, List.not_mem_nil, or_false] at hx
    rcases hx with rfl | rfl | rfl | rfl
    · exact ⟨hn, ht⟩
    · exact ⟨hn, ht⟩
    · exact ⟨h1', ht⟩
    · exact ⟨h2', ht⟩
def FourTo (w : World) (e : Ending) (w' : World) : Prop := ∃ A : Option Addr, e = .returned (.slice A 4 4) ∧ ISl w' w'.heap.size (.slice A 4 4) (fourI w.heap.size) ∧ Go.RowKit.Below w.heap.size w w'
theorem four_any (w : World) : Calls Try.prog 11 #[] w (FourTo w) := by
  go_enter Try.func11, Try.ntmps11
  go_wp2
  go_ret
  exact ⟨_, rfl, four_isl w, fW_below w⟩

/-! ### what the document says of it -/
theorem four_check : checkM fourL = 0 := by decide +kernel
theorem four_none : lastI fourL [90] = none := by decide +kernel
theorem four_L : (lastI fourL [76]).isSome = true := by decide +kernel
theorem four_deep : deepM fourL [76] = 3 := by decide +kernel
theorem four_flat : flat (lastI fourL) 8 [76] 2 = [([65], 12), ([66], 6), ([65], 2)] := by decide +kernel
theorem bad_check : checkM [⟨[65], 0, []⟩] = 4 := by decide +kernel
theorem four_join : IsJoin (flat (lastI fourL) 8 [76] 2) [([65], 14), ([66], 6)] := by
  rw [four_flat]
  refine ⟨by unfold Rising; decide, fun it q => ?_⟩
  by_cases ha : it = [65]
  · subst ha; simp [tot]
  · by_cases hb : it = [66]
    · subst hb; simp [tot]
    · simp [tot, ha, hb]
theorem four_ok : JoinOk (flat (lastI fourL) 8 [76] 2) := by
  rw [four_flat]
  refine ⟨by decide, fun it => ?_⟩
  simp only [tot]
  repeat' split
  all_goals omega
theorem texts_ext {a b : List (List UInt8)} (ha : Rises a) (hb : Rises b) (h : ∀ x, x ∈ a ↔ x ∈ b) : a = b := by
  have hp : ∀ l : List (List UInt8), Rises l → Rising (l.map (fun x => ((x, 0) : Pt))) := fun l hl => List.pairwise_map.2 hl
  have h1 := rising_ext (hp a ha) (hp b hb) (fun p => by
    simp only [List.mem_map]
    exact ⟨fun ⟨x, hx, e⟩ => ⟨x, (h x).1 hx, e⟩, fun ⟨x, hx, e⟩ => ⟨x, (h x).2 hx, e⟩⟩)
  have h2 := congrArg (List.map Prod.fst) h1
  simpa [List.map_map, Function.comp_def] using h2
theorem four_step {a b : List UInt8} (h : Step (lastI fourL) a b) (ha : a ∈ ([[65], [66], [75]] : List (List UInt8))) : b ∈ ([[65], [66], [75]] : List (List UInt8)) := by
  obtain ⟨x, hx, p, hp, rfl⟩ := h
  have e1 : lastI fourL [65] = some ⟨[65], 5, []⟩ := by kernel_rfl
  have e2 : lastI fourL [66] = some ⟨[66], 9, []⟩ := by kernel_rfl
  have e3 : lastI fourL [75] = some ⟨[75], 0, [([65], 2), ([66], 1)]⟩ := by kernel_rfl
  simp only [List.mem_cons, List.not_mem_nil, or_false] at ha
  rcases ha with rfl | rfl | rfl
  · rw [e1] at hx; cases hx; simp at hp
  · rw [e2] at hx; cases hx; simp at hp
  · rw [e3] at hx; cases hx
    simp only [List.mem_cons, List.not_mem_nil, or_false] at hp
    rcases hp with rfl | rfl <;> simp
theorem four_within (a : List UInt8) : InB fourL [75] a ↔ a ∈ ([[65], [66], [75]] : List (List UInt8)) := by
  have e3 : lastI fourL [75] = some ⟨[75], 0, [([65], 2), ([66], 1)]⟩ := by kernel_rfl
  constructor
  · rintro ⟨_, _, hr⟩
    induction hr with
    | refl => simp
    | step _ hs ih => exact four_step hs ih
  · intro ha
    refine ⟨four_check, by rw [e3]; rfl, ?_⟩
    simp only [List.mem_cons, List.not_mem_nil, or_false] at ha
    rcases ha with rfl | rfl | rfl
    · exact .step (.refl _) ⟨_, e3, ([65], 2), by simp, rfl⟩
    · exact .step (.refl _) ⟨_, e3, ([66], 1), by simp, rfl⟩
    · exact .refl _
theorem four_texts {ss : List (List UInt8)} (h : Rises ss) (hm : ∀ a, a ∈ ss ↔ InB fourL [75] a) : ss = [[65], [66], [75]] :=
  texts_ext h (by unfold Rises; decide) (fun x => (hm x).trans (four_within x))
end Kt
end Go.Proofs.Ytkdcpnbfeagggaa
end
section
/- storemanlaw07.awake: the chapter's example. -/
namespace Go.Proofs.Ytkdcpnbfeagggaa
namespace Kt
open Go.ChangeShapes Go.WideShapes Go.ChangeAt Go.RowKit Go.Maps Go.Shelf
set_option linter.unusedVariables false

theorem four_len (n : Nat) : (fourI n).length ≤ 1048576 := by simp [fourI]
theorem partsL (n : Nat) (v : Value) (w : World) (hv : ISl w w.heap.size v (fourI n)) : Calls Try.prog 10 #[v, .string ⟨#[76]⟩, .int .i64 2] w fun e w' =>
    ∃ A k, e = .returned (.tuple #[.slice A 2 k, .int .i64 0]) ∧ PSl w' w'.heap.size (.slice A 2 k) [([65], 14), ([66], 6)] ∧ Go.RowKit.Below w.heap.size w w' := by
  refine (parts_any v (fourI n) [76] 2 w hv (fourI_sized n) (four_len n) (by simp [maxLen]) (by omega) (by omega)).mono ?_
  rw [fourI_it]
  rintro e w' ⟨(⟨h, _⟩ | ⟨_, h, _⟩ | ⟨_, _, h, _⟩ | ⟨_, _, _, h, _⟩ | ⟨_, _, _, _, v', out, rfl, hj, _, ho⟩), hb⟩
  · exact absurd four_check h
  · exact absurd (by decide) h
  · have := four_L; rw [h] at this; cases this
  · exact absurd four_ok h
  · obtain rfl := hj.unique four_join
    obtain ⟨A, k, rfl, _⟩ := own_form ho
    exact ⟨A, k, rfl, PSl.own ho, hb⟩
theorem partsZ (n : Nat) (v : Value) (w : World) (hv : ISl w w.heap.size v (fourI n)) : Calls Try.prog 10 #[v, .string ⟨#[90]⟩, .int .i64 2] w fun e w' =>
    e = .returned (.tuple #[.slice none 0 0, .int .i64 150]) ∧ Go.RowKit.Below w.heap.size w w' := by
  refine (parts_any v (fourI n) [90] 2 w hv (fourI_sized n) (four_len n) (by simp [maxLen]) (by omega) (by omega)).mono ?_
  rw [fourI_it]
  rintro e w' ⟨(⟨h, _⟩ | ⟨_, h, _⟩ | ⟨_, _, h, he⟩ | ⟨_, _, h, _⟩ | ⟨_, _, h, _⟩), hb⟩
  · exact absurd four_check h
  · exact absurd (by decide) h
  · exact ⟨he, hb⟩
  · rw [four_none] at h; cases h
  · rw [four_none] at h; cases h
theorem deepL (n : Nat) (v : Value) (w : World) (hv : ISl w w.heap.size v (fourI n)) : Calls Try.prog 13 #[v, .string ⟨#[76]⟩] w fun e w' => e = .returned (.int .i64 3) ∧ Go.RowKit.Below w.heap.size w w' := by
  refine (deep_any v (fourI n) [76] w hv (fourI_sized n) (four_len n) (by simp [maxLen])).mono ?_
  rw [fourI_it, four_deep]
  exact fun e w' h => h
theorem withinK (n : Nat) (v : Value) (w : World) (hv : ISl w w.heap.size v (fourI n)) : Calls Try.prog 15 #[v, .string ⟨#[75]⟩] w fun e w' =>
    ∃ A k, e = .returned (.slice A 3 k) ∧ TSl w' w'.heap.size (.slice A 3 k) [[65], [66], [75]] ∧ Go.RowKit.Below w.heap.size w w' := by
  refine (within_any v (fourI n) [75] w hv (fourI_sized n) (four_len n) (by simp [maxLen])).mono ?_
  rw [fourI_it]
  rintro e w' ⟨v', ss, rfl, hr, hm, ho, _, hb⟩
  obtain rfl := four_texts hr hm
  obtain ⟨A, k, rfl, _⟩ := own_form ho
  exact ⟨A, k, rfl, TSl.own ho, hb⟩
theorem check4 (n : Nat) (v : Value) (w : World) (hv : ISl w w.heap.size v (fourI n)) : Calls Try.prog 7 #[v] w fun e w' => e = .returned (.int .i64 0) ∧ Go.RowKit.Below w.heap.size w w' := by
  refine (check_any v (fourI n) w hv (fourI_sized n) (four_len n)).mono ?_
  rw [fourI_it, four_check]
  exact fun e w' h => h
def badI : List Iv := [⟨⟨[65], 0, []⟩, [], .slice none 0 0, .slice none 0 0⟩]
abbrev badO : Obj := .cells #[.string ⟨#[65]⟩, .int .i64 0, .slice none 0 0, .slice none 0 0] 32
theorem checkBad (w : World) (g : Nat) (hg : w.heap.size = g) : Calls Try.prog 7 #[.slice (some ⟨g, 0, none⟩) 1 1] (w.alloc badO) fun e w' => e = .returned (.int .i64 4) ∧ Go.RowKit.Below w.heap.size w w' := by
  subst hg
  have hb0 := below_alloc1 w badO
  have ho := World.ownsRow_lit (base := w.heap.size) (e := 32) (size := 4) w #[.string ⟨#[65]⟩, .int .i64 0, .slice none 0 0, .slice none 0 0] 1 (Nat.le_refl _) (by simp [maxLen]) rfl
  have hi : ISl (w.alloc badO) (w.alloc badO).heap.size (.slice (some ⟨w.heap.size, 0, none⟩) 1 1) badI := by
    refine ⟨⟨_, 1, rfl, Nat.le_refl _, by simp [maxLen], fun h => (by cases h), Lies.own ho⟩, fun x hx => ?_⟩
    unfold badI at hx
    simp only [List.mem_cons, List.not_mem_nil, or_false] at hx
    subst hx
    exact ⟨PSl.nil, TSl.nil⟩
  refine (check_any _ badI _ hi (by intro x hx; unfold badI at hx; simp only [List.mem_cons, List.not_mem_nil, or_false] at hx; subst hx; unfold Iv.Fits Sized maxLen; simp) (by simp [badI])).mono ?_
  rintro e w' ⟨he, hb⟩
  exact ⟨he.trans (by rw [show badI.map (·.it) = [⟨[65], 0, []⟩] from rfl, bad_check]), hb0.trans (hb.mono hb0.size)⟩
theorem same4 (v : Value) (w : World) (hv : PSl w w.heap.size v [([65], 14), ([66], 6)]) (g : Nat) (hg : w.heap.size = g) :
    Calls Try.prog 12 #[v, .slice (some ⟨g, 0, none⟩) 2 2] (w.alloc (.cells #[.string ⟨#[65]⟩, .int .i64 14, .string ⟨#[66]⟩, .int .i64 6] 34)) fun e w' => e = .returned (.bool true) ∧ Go.RowKit.Below w.heap.size w w' := by
  subst hg
  have hb0 := below_alloc1 w (.cells #[.string ⟨#[65]⟩, .int .i64 14, .string ⟨#[66]⟩, .int .i64 6] 34)
  have h2 : PSl (w.alloc (.cells #[.string ⟨#[65]⟩, .int .i64 14, .string ⟨#[66]⟩, .int .i64 6] 34)) (w.alloc (.cells #[.string ⟨#[65]⟩, .int .i64 14, .string ⟨#[66]⟩, .int .i64 6] 34)).heap.size (.slice (some ⟨w.heap.size, 0, none⟩) 2 2) [([65], 14), ([66], 6)] :=
    PSl.own (World.ownsRow_lit (base := w.heap.size) (e := 34) (size := 2) w #[.string ⟨#[65]⟩, .int .i64 14, .string ⟨#[66]⟩, .int .i64 6] 2 (Nat.le_refl _) (by simp [maxLen]) rfl)
  refine (same_yes [([65], 14), ([66], 6)] v _ _ ((hv.below hb0).mono hb0.size) h2 (by simp)).mono ?_
  rintro e w' ⟨he, hb⟩
  exact ⟨he, hb0.trans (hb.mono hb0.size)⟩
theorem same3 (v : Value) (w : World) (hv : TSl w w.heap.size v [[65], [66], [75]]) (g : Nat) (hg : w.heap.size = g) :
    Calls Try.prog 14 #[v, .slice (some ⟨g, 0, none⟩) 3 3] (w.alloc (.cells #[.string ⟨#[65]⟩, .string ⟨#[66]⟩, .string ⟨#[75]⟩] 9)) fun e w' => e = .returned (.bool true) ∧ Go.RowKit.Below w.heap.size w w' := by
  subst hg
  have hb0 := below_alloc1 w (.cells #[.string ⟨#[65]⟩, .string ⟨#[66]⟩, .string ⟨#[75]⟩] 9)
  have h2 : TSl (w.alloc (.cells #[.string ⟨#[65]⟩, .string ⟨#[66]⟩, .string ⟨#[75]⟩] 9)) (w.alloc (.cells #[.string ⟨#[65]⟩, .string ⟨#[66]⟩, .string ⟨#[75]⟩] 9)).heap.size (.slice (some ⟨w.heap.size, 0, none⟩) 3 3) [[65], [66], [75]] :=
    TSl.own (World.ownsRow_lit (base := w.heap.size) (e := 9) (size := 1) w #[.string ⟨#[65]⟩, .string ⟨#[66]⟩, .string ⟨#[75]⟩] 3 (Nat.le_refl _) (by simp [maxLen]) rfl)
  refine (sameT_any [[65], [66], [75]] [[65], [66], [75]] v _ _ (hv.at_ hb0) h2 (by simp) (by simp)).mono ?_
  rintro e w' ⟨he, hb⟩
  exact ⟨he.trans (by simp), hb0.trans (hb.mono hb0.size)⟩

theorem PSl_at {w W : World} {v : Value} {l : List Pt} (h : PSl w w.heap.size v l) (hb : Go.RowKit.Below w.heap.size w W) : PSl W W.heap.size v l := (h.below hb).mono hb.size
set_option maxRecDepth 100000 in
set_option maxHeartbeats 4000000 in
theorem awake_any (w : World) : Calls Try.prog 5 #[] w fun e w' => e = .returned (.bool true) ∧ Go.RowKit.Below w.heap.size w w' := by
  have HB := Lib.hid (Go.RowKit.Below.refl w.heap.size w)
  go_enter Try.func5, Try.ntmps5
  go_wp2_with (first
    | (go_at_call 11; ((with_reducible refine (four_any _).mono ?_); rintro e w1 ⟨A1, rfl, hi, hb⟩; (try (have HP := Lib.hid (PSl_at HP.out hb))); have HI := Lib.hid hi; have HB := Lib.hid (below_two HB.out hb); clear hi hb))
    | (go_at_call 10; ((with_reducible refine (partsL _ _ _ HI.out).mono ?_); rintro e w1 ⟨A1, k1, rfl, hp, hb⟩; have HP := Lib.hid hp; have HPB := Lib.hid (Go.RowKit.Below.refl w1.heap.size w1); have HB := Lib.hid (below_two HB.out hb); clear hp hb))
    | (go_at_call 10; ((with_reducible refine (partsZ _ _ _ HI.out).mono ?_); rintro e w1 ⟨rfl, hb⟩; have HP := Lib.hid (PSl_at HP.out hb); have HB := Lib.hid (below_two HB.out hb); clear hb))
    | (go_at_call 13; ((with_reducible refine (deepL _ _ _ HI.out).mono ?_); rintro e w1 ⟨rfl, hb⟩; have HB := Lib.hid (below_two HB.out hb); clear hb))
    | (go_at_call 15; ((with_reducible refine (withinK _ _ _ HI.out).mono ?_); rintro e w1 ⟨A1, k1, rfl, ht, hb⟩; have HT := Lib.hid ht; have HB := Lib.hid (below_two HB.out hb); clear ht hb))
    | (go_at_call 14; ((with_reducible refine (same3 _ _ HT.out _ rfl).mono ?_); rintro e w1 ⟨rfl, hb⟩; have HB := Lib.hid (below_two HB.out hb); clear hb))
    | (go_at_call 12; ((with_reducible refine (same4 _ _ HP.out _ rfl).mono ?_); rintro e w1 ⟨rfl, hb⟩; have HB := Lib.hid (below_two HB.out hb); clear hb))
    | (go_at_call 7; ((with_reducible refine (check4 _ _ _ HI.out).mono ?_); rintro e w1 ⟨rfl, hb⟩; have HB := Lib.hid (below_two HB.out hb); clear hb))
    | (go_at_call 7; ((with_reducible refine (checkBad _ _ rfl).mono ?_); rintro e w1 ⟨rfl, hb⟩; have HB := Lib.hid (below_two HB.out hb); clear hb)))
  go_ret
  exact ⟨rfl, HB.out⟩
end Kt
end Go.Proofs.Ytkdcpnbfeagggaa
end
section
/- What KitEnd says, in words: so many times what is in one; of a kit, what is in its parts, put together. -/
namespace Go.Proofs.Ytkdcpnbfeagggaa
namespace Kt
set_option linter.unusedVariables false

def firstC (l : List Iv) (c : List UInt8) : Option Iv := l.find? (fun x => decide (x.it.code = c))
theorem firstC_yes {l : List Iv} {c : List UInt8} {k : Nat} {x : Iv} (hx : l[k]? = some x) (hn : ∀ y ∈ l.take k, y.it.code ≠ c) (h : x.it.code = c) : firstC l c = some x := by
  have hk : k < l.length := by
    rcases Nat.lt_or_ge k l.length with h | h
    · exact h
    · rw [List.getElem?_eq_none h] at hx; cases hx
  have e : l = l.take k ++ x :: l.drop (k + 1) := by
    rw [List.getElem?_eq_getElem hk] at hx
    cases hx
    rw [← List.drop_eq_getElem_cons hk, List.take_append_drop]
  unfold firstC
  have h0 : (l.take k).find? (fun x => decide (x.it.code = c)) = none := List.find?_eq_none.2 (fun y hy => by simpa using hn y hy)
  rw [e, List.find?_append, h0]
  simp [h]
theorem firstC_no {l : List Iv} {c : List UInt8} (hn : ∀ y ∈ l, y.it.code ≠ c) : firstC l c = none :=
  List.find?_eq_none.2 (fun y hy => by simpa using hn y hy)

theorem results_cell1 {fn : Func} {p : Tmp} {ty : TypeId} (h : fn.results = #[.cell p ty]) (tmps : Array Value) (P : Program) (w : World) :
    (results fn tmps).run P w = ((asAddr (tmps.getD p undef)).run P w).andThen fun a w₁ => (loadVar ty a).run P w₁ := by
  simp only [results, h]
  simp [Sem.run_bind, Result.andThen]
theorem joined_tot {l out : List Pt} (h : IsJoin l out) (it : List UInt8) : tot it out = tot it l := by
  by_cases hm : it ∈ l.map (·.1)
  · exact tot_rising it h.1 ((h.2 it _).2 ⟨hm, rfl⟩)
  · rw [tot_of_not_mem it l hm]
    refine tot_of_not_mem it out (fun hi => ?_)
    obtain ⟨p, hp, rfl⟩ := List.mem_map.1 hi
    exact hm ((h.2 p.1 p.2).1 hp).1
theorem joined_keys {l out : List Pt} (h : IsJoin l out) (it : List UInt8) : it ∈ out.map (·.1) ↔ it ∈ l.map (·.1) := by
  constructor
  · intro hi
    obtain ⟨p, hp, rfl⟩ := List.mem_map.1 hi
    exact ((h.2 p.1 p.2).1 hp).1
  · intro hi
    exact List.mem_map.2 ⟨(it, tot it l), (h.2 it _).2 ⟨hi, rfl⟩, rfl⟩
/-- Lists with the same sums and the same names are joined to the same. -/
theorem join_alike {l m out : List Pt} (h : IsJoin l out) (ht : ∀ it, tot it l = tot it m) (hk : ∀ it, it ∈ l.map (·.1) ↔ it ∈ m.map (·.1)) : IsJoin m out :=
  ⟨h.1, fun it q => by rw [h.2 it q, ht it, hk it]⟩
/-- What is joined of parts that were joined before. -/
theorem joined_flatMap {α : Type} {f g : α → List Pt} : ∀ {ps : List α}, (∀ p ∈ ps, IsJoin (f p) (g p)) → (∀ it, tot it (ps.flatMap g) = tot it (ps.flatMap f)) ∧ ∀ it, it ∈ (ps.flatMap g).map (·.1) ↔ it ∈ (ps.flatMap f).map (·.1)
  | [], _ => by simp
  | p :: r, h => by
    have h1 := h p (by simp)
    obtain ⟨h2, h3⟩ := joined_flatMap (ps := r) (fun y hy => h y (by simp [hy]))
    refine ⟨fun it => ?_, fun it => ?_⟩
    · rw [List.flatMap_cons, List.flatMap_cons, tot_append, tot_append, joined_tot h1, h2]
    · rw [List.flatMap_cons, List.flatMap_cons, List.map_append, List.map_append, List.mem_append, List.mem_append, joined_keys h1, h3]

section
variable {F : Fd} {N : Nat}
/-- So many times what is in one. -/
theorem scale_join (hg : Good F N) {c : List UInt8} {x : It} (hx : F c = some x) {q : Int} (hq : 1 ≤ q) {one : List Pt} (h : IsJoin (flat F N c 1) one) : IsJoin (flat F N c q) (one.map (fun p => (p.1, p.2 * q))) := by
  refine ⟨List.pairwise_map.2 h.1, fun it n => ?_⟩
  rw [tot_flat hg it c x hx q, flat_keys hg hx hq]
  simp only [List.mem_map, Prod.mk.injEq]
  constructor
  · rintro ⟨p, hp, rfl, rfl⟩
    obtain ⟨h1, h2⟩ := (h.2 p.1 p.2).1 hp
    rw [flat_keys hg hx (by omega)] at h1
    rw [tot_flat hg p.1 c x hx 1, Int.one_mul] at h2
    exact ⟨h1, by rw [h2, Int.mul_comm]⟩
  · rintro ⟨h1, rfl⟩
    exact ⟨(it, amt F it N c), (h.2 _ _).2 ⟨(flat_keys hg hx (by omega) it).2 h1, by rw [tot_flat hg it c x hx 1, Int.one_mul]⟩, rfl, Int.mul_comm _ _⟩
theorem one_long (hg : Good F N) {c : List UInt8} {x : It} (hx : F c = some x) {q : Int} (hq : 1 ≤ q) (h : ¬ JoinOk (flat F N c 1)) : ¬ JoinOk (flat F N c q) := by
  intro h'
  rw [flat_ok hg hx (by omega)] at h'
  refine h ((flat_ok hg hx (by omega)).2 (fun y => ?_))
  have h1 := h' y
  have h2 := amt_nonneg hg y c x hx
  rw [Int.one_mul]
  have h3 : 1 * amt F y N c ≤ q * amt F y N c := Int.mul_le_mul_of_nonneg_right hq h2
  rw [Int.one_mul] at h3
  exact Int.le_trans h3 h1
theorem one_qty (hg : Good F N) {c : List UInt8} {x : It} (hx : F c = some x) {one : List Pt} (h : IsJoin (flat F N c 1) one) {p : Pt} (hp : p ∈ one) : 1 ≤ p.2 ∧ (∃ z, F p.1 = some z ∧ z.parts = []) ∧ Reach F c p.1 := by
  obtain ⟨h1, h2⟩ := (h.2 p.1 p.2).1 hp
  obtain ⟨p', hp', he⟩ := List.mem_map.1 h1
  obtain ⟨h3, _, h4⟩ := flat_mem hg c x hx 1 (by omega) p' hp'
  rw [he] at h3 h4
  rw [flat_keys hg hx (by omega)] at h1
  rw [tot_flat hg p.1 c x hx 1, Int.one_mul] at h2
  exact ⟨by omega, h3, h4⟩
theorem joinOk_flatMap {α : Type} {f : α → List Pt} : ∀ {ps : List α}, (∀ p ∈ ps, ∀ y ∈ f p, 0 ≤ y.2) → JoinOk (ps.flatMap f) → ∀ p ∈ ps, JoinOk (f p)
  | [], _, _, p, hp => by simp at hp
  | a :: r, hn, h, p, hp => by
    rw [List.flatMap_cons] at h
    rcases List.mem_cons.1 hp with rfl | hp
    · exact h.left
    · have hr : JoinOk (r.flatMap f) := by
        refine ⟨fun y hy => h.1 y (List.mem_append.2 (.inr hy)), fun it => ?_⟩
        have h1 := h.2 it
        rw [tot_append] at h1
        have h2 := tot_nonneg it (f a) (hn a (by simp))
        omega
      exact joinOk_flatMap (fun y hy => hn y (by simp [hy])) hr p hp
theorem parts_ok (hg : Good F N) {c : List UInt8} {x : It} (hx : F c = some x) (h0 : x.parts ≠ []) (hj : JoinOk (flat F N c 1)) : ∀ p ∈ x.parts, JoinOk (flat F N p.1 p.2) := by
  intro p hp
  rw [flat_kit hg hx h0] at hj
  have h1 := joinOk_flatMap (f := fun p : Pt => flat F N p.1 (1 * p.2)) (fun p hp y hy => by
    obtain ⟨z, hz⟩ := hg.part hx hp
    exact flat_nonneg hg hz (by have := hg.qty c x hx p hp; omega) y hy) hj p hp
  simpa using h1
theorem kit_join (hg : Good F N) {c : List UInt8} {x : It} (hx : F c = some x) (h0 : x.parts ≠ []) {g : Pt → List Pt} (hj : ∀ p ∈ x.parts, IsJoin (flat F N p.1 p.2) (g p)) {one : List Pt} (h : IsJoin (flat F N c 1) one) : IsJoin (x.parts.flatMap g) one := by
  rw [flat_kit hg hx h0] at h
  obtain ⟨h1, h2⟩ := joined_flatMap (f := fun p : Pt => flat F N p.1 (1 * p.2)) (g := g) (ps := x.parts) (fun p hp => by simpa using hj p hp)
  exact join_alike h (fun it => (h1 it).symm) (fun it => (h2 it).symm)
theorem kit_joinOk {l m : List Pt} (hl : JoinOk l) (ht : ∀ it, tot it m = tot it l) (hm : ∀ p ∈ m, 0 ≤ p.2 ∧ p.2 ≤ 1125899906842624) : JoinOk m :=
  ⟨hm, fun it => by rw [ht]; exact hl.2 it⟩
end
end Kt
end Go.Proofs.Ytkdcpnbfeagggaa
end
section
/- Sound items, in words of lists alone: they rise; one more behind them. -/
namespace Go.Proofs.Ytkdcpnbfeagggaa
namespace Kt
open Go.RowKit Go.Maps
set_option linter.unusedVariables false

theorem ISl.at_k {w : World} {B : Nat} {A : Option Addr} {n c : Nat} {l : List Iv} (h : ISl w B (.slice A n c) l) {k : Nat} {x : Iv} (hx : l[k]? = some x) : ∃ ad, A = some ad ∧ ad.block < B ∧ RowI w (ad.add (k * 4)) x := by
  obtain ⟨⟨A', c', e, _, _, _, hl⟩, _⟩ := h
  cases e
  exact hl.rowI hx
theorem PSl.at_k {w : World} {B : Nat} {A : Option Addr} {n c : Nat} {l : List Pt} (h : PSl w B (.slice A n c) l) {k : Nat} {p : Pt} (hx : l[k]? = some p) : ∃ ad, A = some ad ∧ ad.block < B ∧ w.cell? (ad.add (k * 2)) = some (strV p.1) ∧ w.cell? ⟨(ad.add (k * 2)).block, (ad.add (k * 2)).off + 1, none⟩ = some (.int .i64 p.2) := by
  obtain ⟨A', c', e, _, _, _, hl⟩ := h
  cases e
  exact hl.part hx
theorem TSl.at_k {w : World} {B : Nat} {A : Option Addr} {n c : Nat} {l : List (List UInt8)} (h : TSl w B (.slice A n c) l) {k : Nat} {s : List UInt8} (hx : l[k]? = some s) : ∃ ad, A = some ad ∧ ad.block < B ∧ w.cell? (ad.add k) = some (strV s) := by
  obtain ⟨A', c', e, _, _, _, hl⟩ := h
  cases e
  exact hl.text hx
theorem TSl.lies {w : World} {B : Nat} {A : Option Addr} {n c : Nat} {l : List (List UInt8)} (h : TSl w B (.slice A n c) l) : Lies w B A (tcells l) ∧ n = l.length ∧ l.length ≤ c ∧ c ≤ maxLen := by
  obtain ⟨A', c', e, h1, h2, _, hl⟩ := h
  cases e
  exact ⟨hl, rfl, h1, h2⟩
theorem shaped_lt {L : List It} (h : shapedB L = true) : ∀ (j : Nat) (x : It), L[j]? = some x → ∀ (i : Nat) (y : It), i < j → L[i]? = some y → y.code < x.code := by
  have hs : ∀ (j : Nat) (x : It), L[j]? = some x → lastOf L j < x.code := by
    intro j x hx
    have hj := (List.getElem?_eq_some_iff.1 hx).1
    unfold shapedB at h
    rw [List.all_eq_true] at h
    have h1 := h j (List.mem_range.2 hj)
    unfold shapeAt at h1
    rw [hx] at h1
    simp only [Bool.and_eq_true, decide_eq_true_eq] at h1
    exact h1.2.1
  intro j
  induction j with
  | zero => intro x _ i y hi; omega
  | succ j ih =>
    intro x hx i y hi hy
    have hj1 := (List.getElem?_eq_some_iff.1 hx).1
    obtain ⟨z, hz⟩ : ∃ z, L[j]? = some z := ⟨_, List.getElem?_eq_getElem (by omega)⟩
    have h1 := hs (j + 1) x hx
    rw [lastOf_succ hz] at h1
    rcases Nat.lt_or_ge i j with h2 | h2
    · exact List.lt_trans (ih z hz i y h2 hy) h1
    · obtain rfl : i = j := by omega
      rw [hz] at hy
      cases hy
      exact h1
theorem shaped_rise {L : List It} (h : shapedB L = true) : (L.map (·.code)).Pairwise (· < ·) := by
  rw [List.pairwise_map, List.pairwise_iff_getElem]
  intro i j hi hj hij
  exact shaped_lt h j _ (List.getElem?_eq_getElem hj) i _ hij (List.getElem?_eq_getElem hi)
theorem rise_nodup {l : List (List UInt8)} (h : l.Pairwise (· < ·)) : l.Nodup := h.imp (fun h1 h2 => by subst h2; exact List.lt_irrefl _ h1)
theorem shaped_nodup {L : List It} (h : shapedB L = true) : (L.map (·.code)).Nodup := rise_nodup (shaped_rise h)
theorem lastI_nil (c : List UInt8) : lastI [] c = none := rfl
theorem lastI_mem {L : List It} (hn : (L.map (·.code)).Nodup) {x : It} (hx : x ∈ L) : lastI L x.code = some x := by
  induction L using snocRec with
  | nil => simp at hx
  | snoc l y ih =>
    rw [lastI_snoc]
    rw [List.map_append, List.nodup_append] at hn
    rcases List.mem_append.1 hx with hx | hx
    · have hne : x.code ≠ y.code := hn.2.2 _ (List.mem_map_of_mem hx) _ (by simp)
      rw [if_neg hne]
      exact ih hn.1 hx
    · obtain rfl := List.mem_singleton.1 hx
      rw [if_pos rfl]
theorem firstC_mem {l : List Iv} (hn : (l.map (·.it.code)).Nodup) {x : Iv} (hx : x ∈ l) : firstC l x.it.code = some x := by
  obtain ⟨k, hk⟩ := List.getElem?_of_mem hx
  refine firstC_yes hk (fun y hy e => ?_) rfl
  obtain ⟨i, hi⟩ := List.getElem?_of_mem hy
  have hik : i < k := by have := (List.getElem?_eq_some_iff.1 hi).1; rw [List.length_take] at this; omega
  rw [List.getElem?_take, if_pos hik] at hi
  have h1 := (List.getElem?_eq_some_iff.1 hi).1
  have h2 := (List.getElem?_eq_some_iff.1 hk).1
  rw [List.nodup_iff_pairwise_ne, List.pairwise_map, List.pairwise_iff_getElem] at hn
  have h3 := hn i k h1 h2 hik
  rw [(List.getElem?_eq_some_iff.1 hi).2, (List.getElem?_eq_some_iff.1 hk).2] at h3
  exact h3 e
theorem firstC_last {l : List Iv} (hn : (l.map (·.it.code)).Nodup) {c : List UInt8} {z : It} (h : lastI (l.map (·.it)) c = some z) : ∃ x ∈ l, x.it = z ∧ x.it.code = c ∧ firstC l c = some x := by
  obtain ⟨h1, h2⟩ := lastI_some _ h
  obtain ⟨x, hx, rfl⟩ := List.mem_map.1 h1
  exact ⟨x, hx, rfl, h2, by rw [← h2]; exact firstC_mem hn hx⟩
theorem sd_nodupI {l : List Iv} (h : checkM (l.map (·.it)) = 0) : (l.map (·.it.code)).Nodup := by
  have := shaped_nodup (checkM_sd h).shaped
  rw [List.map_map] at this
  exact this
theorem deepM_dp {L : List It} (h0 : checkM L = 0) {c : List UInt8} {d : Nat} (h : Dp (lastI L) c d) : deepM L c = d := by
  unfold deepM
  rw [if_pos h0, h.depI]; rfl
theorem dp_deepM {L : List It} {c : List UInt8} (h : 1 ≤ deepM L c) : Dp (lastI L) c (deepM L c) := by
  unfold deepM at h ⊢
  by_cases h0 : checkM L = 0
  · rw [if_pos h0] at h ⊢
    cases hd : depI L c with
    | none => rw [hd] at h; simp at h
    | some d => exact depI_dp hd
  · rw [if_neg h0] at h; omega
theorem sd_deepM {L : List It} (h : Sd L) {x : It} (hx : x ∈ L) : Dp (lastI L) x.code (deepM L x.code) ∧ 1 ≤ deepM L x.code ∧ deepM L x.code ≤ 8 := by
  obtain ⟨d, hd, h8⟩ := h.deep x hx
  rw [deepM_dp (sd_checkM h) hd]
  exact ⟨hd, hd.pos, h8⟩

/-! ### one more behind them -/
theorem shapedB_snoc (L : List It) (x : It) : shapedB (L ++ [x]) = (shapedB L && (Cd.rightL x.code && (decide (lastOf L L.length < x.code) && (keptB x || kitB x)))) := by
  have h1 : ∀ j, j < L.length → shapeAt (L ++ [x]) j = shapeAt L j := by
    intro j hj
    unfold shapeAt
    have e : lastOf (L ++ [x]) j = lastOf L j := by
      unfold lastOf
      split
      · rfl
      · rw [List.getElem?_append_left (by omega)]
    rw [List.getElem?_append_left hj, e]
  have h2 : shapeAt (L ++ [x]) L.length = (Cd.rightL x.code && (decide (lastOf L L.length < x.code) && (keptB x || kitB x))) := by
    unfold shapeAt
    have e : lastOf (L ++ [x]) L.length = lastOf L L.length := by
      unfold lastOf
      split
      · rfl
      · rw [List.getElem?_append_left (by omega)]
    rw [List.getElem?_append_right (Nat.le_refl _), e]
    simp
  unfold shapedB
  rw [List.length_append, List.length_singleton, List.range_succ, List.all_append]
  simp only [List.all_cons, List.all_nil, Bool.and_true, h2]
  congr 1
  have key : ∀ (R : List Nat), (∀ j ∈ R, j < L.length) → R.all (shapeAt (L ++ [x])) = R.all (shapeAt L) := by
    intro R hR
    induction R with
    | nil => rfl
    | cons a R ih => rw [List.all_cons, List.all_cons, h1 a (hR a (by simp)), ih (fun j hj => hR j (by simp [hj]))]
  exact key _ (fun j hj => List.mem_range.1 hj)
theorem lastOf_end {L : List It} {c : List UInt8} (hc : c ≠ []) (h : ∀ y ∈ L, y.code < c) : lastOf L L.length < c := by
  unfold lastOf
  split
  · cases c with
    | nil => exact absurd rfl hc
    | cons a r => exact List.Lex.nil
  · rename_i h0
    cases hl : L[L.length - 1]? with
    | none => 
      have := List.getElem?_eq_none_iff.1 hl
      omega
    | some y => exact h y (List.mem_of_getElem? hl)
theorem lastOf_all {L : List It} {c : List UInt8} (hs : shapedB L = true) (h : lastOf L L.length < c) : ∀ y ∈ L, y.code < c := by
  intro y hy
  obtain ⟨i, hi⟩ := List.getElem?_of_mem hy
  have hil := (List.getElem?_eq_some_iff.1 hi).1
  obtain ⟨z, hz⟩ : ∃ z, L[L.length - 1]? = some z := ⟨_, List.getElem?_eq_getElem (by omega)⟩
  unfold lastOf at h
  rw [if_neg (by omega), hz] at h
  simp only at h
  rcases Nat.lt_or_ge i (L.length - 1) with h1 | h1
  · exact List.lt_trans (shaped_lt hs _ z hz i y h1 hi) h
  · obtain rfl : i = L.length - 1 := by omega
    rw [hz] at hi
    cases hi
    exact h
section
variable {L : List It} {x : It}
theorem dep_ext {F F' : Fd} (h : ∀ c y, F c = some y → F' c = some y) : ∀ (n : Nat) (c : List UInt8) (d : Nat), dep F n c = some d → dep F' n c = some d
  | 0, c, d, h1 => by simp [dep] at h1
  | n + 1, c, d, h1 => by
    rw [dep] at h1 ⊢
    cases hF : F c with
    | none => rw [hF] at h1; cases h1
    | some y =>
      rw [hF] at h1
      rw [h c y hF]
      simp only at h1 ⊢
      cases hm : depP (dep F n) y.parts with
      | none => rw [hm] at h1; cases h1
      | some m =>
        rw [hm] at h1
        rw [depP_mono (fun p _ e he => dep_ext h n p.1 e he) hm]
        exact h1
theorem dp_ext {F F' : Fd} (h : ∀ c y, F c = some y → F' c = some y) {c : List UInt8} {d : Nat} (hd : Dp F c d) : Dp F' c d := dep_ext h _ _ _ hd
theorem lastI_ext (hx : x.code ∉ L.map (·.code)) : ∀ c y, lastI L c = some y → lastI (L ++ [x]) c = some y := by
  intro c y h
  rw [lastI_snoc, if_neg (fun e => hx (by rw [← e]; exact (lastI_isSome L c).1 (by rw [h]; rfl)))]
  exact h
theorem mx_leN {e : List UInt8 → Nat} {n : Nat} : ∀ {ps : List Pt}, (∀ p ∈ ps, e p.1 ≤ n) → mx e ps ≤ n := by
  intro ps
  induction ps using snocRec with
  | nil => intro _; simp [mx]
  | snoc l p ih =>
    intro h
    rw [mx_snoc]
    have h1 := ih (fun q hq => h q (by simp [hq]))
    have h2 := h p (by simp)
    omega
theorem not_in_of_lt (hlt : ∀ y ∈ L, y.code < x.code) : x.code ∉ L.map (·.code) := fun h => by
  obtain ⟨y, hy, e⟩ := List.mem_map.1 h
  have := hlt y hy
  rw [e] at this
  exact List.lt_irrefl _ this
theorem deepM_snoc (hL : Sd L) (h' : checkM (L ++ [x]) = 0) (hx : x.code ∉ L.map (·.code)) {c : List UInt8} (hc : c ∈ L.map (·.code)) : deepM (L ++ [x]) c = deepM L c := by
  obtain ⟨y, hy, rfl⟩ := List.mem_map.1 hc
  exact deepM_dp h' (dp_ext (lastI_ext hx) (sd_deepM hL hy).1)
/-- Sound items stay sound with one more just if it is kept, or a kit of some of them that is not too deep. -/
theorem sd_snoc (hL : Sd L) (hn : L.length ≤ 59) (hr : Cd.rightL x.code = true) (hne : x.code ≠ []) (hlt : ∀ y ∈ L, y.code < x.code) :
    Sd (L ++ [x]) ↔ (keptB x || kitB x) = true ∧ ∀ p ∈ x.parts, 1 ≤ deepM L p.1 ∧ deepM L p.1 ≤ 7 := by
  have hxn := not_in_of_lt hlt
  have hFx : lastI (L ++ [x]) x.code = some x := by rw [lastI_snoc, if_pos rfl]
  constructor
  · intro h
    have hsh := h.shaped
    rw [shapedB_snoc] at hsh
    simp only [Bool.and_eq_true] at hsh
    refine ⟨hsh.2.2.2, fun p hp => ?_⟩
    obtain ⟨d, hd, h8⟩ := h.deep x (by simp)
    obtain ⟨e, he, hed⟩ := hd.part hFx hp
    have hpx : p.1 ≠ x.code := fun e' => by rw [e'] at he; have := he.uniq hd; omega
    obtain ⟨y, hy⟩ := he.found
    rw [lastI_snoc, if_neg hpx] at hy
    obtain ⟨h1, h2⟩ := lastI_some L hy
    have h3 := sd_deepM hL h1
    rw [h2] at h3
    have := (dp_ext (lastI_ext hxn) h3.1).uniq he
    omega
  · rintro ⟨h1, h2⟩
    have hcl : closedI (L ++ [x]) = true := by
      have hsome : ∀ c, (lastI L c).isSome = true → (lastI (L ++ [x]) c).isSome = true := fun c hc => by
        obtain ⟨y, hy⟩ := Option.isSome_iff_exists.1 hc
        rw [lastI_ext hxn c y hy]; rfl
      unfold closedI
      rw [List.all_eq_true]
      intro y hy
      rw [List.all_eq_true]
      intro p hp
      rcases List.mem_append.1 hy with hy | hy
      · have := hL.closed
        unfold closedI at this
        rw [List.all_eq_true] at this
        have := this y hy
        rw [List.all_eq_true] at this
        exact hsome _ (this p hp)
      · obtain rfl := List.mem_singleton.1 hy
        obtain ⟨z, hz⟩ := (dp_deepM (h2 p hp).1).found
        exact hsome _ (by rw [hz]; rfl)
    refine ⟨by rw [List.length_append, List.length_singleton]; omega, ?_, hcl, fun y hy => ?_⟩
    · rw [shapedB_snoc, hL.shaped, hr, h1, decide_eq_true (lastOf_end hne hlt)]
      rfl
    · rcases List.mem_append.1 hy with hy | hy
      · obtain ⟨d, hd, h8⟩ := hL.deep y hy
        exact ⟨d, dp_ext (lastI_ext hxn) hd, h8⟩
      · obtain rfl := List.mem_singleton.1 hy
        exact ⟨_, Dp.mk hFx (deepM L) (fun p hp => dp_ext (lastI_ext hxn) (dp_deepM (h2 p hp).1)), by have := mx_leN (e := deepM L) (n := 7) (fun p hp => (h2 p hp).2); omega⟩
theorem checkM_snoc (hL : Sd L) (hn : L.length ≤ 59) (hr : Cd.rightL x.code = true) (hne : x.code ≠ []) (hlt : ∀ y ∈ L, y.code < x.code) :
    checkM (L ++ [x]) = 0 ↔ (keptB x || kitB x) = true ∧ ∀ p ∈ x.parts, 1 ≤ deepM L p.1 ∧ deepM L p.1 ≤ 7 :=
  ⟨fun h => (sd_snoc hL hn hr hne hlt).1 (checkM_sd h), fun h => sd_checkM ((sd_snoc hL hn hr hne hlt).2 h)⟩
end
end Kt
end Go.Proofs.Ytkdcpnbfeagggaa
end
section
/- An append whose source may be nil (cut out of wip/lot). -/
namespace Go.Proofs.Ytkdcpnbfeagggaa
open Go.ChangeShapes Go.WideShapes Go.ChangeAt Go.RowKit Go.Maps
set_option linter.unusedVariables false
theorem run_append_any {P : Program} (w : World) (base : Nat) (t ty e : TypeId) (i : TypeInfo) (z : Value) (size bytes : Nat) (ht : P.underlying t = some (.slice e)) (hi : P.info? e = some i) (hz : i.zero = some z)
    (hsize : i.size = size) (hby : i.bytes = bytes) (hzs : z.cells.size = size) (hsz : 0 < size) (v : Value) (n : Nat) (xs : List Value) (hown : w.ownsRow base e size v n xs)
    (ao : Option Addr) (m c : Nat) (news : List Value) (hl : news.length = m * size) (h0 : ao = none → m = 0 ∧ c = 0) (hnews : ∀ a, ao = some a → ∀ j u, news[j]? = some u → w.cell? (a.add j) = some u) (h1 : ∀ u ∈ news, u.oneCell' = true)
    (h63 : n + m ≤ maxLen) (hbytes : (n + m) * bytes ≤ 140737488355328) (hbase : base ≤ w.heap.size) :
    ∃ v' w', (Builtin.append_ #[t, t] ty #[v, .slice ao m c]).run P w = .ok v' w' ∧ w'.ownsRow base e size v' (n + m) (xs ++ news) ∧ w.grownBy w' v.ownBlock ∧ (v'.ownBlock = v.ownBlock ∨ v'.ownBlock = some w.heap.size) := by
  cases ao with
  | some a =>
    obtain ⟨v', w', hr, h2, h3, h4, h5⟩ := run_append_own_at (P := P) w base t ty e i z size bytes ht hi hz hsize hby hzs hsz v n xs hown a m c news hl (hnews a rfl) h1 h63 hbytes hbase
    exact ⟨v', w', hr, h2, h3, h5⟩
  | none =>
    obtain ⟨rfl, rfl⟩ := h0 rfl
    have hn : news = [] := List.eq_nil_of_length_eq_zero (by simpa using hl)
    subst hn
    refine ⟨v, w, ?_, by simpa using hown, World.grownBy.refl _ _, .inl rfl⟩
    rcases hown.2 with ⟨rfl, rfl⟩ | ⟨g, cap, cur, rfl, _, _, hnc, _⟩
    · simp [Builtin.append_, run_underlying ht, sizeOf, typeInfo, hi, Builtin.lenOf, Builtin.firstCells]
    · simp [Builtin.append_, run_underlying ht, sizeOf, typeInfo, hi, hnc, storeCells, Builtin.lenOf, Builtin.firstCells]

theorem wpList_append_any {P : Program} (w : World) {ops : Array Oper} {rest : List Oper} {o : Oper} {a : Act} {Q : Exit → Act → World → Prop} (hgd : o.guard = none) (s x : Operand) (t : TypeId)
    (ho : o.op = .call { callee := .builtin .append, args := #[s, x], argTypes := #[t, t] })
    (base : Nat) (e : TypeId) (i : TypeInfo) (z : Value) (size bytes : Nat) (ht : P.underlying t = some (.slice e)) (hi : P.info? e = some i) (hz : i.zero = some z)
    (hsize : i.size = size) (hby : i.bytes = bytes) (hzs : z.cells.size = size) (hsz : 0 < size)
    (v : Value) (n : Nat) (xs : List Value) (hs : a.eval s = v) (hown : w.ownsRow base e size v n xs)
    (ao : Option Addr) (m c : Nat) (news : List Value) (hx : a.eval x = .slice ao m c) (hl : news.length = m * size) (h0 : ao = none → m = 0 ∧ c = 0) (hnews : ∀ a, ao = some a → ∀ j u, news[j]? = some u → w.cell? (a.add j) = some u) (h1 : ∀ u ∈ news, u.oneCell' = true)
    (h63 : n + m ≤ maxLen) (hbytes : (n + m) * bytes ≤ 140737488355328) (hbase : base ≤ w.heap.size)
    (h : ∀ v' w', w'.ownsRow base e size v' (n + m) (xs ++ news) → Hid (w.grownBy w' v.ownBlock) → Hid (v'.ownBlock = v.ownBlock ∨ v'.ownBlock = some w.heap.size) → wpList P ops Q rest (a.put o.dst v') w') : wpList P ops Q (o :: rest) a w := by
  refine wpList_plain hgd fun K hK => ?_
  obtain ⟨v', w', hr, h2, h3, h4⟩ := run_append_any (P := P) w base t o.type e i z size bytes ht hi hz hsize hby hzs hsz v n xs hown ao m c news hl h0 hnews h1 h63 hbytes hbase
  unfold Oper.wp execOp
  simp only [ho, resolve, invoke, builtin, Sem.run_bind, Sem.run_pure, Result.andThen_ok, List.map_toArray, List.map_cons, List.map_nil, hs, hx, hr]
  exact hK _ _ (h v' w' h2 h3 h4)
end Go.Proofs.Ytkdcpnbfeagggaa
end
section
/- Arguments: items, with their parts and others, as cells. -/
namespace Go.Proofs.Ytkdcpnbfeagggaa
namespace Kt
open Go.ChangeShapes Go.WideShapes Go.ChangeAt Go.RowKit Go.Maps Go.Deep
set_option linter.unusedVariables false
set_option linter.constructorNameAsVariable false
set_option maxRecDepth 100000

theorem cell_lt {w : World} {p : Addr} {u : Value} (h : w.cell? p = some u) : p.block < w.heap.size := World.block_lt_of_cell? w p h
theorem pcells_get : ∀ (l : List Pt) (j : Nat) (u : Value), (pcells l)[j]? = some u → ∃ (k : Nat) (p : Pt), l[k]? = some p ∧ ((j = k * 2 ∧ u = encStr p.1) ∨ (j = k * 2 + 1 ∧ u = .int .i64 p.2))
  | [], j, u, h => by simp [pcells] at h
  | p :: l, 0, u, h => ⟨0, p, rfl, .inl ⟨rfl, by simpa [pcells] using h.symm⟩⟩
  | p :: l, 1, u, h => ⟨0, p, rfl, .inr ⟨rfl, by simpa [pcells] using h.symm⟩⟩
  | p :: l, j + 2, u, h => by
    obtain ⟨k, q, hk, hj⟩ := pcells_get l j u (by simpa [pcells] using h)
    exact ⟨k + 1, q, by simpa using hk, by
      rcases hj with ⟨rfl, rfl⟩ | ⟨rfl, rfl⟩
      · exact .inl ⟨by omega, rfl⟩
      · exact .inr ⟨by omega, rfl⟩⟩

/-- Parts whose slice lies in a cell. -/
theorem parts_of_cell {H : Type} {enc : TypeId × Value → H} {W : World} {base fuel : Nat} {sp : Nat → Bool} {held : Bool} {v : Value} {x : DataW H × List MemPlace}
    (hf : DataW.trod enc Try.prog W base sp held fuel 29 [v] = some x) : ∃ l, PSl W W.heap.size v l ∧ Sized l ∧ (l = [] ∨ ∃ elems spare, x.1 = .slice elems spare ∧ l.length = elems.length) := by
  rcases open_slice Try.underlying29 hf with ⟨hcs, _⟩ | ⟨a, len, cap, m, n, D, Pl, hcs, _, hl, hm, hmm, hx, hi⟩
  · simp at hcs
    subst hcs
    exact ⟨[], ⟨none, 0, rfl, Nat.le_refl _, by simp [maxLen], fun _ => rfl, Lies.none⟩, Sized.nil, .inl rfl⟩
  · simp at hcs
    subst hcs
    have hlm : len ≤ m := by rw [hmm]; split <;> omega
    have hC : Try.prog.cellsOf 34 = 2 := by kernel_rfl
    have hpt : ∀ i, i < len → ∃ q : Pt, W.cell? (a.add (i * 2)) = some (encStr q.1) ∧ W.cell? (a.add (i * 2 + 1)) = some (.int .i64 q.2) ∧ q.1.length ≤ maxLen ∧ -9223372036854775808 ≤ q.2 ∧ q.2 ≤ 9223372036854775807 := by
      intro i hil
      obtain ⟨cs', hc, ht⟩ := hi i (by omega)
      rw [hC] at hc
      obtain ⟨y0, y1, n', hxx, hcl, t0, t1⟩ := trod_struct2 Try.underlying34 ht
      obtain ⟨s, hs, _, hsl⟩ := DataW.trod_string Try.underlying9 t0
      obtain ⟨z, hz, _, hzw⟩ := DataW.trod_int Try.underlying2 t1
      obtain ⟨_, hlen, hat⟩ := World.cells?_some hc
      have hC9 : Try.prog.cellsOf 9 = 1 := by kernel_rfl
      have hC2 : Try.prog.cellsOf 2 = 1 := by kernel_rfl
      match cs', hlen with
      | [u0, u1], _ =>
        simp only [hC9, hC2, List.drop_zero, List.drop_succ_cons, List.take_succ_cons, List.take_zero, List.cons.injEq, and_true] at hs hz
        subst hs
        subst hz
        have c0 := hat 0 (by omega)
        have c1 := hat 1 (by omega)
        rw [addr_add] at c0 c1
        refine ⟨(s.data.toList, z), c0, c1, by show s.data.toList.length ≤ maxLen; rw [Array.length_toList]; exact hsl, ?_⟩
        exact bounds_i64 hzw
    let f : Nat → Pt := fun i => if h : i < len then Classical.choose (hpt i h) else ([], 0)
    have hff : ∀ i, i < len → W.cell? (a.add (i * 2)) = some (encStr (f i).1) ∧ W.cell? (a.add (i * 2 + 1)) = some (.int .i64 (f i).2) ∧ (f i).1.length ≤ maxLen ∧ -9223372036854775808 ≤ (f i).2 ∧ (f i).2 ≤ 9223372036854775807 := by
      intro i hil
      have := Classical.choose_spec (hpt i hil)
      simp only [f, dif_pos hil]
      exact this
    have hgetl : ∀ (k : Nat) (q : Pt), ((List.range len).map f)[k]? = some q → k < len ∧ q = f k := by
      intro k q hq
      rw [List.getElem?_map] at hq
      by_cases hk : k < len
      · rw [List.getElem?_range hk] at hq
        exact ⟨hk, by simpa using hq.symm⟩
      · rw [List.getElem?_eq_none (by simpa using hk)] at hq
        cases hq
    have hlen : ((List.range len).map f).length = len := by simp
    refine ⟨(List.range len).map f, ⟨some a, cap, by rw [hlen], by omega, hm, fun h => (by cases h), fun hne => ?_⟩, fun q hq => ?_, .inr ?_⟩
    · have h0 : 0 < len := by
        rcases Nat.eq_zero_or_pos len with h | h
        · subst h; simp [pcells] at hne
        · exact h
      refine ⟨a, rfl, by have := cell_lt (hff 0 h0).1; rw [addr_block] at this; exact this, fun j u hu => ?_⟩
      obtain ⟨k, q, hk, hj⟩ := pcells_get _ j u hu
      obtain ⟨hkl, rfl⟩ := hgetl k q hk
      rcases hj with ⟨rfl, rfl⟩ | ⟨rfl, rfl⟩
      · exact (hff k hkl).1
      · exact (hff k hkl).2.1
    · obtain ⟨k, hk, rfl⟩ := List.mem_map.1 hq
      have := hff k (by simpa using hk)
      exact this.2.2
    · exact ⟨_, _, by rw [hx], by simp⟩

/-- Texts whose slice lies in a cell. -/
theorem texts_of_cell {H : Type} {enc : TypeId × Value → H} {W : World} {base fuel : Nat} {sp : Nat → Bool} {held : Bool} {v : Value} {x : DataW H × List MemPlace}
    (hf : DataW.trod enc Try.prog W base sp held fuel 30 [v] = some x) : ∃ l, TSl W W.heap.size v l ∧ (∀ s ∈ l, s.length ≤ maxLen) ∧ (l = [] ∨ ∃ elems spare, x.1 = .slice elems spare ∧ l.length = elems.length) := by
  rcases open_slice Try.underlying30 hf with ⟨hcs, _⟩ | ⟨a, len, cap, m, n, D, Pl, hcs, _, hl, hm, hmm, hx, hi⟩
  · simp at hcs
    subst hcs
    exact ⟨[], TSl.nil, by simp, .inl rfl⟩
  · simp at hcs
    subst hcs
    have hlm : len ≤ m := by rw [hmm]; split <;> omega
    have hC : Try.prog.cellsOf 9 = 1 := by kernel_rfl
    have hpt : ∀ i, i < len → ∃ q : List UInt8, W.cell? (a.add i) = some (strV q) ∧ q.length ≤ maxLen := by
      intro i hil
      obtain ⟨cs', hc, ht⟩ := hi i (by omega)
      rw [hC, Nat.mul_one] at hc
      obtain ⟨s, hs, _, hsl⟩ := DataW.trod_string Try.underlying9 ht
      obtain ⟨_, hlen, hat⟩ := World.cells?_some hc
      subst hs
      have c0 := hat 0 (by omega)
      rw [addr_add] at c0
      exact ⟨s.data.toList, c0, by show s.data.toList.length ≤ maxLen; rw [Array.length_toList]; exact hsl⟩
    obtain ⟨f, hff⟩ := choose_lt hpt
    have hlen : ((List.range len).map f).length = len := by simp
    refine ⟨(List.range len).map f, ⟨some a, cap, by rw [hlen], by omega, hm, fun h => (by cases h), fun hne => ?_⟩, fun q hq => ?_, .inr ⟨_, _, by rw [hx], by simp⟩⟩
    · have h0 : 0 < len := by
        rcases Nat.eq_zero_or_pos len with h | h
        · subst h; simp [tcells] at hne
        · exact h
      refine ⟨a, rfl, by have := cell_lt (hff 0 h0).1; rw [addr_block] at this; exact this, fun j u hu => ?_⟩
      have hj : j < len := by have := (List.getElem?_eq_some_iff.1 hu).1; rw [tcells_length, hlen] at this; exact this
      have h1 := tcells_get (l := (List.range len).map f) (k := j) (s := f j) (by simp [hj])
      rw [h1] at hu
      rw [← hu]
      exact (hff j hj).1
    · obtain ⟨k, hk, rfl⟩ := List.mem_map.1 hq
      exact (hff k (by simpa using hk)).2

/-- Items of any size that a call can hand. -/
def Iv.Wide (x : Iv) : Prop := x.it.code.length ≤ maxLen ∧ (-9223372036854775808 ≤ x.it.life ∧ x.it.life ≤ 9223372036854775807) ∧ Sized x.it.parts ∧ (∀ s ∈ x.others, s.length ≤ maxLen)
/-- How an item's lists lie in what was handed. -/
def Iv.In {H : Type} (x : Iv) (d : DataW H) : Prop := ∃ d0 d1 d2 d3, d = .agg [d0, d1, d2, d3] ∧ (x.it.parts = [] ∨ ∃ elems spare, d2 = .slice elems spare ∧ x.it.parts.length = elems.length) ∧ (x.others = [] ∨ ∃ elems spare, d3 = .slice elems spare ∧ x.others.length = elems.length)
theorem item_of_cells {H : Type} {enc : TypeId × Value → H} {W : World} {base fuel : Nat} {sp : Nat → Bool} {held : Bool} {cs : List Value} {x : DataW H × List MemPlace} (hl : cs.length = 4)
    (h : DataW.trod enc Try.prog W base sp held fuel 32 cs = some x) : ∃ y : Iv, cs = encI y ∧ ISub W W.heap.size y ∧ y.Wide ∧ y.In x.1 := by
  obtain ⟨ys, n, _, hx, _, hyl, hf⟩ := DataW.trod_struct Try.underlying32 h
  match cs, hl with
  | [c0, c1, c2, c3], _ =>
    have hC3 : Try.prog.cellsOf 3 = 1 := by kernel_rfl
    have hC9 : Try.prog.cellsOf 9 = 1 := by kernel_rfl
    have hCP : Try.prog.cellsOf 29 = 1 := by kernel_rfl
    have hCO : Try.prog.cellsOf 30 = 1 := by kernel_rfl
    match ys, hyl with
    | [y0, y1, y2, y3], _ =>
    have g0 : DataW.trod enc Try.prog W base sp held n 9 [c0] = some y0 := by have h := hf 0 _ rfl; simpa [hC9] using h
    have g1 : DataW.trod enc Try.prog W base sp held n 3 [c1] = some y1 := by have h := hf 1 _ rfl; simpa [hC3] using h
    have g2 : DataW.trod enc Try.prog W base sp held n 29 [c2] = some y2 := by have h := hf 2 _ rfl; simpa [hCP] using h
    have g3 : DataW.trod enc Try.prog W base sp held n 30 [c3] = some y3 := by have h := hf 3 _ rfl; simpa [hCO] using h
    obtain ⟨s, e0, _, w0⟩ := DataW.trod_string Try.underlying9 g0
    obtain ⟨i, e1, _, w1⟩ := DataW.trod_int Try.underlying3 g1
    obtain ⟨ps, hp, hps, hpd⟩ := parts_of_cell g2
    obtain ⟨os, ho, hos, hod⟩ := texts_of_cell g3
    simp only [List.cons.injEq, and_true] at e0 e1
    subst e0 e1
    exact ⟨⟨⟨s.data.toList, i, ps⟩, os, c2, c3⟩, rfl, ⟨hp, ho⟩, ⟨by show s.data.toList.length ≤ maxLen; rw [Array.length_toList]; exact w0, bounds_i64 w1, hps, hos⟩, ⟨_, _, _, _, by rw [hx]; rfl, hpd, hod⟩⟩

instance : Inhabited Iv := ⟨⟨⟨[], 0, []⟩, [], .slice none 0 0, .slice none 0 0⟩⟩
/-- A list of items that is handed. -/
theorem open_items {H : Type} {enc : TypeId × Value → H} {W : World} {r : Go.Reach} {b0 base : Nat} {sp : Nat → Bool} {held : Bool} {v : Value} {d : DataW H} {p : List MemPlace} (hval : Value.okWide Try.prog W r b0 22 v)
    (h : DataW.Trod enc Try.prog W base sp held 22 v d p) : ∃ l, ISl W W.heap.size v l ∧ (∀ x ∈ l, Iv.Wide x) ∧ (l = [] ∨ ∃ elems spare, d = .slice elems spare ∧ l.length = elems.length ∧ ∀ (k : Nat) (x : Iv), l[k]? = some x → ∃ e, elems[k]? = some e ∧ x.In e) := by
  obtain ⟨a0, len0, cap0, rfl⟩ := okWide_slice Try.underlying22 hval
  obtain ⟨fuel, hf⟩ := h
  rcases open_slice Try.underlying22 hf with ⟨hcs, _⟩ | ⟨a, len, cap, m, n, D, Pl, hcs, _, hl, hm, hmm, hx, hi⟩
  · simp [Value.cells] at hcs
    obtain ⟨rfl, rfl, rfl⟩ := hcs
    exact ⟨[], ⟨⟨none, 0, rfl, Nat.le_refl _, by simp [maxLen], fun _ => rfl, Lies.none⟩, fun x hx => by simp at hx⟩, fun x hx => by simp at hx, .inl rfl⟩
  · simp [Value.cells] at hcs
    obtain ⟨rfl, rfl, rfl⟩ := hcs
    have hlm : len0 ≤ m := by rw [hmm]; split <;> omega
    have hC : Try.prog.cellsOf 32 = 4 := by kernel_rfl
    have hpt : ∀ i, i < len0 → ∃ y : Iv, (ISub W W.heap.size y ∧ y.Wide ∧ y.In (D i)) ∧ ∀ c u, (encI y)[c]? = some u → W.cell? (a.add (i * 4 + c)) = some u := by
      intro i hil
      obtain ⟨cs', hc, ht⟩ := hi i (by omega)
      rw [hC] at hc
      obtain ⟨_, hlen, hat⟩ := World.cells?_some hc
      obtain ⟨y, rfl, hy1, hy2, hy3⟩ := item_of_cells hlen ht
      refine ⟨y, ⟨hy1, hy2, hy3⟩, fun c u hu => ?_⟩
      have hc4 : c < 4 := by have := (List.getElem?_eq_some_iff.1 hu).1; rw [encI_length] at this; exact this
      have := hat c hc4
      rw [addr_add] at this
      rw [this, hu]
    obtain ⟨f, hff⟩ := choose_lt hpt
    have hlen : ((List.range len0).map f).length = len0 := by simp
    have hget : ∀ k, k < len0 → ((List.range len0).map f)[k]? = some (f k) := fun k hk => by simp [hk]
    have hmemf : ∀ q ∈ (List.range len0).map f, ∃ k, k < len0 ∧ f k = q := fun q hq => by
      obtain ⟨k, hk, rfl⟩ := List.mem_map.1 hq
      exact ⟨k, by simpa using hk, rfl⟩
    refine ⟨(List.range len0).map f, ⟨⟨some a, cap0, by rw [hlen], by omega, hm, fun h => (by cases h), fun hne => ?_⟩, fun q hq => ?_⟩, fun q hq => ?_, .inr ?_⟩
    · have h0 : 0 < len0 := by
        rcases Nat.eq_zero_or_pos len0 with h | h
        · subst h; simp [icells] at hne
        · exact h
      refine ⟨a, rfl, by have := cell_lt ((hff 0 h0).2 0 _ rfl); rw [addr_block] at this; exact this, fun j u hu => ?_⟩
      have hj : j < len0 * 4 := by have := (List.getElem?_eq_some_iff.1 hu).1; rw [icells_length, hlen] at this; exact this
      have hk : j / 4 < len0 := by omega
      have := icells_get _ _ _ (hget (j / 4) hk) (j % 4) (by omega)
      rw [show j / 4 * 4 + j % 4 = j by omega] at this
      rw [this] at hu
      have := (hff (j / 4) hk).2 (j % 4) u hu
      rwa [show j / 4 * 4 + j % 4 = j by omega] at this
    · obtain ⟨k, hk, rfl⟩ := hmemf q hq
      exact (hff k hk).1.1
    · obtain ⟨k, hk, rfl⟩ := hmemf q hq
      exact (hff k hk).1.2.1
    · simp only [Prod.mk.injEq] at hx
      refine ⟨_, _, hx.1, by simp, fun k x hkx => ?_⟩
      by_cases hk : k < len0
      · rw [hget k hk] at hkx
        cases hkx
        exact ⟨D k, by simp [hk], (hff k hk).1.2.2⟩
      · rw [List.getElem?_eq_none (by rw [hlen]; omega)] at hkx; cases hkx
theorem Iv.Wide.big {l : List Iv} (h : ∀ x ∈ l, Iv.Wide x) (hl : ∀ x ∈ l, x.it.parts.length ≤ 140737488355328 ∧ x.others.length ≤ 140737488355328) : BigI l := fun x hx => ⟨(h x hx).1, (h x hx).2.2.1, hl x hx⟩
theorem Iv.Wide.sized {l : List Iv} (h : ∀ x ∈ l, Iv.Wide x) (hl : FewI l) : SizedI l := fun x hx => by
  obtain ⟨h1, h2, h3, h4⟩ := h x hx
  have := hl x hx
  exact ⟨h1, h2, h3, h4, by omega, by omega⟩

theorem weightsAll_mem {H : Type} {P : Program} {e : TypeId} : ∀ {ds : List (DataW H)} {k : Nat} {d : DataW H}, ds[k]? = some d → ∀ n ∈ d.weights P e, n ∈ DataW.weightsAll P e ds
  | d0 :: ds, 0, d, hd, n, hn => by
    simp only [List.getElem?_cons_zero, Option.some.injEq] at hd
    subst hd
    simp only [DataW.weightsAll, List.mem_append]
    exact .inl hn
  | d0 :: ds, k + 1, d, hd, n, hn => by
    simp only [List.getElem?_cons_succ] at hd
    simp only [DataW.weightsAll, List.mem_append]
    exact .inr (weightsAll_mem hd n hn)
  | [], _, _, hd, _, _ => by simp at hd
/-- The lists inside of what is handed are no longer than what can be handed. -/
theorem sized_items {H : Type} {ts : List TypeId} {ds : List (DataW H)} (h : (DataW.weightsEach Try.prog ts ds).all (· ≤ reachBytes) = true) {j : Nat} {elems spare : List (DataW H)} (ht : ts[j]? = some 22) (hd : ds[j]? = some (.slice elems spare))
    {l : List Iv} (hl : ∀ (k : Nat) (x : Iv), l[k]? = some x → ∃ e, elems[k]? = some e ∧ x.In e) : ∀ x ∈ l, x.it.parts.length ≤ 140737488355328 ∧ x.others.length ≤ 140737488355328 := by
  intro x hx
  obtain ⟨k, hk⟩ := List.getElem?_of_mem hx
  obtain ⟨e, he, d0, d1, d2, d3, rfl, hp, ho⟩ := hl k x hk
  have hall : ∀ n ∈ DataW.weightsEach Try.prog [9, 3, 29, 30] [d0, d1, d2, d3], n ≤ reachBytes := by
    intro n hn
    have h1 : n ∈ (DataW.agg [d0, d1, d2, d3] : DataW H).weights Try.prog 32 := by
      simp only [DataW.weights, Try.underlying32]
      exact hn
    have h2 := weightsAll_mem he n h1
    have h3 := List.all_eq_true.1 h n (DataW.weights_mem_each ht hd n (by
      simp only [DataW.weights, Try.underlying22, List.mem_cons, List.mem_append]
      exact .inr (.inl h2)))
    simpa using h3
  have hlt := reachBytes_lt
  constructor
  · rcases hp with hp | ⟨el, sp, rfl, hp⟩
    · simp [hp]
    · have hB : Try.prog.bytesOf 34 = 24 := by kernel_rfl
      have := hall _ (DataW.weights_mem_each (j := 2) rfl rfl ((el.length + sp.length) * Try.prog.bytesOf 34) (by simp [DataW.weights, Try.underlying29]))
      rw [hB] at this
      omega
  · rcases ho with ho | ⟨el, sp, rfl, ho⟩
    · simp [ho]
    · have hB : Try.prog.bytesOf 9 = 16 := by kernel_rfl
      have := hall _ (DataW.weights_mem_each (j := 3) rfl rfl ((el.length + sp.length) * Try.prog.bytesOf 9) (by simp [DataW.weights, Try.underlying30]))
      rw [hB] at this
      omega
end Kt
end Go.Proofs.Ytkdcpnbfeagggaa
end
