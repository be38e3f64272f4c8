/- Texts of this proof, one behind the other. -/
import Derived.Deep.DeepCutAuto
import Derived.Test.YtepkmgmooadbjaaRows
import Derived.Deep.Slices
import Derived.Deep.Fields
import Derived.ChangeSame
import Derived.SizedLaws
import Derived.OpenShut
import Derived.Test.YtepkmgmooadbjaaB03
section
/- storemanlaw09.count: how many lots of a list are this one. -/
namespace Go.Proofs.Ytepkmgmooadbjaa
open Go.ChangeShapes Go.WideShapes Go.ChangeAt Go.RowKit
set_option linter.unusedVariables false

def cnt (l : List Lt) (x : Lt) : Nat := (l.filter (fun y => decide (y = x))).length
theorem cnt_perm {l m : List Lt} (h : l.Perm m) (x : Lt) : cnt l x = cnt m x := (h.filter _).length_eq
theorem cnt_le (l : List Lt) (x : Lt) : cnt l x ≤ l.length := List.length_filter_le _ _
theorem cnt_succ {l : List Lt} {k : Nat} {y x : Lt} (h : l[k]? = some y) : cnt (l.take (k + 1)) x = cnt (l.take k) x + (if y = x then 1 else 0) := by
  unfold cnt
  rw [filter_take_succ _ h, List.length_append]
  by_cases e : y = x <;> simp [e]
theorem ret_long {a b : Int} (h : a = b) : Ending.returned (.int .i64 a) = .returned (.int .i64 b) := by rw [h]
def CmpEq (b : Bool) (x y : Lt) : Prop := ∀ w, (binOp .eql 24 (.agg #[.int .i64 x.id, .string ⟨x.item.toArray⟩, .int .i64 x.qty, .int .i64 x.asked, .int .i64 x.rank, .int .u8 x.state, .int .i64 x.day, .string ⟨x.code.toArray⟩]) (.agg #[.int .i64 y.id, .string ⟨y.item.toArray⟩, .int .i64 y.qty, .int .i64 y.asked, .int .i64 y.rank, .int .u8 y.state, .int .i64 y.day, .string ⟨y.code.toArray⟩])).run Try.prog w = .ok (.bool b) w

set_option maxHeartbeats 1000000 in
theorem count_any (v : Value) (l : List Lt) (x : Lt) (w : World) (hv : LSl w w.heap.size v l) (hlen : l.length ≤ 1048576) :
    Calls Try.prog 14 #[v, .agg #[.int .i64 x.id, .string ⟨x.item.toArray⟩, .int .i64 x.qty, .int .i64 x.asked, .int .i64 x.rank, .int .u8 x.state, .int .i64 x.day, .string ⟨x.code.toArray⟩]] w fun e w' => e = .returned (.int .i64 (cnt l x)) ∧ Below w.heap.size w w' := by
  obtain ⟨A, c, rfl, hc1, hc2, hcz, hl⟩ := id hv
  have HV := Lib.hid hv
  have hbx := Lib.hid (Box6.new w x)
  clear hv hl
  go_enter Try.func14, Try.ntmps14
  go_wp2
  go_loopw [5, 6] (fun n i wr => ∃ k : Nat, k ≤ l.length ∧ i = .int .i64 k ∧ n = .int .i64 (cnt (l.take k) x) ∧ Hid (Below (w.heap.size + 1) (w.alloc (.cells #[.int .i64 x.id, .string ⟨x.item.toArray⟩, .int .i64 x.qty, .int .i64 x.asked, .int .i64 x.rank, .int .u8 x.state, .int .i64 x.day, .string ⟨x.code.toArray⟩] 24)) wr)) (fun _ i _ => l.length - (intOf i).toNat)
  case atStart => exact ⟨0, Nat.zero_le _, rfl, rfl, Lib.hid (Below.refl _ _)⟩
  case round =>
    obtain ⟨k, hk, rfl, rfl, HB⟩ := hrel
    by_cases hlt : k < l.length
    · obtain ⟨y, hy⟩ : ∃ y, l[k]? = some y := ⟨_, List.getElem?_eq_getElem hlt⟩
      obtain ⟨ap, hap, _, hp0, hp1, hp2, hp3, hp4, hp5, hp6, hp7⟩ := ((HV.out.alloc_ (Nat.le_refl _) _).below (HB.out.mono (by omega))).six hy
      subst hap
      have hb6 : Box6 wr w.heap.size x := (HB.out.block w.heap.size (by omega)).trans hbx.out
      obtain ⟨d0, d1, d2, d3, d4, d5, d6, d7⟩ := hb6.cells
      have hs := Lib.hid (cnt_succ (x := x) hy)
      have hle := Nat.le_trans (cnt_le (l.take k) x) (List.length_take_le _ _)
      have HY := Lib.hid hy
      clear hy hb6
      generalize cnt (l.take k) x = n at hs hle ⊢
      by_cases hyx : y = x
      · have hne : CmpEq true y x := fun w => by have := eql_lot y x w; rw [decide_eq_true hyx] at this; exact this
        unfold CmpEq at hne
        have hsn : Hid (cnt (l.take (k + 1)) x = n + 1) := Lib.hid (by rw [hs.out, if_pos hyx])
        clear hyx hs
        go_wp2
        go_quiet (fail)
        go_wp2
        go_roundw
        case rel => exact ⟨k + 1, by omega, by go_num, by rw [hsn.out]; go_num, Lib.hid (below_draws HB.out _)⟩
        case measure => simp [intOf]; omega
      · have hne : CmpEq false y x := fun w => by have := eql_lot y x w; rw [decide_eq_false hyx] at this; exact this
        unfold CmpEq at hne
        have hsn : Hid (cnt (l.take (k + 1)) x = n) := Lib.hid (by rw [hs.out, if_neg hyx, Nat.add_zero])
        clear hyx hs
        go_wp2
        go_quiet (fail)
        go_wp2
        go_roundw
        case rel => exact ⟨k + 1, by omega, by go_num, by rw [hsn.out], Lib.hid (below_draws HB.out _)⟩
        case measure => simp [intOf]; omega
    · obtain rfl : k = l.length := by omega
      go_wp2
      go_ret
      exact ⟨ret_long (by rw [List.take_length]), (below_alloc1 w _).trans (HB.out.mono (by omega))⟩
end Go.Proofs.Ytepkmgmooadbjaa
end
section
/- The law RankOrder: whatever lines; the walk. Written by gen_rorder.py. -/
namespace Go.Proofs.Ytepkmgmooadbjaa
open Go.ChangeShapes Go.WideShapes Go.ChangeAt Go.RowKit
set_option linter.unusedVariables false

/-- Three boxes that hold three lots, behind a world. -/
def Held3 (w : World) (a b c : Lt) (W : World) : Prop := Box6 W w.heap.size a ∧ Box6 W (w.heap.size + 1) b ∧ Box6 W (w.heap.size + 2) c ∧ Below w.heap.size w W
theorem Held3.next {w W W' : World} {a b c : Lt} (h : Held3 w a b c W) (hb : Below W.heap.size W W') : Held3 w a b c W' :=
  ⟨h.1.below h.1.lt hb, h.2.1.below h.2.1.lt hb, h.2.2.1.below h.2.2.1.lt hb, below_two h.2.2.2 hb⟩
abbrev objX (x : Lt) : Obj := .cells #[.int .i64 x.id, .string ⟨x.item.toArray⟩, .int .i64 x.qty, .int .i64 x.asked, .int .i64 x.rank, .int .u8 x.state, .int .i64 x.day, .string ⟨x.code.toArray⟩] 24
theorem held3_start (w : World) (a b c : Lt) : Held3 w a b c (((w.alloc (objX a)).alloc (objX b)).alloc (objX c)) := by
  have h1 := Box6.new w a
  have h2 := Box6.new (w.alloc (objX a)) b
  have h3 := Box6.new ((w.alloc (objX a)).alloc (objX b)) c
  simp only [World.size_alloc] at h2 h3
  exact ⟨(h1.below h1.lt (below_alloc1 _ _)).below (by simp; omega) (below_alloc1 _ _), h2.below (by simp) (below_alloc1 _ _), h3, (below_alloc3 w _ _).alloc (by simp; omega) _⟩
theorem held3_cells {w W : World} {a b c : Lt} (h : Held3 w a b c W) :
    (W.cell? ⟨w.heap.size, 0, none⟩ = some (.int .i64 a.id) ∧ W.cell? ⟨w.heap.size, 1, none⟩ = some (.string ⟨a.item.toArray⟩) ∧ W.cell? ⟨w.heap.size, 2, none⟩ = some (.int .i64 a.qty) ∧ W.cell? ⟨w.heap.size, 3, none⟩ = some (.int .i64 a.asked) ∧ W.cell? ⟨w.heap.size, 4, none⟩ = some (.int .i64 a.rank) ∧ W.cell? ⟨w.heap.size, 5, none⟩ = some (.int .u8 a.state) ∧ W.cell? ⟨w.heap.size, 6, none⟩ = some (.int .i64 a.day) ∧ W.cell? ⟨w.heap.size, 7, none⟩ = some (.string ⟨a.code.toArray⟩)) ∧
    (W.cell? ⟨w.heap.size + 1, 0, none⟩ = some (.int .i64 b.id) ∧ W.cell? ⟨w.heap.size + 1, 1, none⟩ = some (.string ⟨b.item.toArray⟩) ∧ W.cell? ⟨w.heap.size + 1, 2, none⟩ = some (.int .i64 b.qty) ∧ W.cell? ⟨w.heap.size + 1, 3, none⟩ = some (.int .i64 b.asked) ∧ W.cell? ⟨w.heap.size + 1, 4, none⟩ = some (.int .i64 b.rank) ∧ W.cell? ⟨w.heap.size + 1, 5, none⟩ = some (.int .u8 b.state) ∧ W.cell? ⟨w.heap.size + 1, 6, none⟩ = some (.int .i64 b.day) ∧ W.cell? ⟨w.heap.size + 1, 7, none⟩ = some (.string ⟨b.code.toArray⟩)) ∧
    (W.cell? ⟨w.heap.size + 2, 0, none⟩ = some (.int .i64 c.id) ∧ W.cell? ⟨w.heap.size + 2, 1, none⟩ = some (.string ⟨c.item.toArray⟩) ∧ W.cell? ⟨w.heap.size + 2, 2, none⟩ = some (.int .i64 c.qty) ∧ W.cell? ⟨w.heap.size + 2, 3, none⟩ = some (.int .i64 c.asked) ∧ W.cell? ⟨w.heap.size + 2, 4, none⟩ = some (.int .i64 c.rank) ∧ W.cell? ⟨w.heap.size + 2, 5, none⟩ = some (.int .u8 c.state) ∧ W.cell? ⟨w.heap.size + 2, 6, none⟩ = some (.int .i64 c.day) ∧ W.cell? ⟨w.heap.size + 2, 7, none⟩ = some (.string ⟨c.code.toArray⟩)) :=
  ⟨h.1.cells, h.2.1.cells, h.2.2.1.cells⟩

theorem cmpL_anti (a b : Lt) : cmpL a b < 0 ↔ 0 < cmpL b a := (cmpL_neg a b).trans (cmpL_pos b a).symm
theorem cmpL_le_trans {a b c : Lt} (h1 : cmpL a b ≤ 0) (h2 : cmpL b c ≤ 0) : cmpL a c ≤ 0 ∧ (cmpL a c < 0 ∨ (cmpL a b = 0 ∧ cmpL b c = 0)) := by
  have e1 : ¬ (b.rank < a.rank ∨ (b.rank = a.rank ∧ b.id < a.id)) := fun h => absurd ((cmpL_pos a b).2 h) (by omega)
  have e2 : ¬ (c.rank < b.rank ∨ (c.rank = b.rank ∧ c.id < b.id)) := fun h => absurd ((cmpL_pos b c).2 h) (by omega)
  refine ⟨Int.not_lt.1 (fun h => ?_), ?_⟩
  · have := (cmpL_pos a c).1 h
    omega
  · by_cases h : cmpL a c < 0
    · exact .inl h
    · have e3 : ¬ (a.rank < c.rank ∨ (a.rank = c.rank ∧ a.id < c.id)) := fun h' => h ((cmpL_neg a c).2 h')
      exact .inr ⟨(cmpL_zero a b).2 (by omega), (cmpL_zero b c).2 (by omega)⟩
theorem addr_zero6 (ad : Addr) : ad.add (0 * 8) = ad := by simp [Addr.add]
theorem neq_len {a b : Nat} (h : a = b) : ((a : Int) != (b : Int)) = false := by simp [h]
theorem eq_len {a b : Nat} (h : a = b) : ((a : Int) == (b : Int)) = true := by simp [h]
theorem le_of_len {a b n : Nat} (h : a = b) (h2 : b ≤ n) : a ≤ n := h ▸ h2
/-- What the comparisons of three lots tell of one another. -/
theorem cmp3 (a b c : Lt) : cmpL b a = -cmpL a b ∧ cmpL a a = 0 ∧ -1 ≤ cmpL a b ∧ cmpL a b ≤ 1 ∧
    (cmpL a b ≤ 0 → cmpL b c ≤ 0 → cmpL a c ≤ 0 ∧ (cmpL a c < 0 ∨ (cmpL a b = 0 ∧ cmpL b c = 0))) := by
  have p := cmpL_anti a b
  have q := cmpL_anti b a
  have r := cmpL_rng a b
  have r' := cmpL_rng b a
  refine ⟨by omega, (cmpL_zero a a).2 ⟨rfl, rfl⟩, by omega, by omega, fun h1 h2 => cmpL_le_trans h1 h2⟩

theorem Held3.blw {w W : World} {a b c : Lt} (h : Held3 w a b c W) : Below w.heap.size w W := h.2.2.2
theorem all_open {l out : List Lt} (h : Stab (l.filter openB) out) : ∀ x ∈ out, openB x = true := fun x hx => (List.mem_filter.1 (h.perm.mem_iff.1 hx)).2
theorem filter_self {l out : List Lt} (h : Stab (l.filter openB) out) : out.filter openB = out := List.filter_eq_self.2 (all_open h)
theorem cnt_open {l out : List Lt} (h : Stab (l.filter openB) out) {x : Lt} (hx : openB x = true) : cnt out x = cnt l x := by
  rw [cnt_perm h.perm]
  unfold cnt
  rw [List.filter_filter]
  congr 1
  apply List.filter_congr
  intro y _
  by_cases hy : y = x
  · subst hy; simp [hx]
  · simp [hy]
theorem open_one {x : Lt} (h : openB x = true) : x.state = 1 := by unfold openB at h; simpa using h
theorem open_again {l out out2 : List Lt} (h : Stab (l.filter openB) out) (h2 : Stab (out.filter openB) out2) : out2 = out := by
  rw [filter_self h] at h2
  exact h2.unique (stab_self h.pairs)
theorem open_len {l out : List Lt} (h : Stab (l.filter openB) out) : ((l.take l.length).filter openB).length = out.length := by
  rw [List.take_length, h.length]
theorem open_le {l out : List Lt} (h : Stab (l.filter openB) out) : out.length ≤ l.length := by
  rw [h.length]; exact List.length_filter_le _ _
theorem len_eq {a b : Nat} (h : a = b) : ((a : Int) == (b : Int)) = true := by simp [h]

set_option maxRecDepth 100000 in
set_option maxHeartbeats 8000000 in
theorem order_any (v : Value) (l : List Lt) (a b c : Lt) (w : World) (hv : LSl w w.heap.size v l) (hs : Sized l) (hlen : l.length ≤ 140737488355328) :
    Calls Try.prog 4 #[v, aggL a, aggL b, aggL c] w fun e w' => e = .returned (.bool true) ∧ Below w.heap.size w w' := by
  have HV := Lib.hid hv
  have HS : Hid (Sized l) := Lib.hid hs
  have HL := Lib.hid hlen
  have H0 := Lib.hid (held3_start w a b c)
  clear hv hs hlen
  go_enter Try.func4, Try.ntmps4
  go_wp2_with (first
    | (go_at_call 10; ((with_reducible refine (awake_any _).mono ?_); rintro e w1 ⟨rfl, hb1⟩; have H1 := Lib.hid (H0.out.next hb1); clear hb1))
    | (go_at_call 11; fail))
  refine (great_any v l w1 (HV.out.at_ H1.out.blw) HS.out HL.out).mono ?_
  rintro e wg ⟨bg, rfl, hbg, hfew⟩
  have HG := Lib.hid (H1.out.next hbg)
  clear hbg
  cases bg
  · have hl400 : l.length ≤ 400 := hfew rfl
    clear hfew
    obtain ⟨A0, c0, rfl, hcc1, hcc2, _⟩ := id HV.out
    go_wp2_with (first
      | (go_at_call 12; (first
          | ((with_reducible refine (open_any _ l wg (by omega) (HV.out.at_ HG.out.blw)).mono ?_); rintro e w2 ⟨sv, out, rfl, hst, ho, hb2⟩; have HO := Lib.hid (And.intro hst (And.intro (LSl.own ho) hb2)); obtain ⟨A2, c2, rfl, hd1, hd2, _⟩ := own_form ho; clear hst ho hb2; have ho400 := Nat.le_trans (open_le HO.out.1) hl400; have H2 := Lib.hid (HG.out.next HO.out.2.2))
          | ((with_reducible refine (open_any _ out w2 (by omega) HO.out.2.1).mono ?_); rintro e w3 ⟨sv3, out3, rfl, hst3, ho3, hb3⟩; obtain rfl : out3 = out := open_again HO.out.1 hst3; have H3 := Lib.hid (H2.out.next hb3); have HO3 := Lib.hid (And.intro (LSl.own ho3) (HO.out.2.1.at_ hb3)); clear hst3 ho3 hb3)))
      | (go_at_call 13; ((with_reducible refine (same_yes out3 _ _ w3 HO3.out.1 HO3.out.2 (by omega)).mono ?_); rintro e w4 ⟨rfl, hb4⟩; have H4 := Lib.hid (H3.out.next hb4); have HO4 := Lib.hid (HO3.out.2.at_ hb4); clear hb4)))
    have HV4 := Lib.hid (HV.out.at_ H4.out.blw)
    have HST := Lib.hid HO.out.1
    clear HO HO3
    go_loopw [10, 11] (fun n i wr => ∃ k : Nat, k ≤ l.length ∧ i = .int .i64 k ∧ n = .int .i64 (((l.take k).filter openB).length : Nat) ∧ Hid (Below w4.heap.size w4 wr)) (fun _ i _ => l.length - (intOf i).toNat)
    case atStart => exact ⟨0, Nat.zero_le _, rfl, rfl, Lib.hid (Below.refl _ _)⟩
    case round =>
      obtain ⟨k, hk, rfl, rfl, HB⟩ := hrel
      have hfl : ((l.take k).filter openB).length ≤ 400 := by have := List.length_filter_le openB (l.take k); have := List.length_take_le k l; omega
      by_cases hlt : k < l.length
      · obtain ⟨x, hx⟩ : ∃ x, l[k]? = some x := ⟨_, List.getElem?_eq_getElem hlt⟩
        obtain ⟨ad, rfl, hab, d0, d1, d2, d3, d4, d5, d6, d7⟩ := (HV4.out.below HB.out).six hx
        have HX := Lib.hid hx
        have hsu := filter_take_succ openB hx
        clear hx d0 d1 d2 d3 d4 d6 d7
        have hltI : (k : Int) < (l.length : Int) := by omega
        by_cases hop : openB x = true
        · have hs1 : (x.state == 1) = true := by simp [open_one hop]
          have HSU : Hid (((l.take (k + 1)).filter openB).length = ((l.take k).filter openB).length + 1) := Lib.hid (by rw [hsu, if_pos hop]; simp)
          have hcn := cnt_open HST.out hop
          have hcc : ∀ W, Below w4.heap.size w4 W → Calls Try.prog 14 #[.slice A2 out3.length c2, agX x] W fun e w' => e = .returned (.int .i64 (cnt l x)) ∧ Below W.heap.size W w' := fun W hW => by rw [← hcn]; exact count_any _ out3 x W (HO4.out.at_ hW) (by omega)
          have hcd : ∀ W, Below w4.heap.size w4 W → Calls Try.prog 14 #[.slice (some ad) l.length c0, agX x] W fun e w' => e = .returned (.int .i64 (cnt l x)) ∧ Below W.heap.size W w' := fun W hW => count_any _ l x W (HV4.out.at_ hW) (by omega)
          generalize cnt l x = nx at hcc hcd
          generalize ((l.take k).filter openB).length = nf at hfl HSU ⊢
          have HC := Lib.hid hcc
          have HD := Lib.hid hcd
          clear hcc hcd hcn hop hsu
          go_upto_region 14 with (fail)
          go_cut [53] (fun v wx => v = .bool false ∧ Below w4.heap.size w4 wx)
          case first =>
            have hS : (fun w' => Below w4.heap.size w4 w') wr.drew := HB.out.drew
            refine wp_region_held_drew (S := fun w' => Below w4.heap.size w4 w') (by kernel_rfl) hS (fun hS => ?_)
            refine wpAnyH_take (i := 0) (v := ((.slice A2 out3.length c2))) rfl (by kernel_rfl) (by kernel_rfl) (by kernel_rfl) (fun _ _ _ h => h) (Or.inl ⟨by kernel_rfl, fun w' hS' => by go_simp⟩) hS ?_
            refine wpAnyH_take (i := 1) (v := ((.slice (some ad) l.length c0))) rfl (by kernel_rfl) (by kernel_rfl) (by kernel_rfl) (fun _ _ _ h => h) (Or.inl ⟨by kernel_rfl, fun w' hS' => by go_simp⟩) hS ?_
            refine wpAnyH_take (i := 2) (v := ((.int .i64 (k : Int)))) rfl (by kernel_rfl) (by kernel_rfl) (by kernel_rfl) (fun _ _ _ h => h) (Or.inl ⟨by kernel_rfl, fun w' hS' => by go_simp⟩) hS ?_
            refine wpAnyH_take (i := 3) (v := ((.pointer (some (ad.add (k * 8)))))) rfl (by kernel_rfl) (by kernel_rfl) (by kernel_rfl) (fun _ _ _ h => h) (Or.inl ⟨by kernel_rfl, fun w' hS' => by go_simp; try (intro h; exact absurd h (by omega))⟩) hS ?_
            refine wpAnyH_take (i := 4) (v := ((agX x))) rfl (by kernel_rfl) (by kernel_rfl) (by kernel_rfl) (fun _ _ _ h => h) (Or.inl ⟨by kernel_rfl, fun w' hS' => by have hL := (HV4.out.below hS').six HX.out; obtain ⟨ad', had, _, d0, d1, d2, d3, d4, d5, d6, d7⟩ := hL; cases had; go_simp⟩) hS ?_
            refine wpAnyH_take (i := 6) (v := ((.slice (some ad) l.length c0))) rfl (by kernel_rfl) (by kernel_rfl) (by kernel_rfl) (fun _ _ _ h => h) (Or.inl ⟨by kernel_rfl, fun w' hS' => by go_simp⟩) hS ?_
            refine wpAnyH_take (i := 7) (v := ((.slice (some ad) l.length c0))) rfl (by kernel_rfl) (by kernel_rfl) (by kernel_rfl) (fun _ _ _ h => h) (Or.inl ⟨by kernel_rfl, fun w' hS' => by go_simp⟩) hS ?_
            refine wpAnyH_take (i := 8) (v := ((.int .i64 (k : Int)))) rfl (by kernel_rfl) (by kernel_rfl) (by kernel_rfl) (fun _ _ _ h => h) (Or.inl ⟨by kernel_rfl, fun w' hS' => by go_simp⟩) hS ?_
            refine wpAnyH_take (i := 9) (v := ((.pointer (some (ad.add (k * 8)))))) rfl (by kernel_rfl) (by kernel_rfl) (by kernel_rfl) (fun _ _ _ h => h) (Or.inl ⟨by kernel_rfl, fun w' hS' => by go_simp; try (intro h; exact absurd h (by omega))⟩) hS ?_
            refine wpAnyH_take (i := 10) (v := ((agX x))) rfl (by kernel_rfl) (by kernel_rfl) (by kernel_rfl) (fun _ _ _ h => h) (Or.inl ⟨by kernel_rfl, fun w' hS' => by have hL := (HV4.out.below hS').six HX.out; obtain ⟨ad', had, _, d0, d1, d2, d3, d4, d5, d6, d7⟩ := hL; cases had; go_simp⟩) hS ?_
            refine wpAnyH_ready (rs := [5]) (by kernel_rfl) (by simp) ?_
            refine AllReadyH.cons rfl (fun K hK => ?_) AllReadyH.nil
            go_simp
            refine (HC.out _ hS).mono ?_
            rintro e w5 ⟨rfl, hby⟩
            refine hK.out _ _ (hS.trans (hby.mono hS.size)) (fun hS => ?_)
            clear hK K hby
            refine wpAnyH_ready (rs := [11]) (by kernel_rfl) (by simp) ?_
            refine AllReadyH.cons rfl (fun K hK => ?_) AllReadyH.nil
            go_simp
            refine (HD.out _ hS).mono ?_
            rintro e w6 ⟨rfl, hby⟩
            refine hK.out _ _ (hS.trans (hby.mono hS.size)) (fun hS => ?_)
            clear hK K hby
            refine wpAnyH_take (i := 12) (v := ((.bool false))) rfl (by kernel_rfl) (by kernel_rfl) (by kernel_rfl) (fun _ _ _ h => h) (Or.inl ⟨by kernel_rfl, fun w' hS' => by go_simp⟩) hS ?_
            refine wpAnyH_done (by kernel_rfl) ?_ _
            go_simp
            go_wp2_with fail
            go_meet
            exact ⟨rfl, hS⟩
          case rest =>
            obtain ⟨rfl, hbx⟩ := hcut
            have HB3 := Lib.hid hbx
            clear hbx HB
            go_wp2
            go_roundw
            case rel => exact ⟨k + 1, by omega, by go_num, by rw [HSU.out]; go_num, HB3⟩
            case measure => simp [intOf]; omega
        · have hs1 : (x.state == 1) = false := by unfold openB at hop; simpa using hop
          have HSU : Hid (((l.take (k + 1)).filter openB).length = ((l.take k).filter openB).length) := Lib.hid (by rw [hsu, if_neg hop]; simp)
          generalize ((l.take k).filter openB).length = nf at hfl HSU ⊢
          clear hop hsu
          go_wp2
          go_roundw
          case rel => exact ⟨k + 1, by omega, by go_num, by rw [HSU.out], HB⟩
          case measure => simp [intOf]; omega
      · obtain rfl : k = l.length := by omega
        have hol := open_len HST.out
        generalize ((l.take l.length).filter openB).length = nf at hfl hol ⊢
        have hne := len_eq hol
        have HOL := Lib.hid hol
        clear hol hlt hk
        have H5 := Lib.hid (H4.out.next HB.out)
        obtain ⟨w5, hw5⟩ : ∃ W, W = wr := ⟨_, rfl⟩
        rw [← hw5] at H5 HB ⊢
        have HO5 := Lib.hid (HO4.out.at_ HB.out)
        have HPS := Lib.hid HST.out.pairs
        clear hw5 HB
        go_wp2
        go_loopw [12] (fun i wr => ∃ k : Nat, k ≤ out3.length ∧ i = .int .i64 k ∧ Hid (Below w5.heap.size w5 wr)) (fun i _ => out3.length - (intOf i).toNat)
        case atStart => exact ⟨0, Nat.zero_le _, rfl, Lib.hid (Below.refl _ _)⟩
        case round =>
          obtain ⟨k, hk, rfl, HB⟩ := hrel
          by_cases hlt : k < out3.length
          · obtain ⟨x, hx⟩ : ∃ x, out3[k]? = some x := ⟨_, List.getElem?_eq_getElem hlt⟩
            obtain ⟨ad, rfl, hab, _⟩ := HO5.out.six hx
            have hst : (x.state != 1) = false := by simp [open_one (all_open HST.out x (List.mem_of_getElem? hx))]
            have HX := Lib.hid hx
            clear hx
            have hltI : (k : Int) < (out3.length : Int) := by omega
            by_cases hk0 : 0 < k
            · obtain ⟨j, rfl⟩ : ∃ j, k = j + 1 := ⟨k - 1, by omega⟩
              obtain ⟨y, hy⟩ : ∃ y, out3[j]? = some y := ⟨_, List.getElem?_eq_getElem (by omega)⟩
              have HY := Lib.hid hy
              have hyx : cmpL y x ≤ 0 := by
                have h := List.pairwise_iff_getElem.1 HPS.out j (j + 1) (by omega) hlt (by omega)
                rw [(List.getElem?_eq_some_iff.1 hy).2, (List.getElem?_eq_some_iff.1 HX.out).2] at h
                exact h
              have hcv : ∀ W, Calls Try.prog 8 #[agX y, agX x] W fun e w' => e = .returned (.int .i64 (cmpL y x)) ∧ Below W.heap.size W w' := fun W => compare_any y x W
              generalize cmpL y x = cv at hyx hcv
              have HCV := Lib.hid hcv
              clear hy hcv
              have hgt : decide ((0 : Int) < cv) = false := decide_eq_false (by omega)
              have hltJ : (j : Int) < (out3.length : Int) := by omega
              have e1 : IntKind.i64.wrap ((j : Int) + 1 - 1) = (j : Int) := by rw [IntKind.wrap_i64]; omega
              have e2 : (j : Int) + 1 - 1 = (j : Int) := by omega
              have e3 : IntKind.i64.wrap (j : Int) = (j : Int) := by rw [IntKind.wrap_i64]; omega
              go_upto_region 19 with (fail)
              go_cut [82] (fun v wx => v = .bool false ∧ Below w5.heap.size w5 wx)
              case first =>
                have hS : (fun w' => Below w5.heap.size w5 w') wr.drew := HB.out.drew
                refine wp_region_held_drew (S := fun w' => Below w5.heap.size w5 w') (by kernel_rfl) hS (fun hS => ?_)
                refine wpAnyH_take (i := 0) (v := ((.slice (some ad) out3.length c2))) rfl (by kernel_rfl) (by kernel_rfl) (by kernel_rfl) (fun _ _ _ h => h) (Or.inl ⟨by kernel_rfl, fun w' hS' => by go_simp⟩) hS ?_
                refine wpAnyH_take (i := 1) (v := ((.int .i64 ((j : Int) + 1)))) rfl (by kernel_rfl) (by kernel_rfl) (by kernel_rfl) (fun _ _ _ h => h) (Or.inl ⟨by kernel_rfl, fun w' hS' => by go_simp⟩) hS ?_
                refine wpAnyH_take (i := 2) (v := ((.pointer (some (ad.add ((j + 1) * 8)))))) rfl (by kernel_rfl) (by kernel_rfl) (by kernel_rfl) (fun _ _ _ h => h) (Or.inl ⟨by kernel_rfl, fun w' hS' => by go_simp; try (intro h; exact absurd h (by omega))⟩) hS ?_
                refine wpAnyH_take (i := 3) (v := ((.pointer (some ⟨((ad.add ((j + 1) * 8))).block, ((ad.add ((j + 1) * 8))).off + 5, none⟩)))) rfl (by kernel_rfl) (by kernel_rfl) (by kernel_rfl) (fun _ _ _ h => h) (Or.inl ⟨by kernel_rfl, fun w' hS' => by go_simp⟩) hS ?_
                refine wpAnyH_take (i := 4) (v := ((.int .u8 x.state))) rfl (by kernel_rfl) (by kernel_rfl) (by kernel_rfl) (fun _ _ _ h => h) (Or.inl ⟨by kernel_rfl, fun w' hS' => by have hL := (HO5.out.below hS').six HX.out; obtain ⟨ad', had, _, d0, d1, d2, d3, d4, d5, d6, d7⟩ := hL; cases had; go_simp⟩) hS ?_
                refine wpAnyH_take (i := 5) (v := ((.bool false))) rfl (by kernel_rfl) (by kernel_rfl) (by kernel_rfl) (fun _ _ _ h => h) (Or.inl ⟨by kernel_rfl, fun w' hS' => by go_simp⟩) hS ?_
                refine wpAnyH_take (i := 6) (v := ((.bool false))) rfl (by kernel_rfl) (by kernel_rfl) (by kernel_rfl) (fun _ _ _ h => h) (Or.inl ⟨by kernel_rfl, fun w' hS' => by go_simp⟩) hS ?_
                refine wpAnyH_take (i := 7) (v := ((.int .i64 ((j : Int) + 1)))) rfl (by kernel_rfl) (by kernel_rfl) (by kernel_rfl) (fun _ _ _ h => h) (Or.inl ⟨by kernel_rfl, fun w' hS' => by go_simp⟩) hS ?_
                refine wpAnyH_take (i := 8) (v := ((.bool true))) rfl (by kernel_rfl) (by kernel_rfl) (by kernel_rfl) (fun _ _ _ h => h) (Or.inl ⟨by kernel_rfl, fun w' hS' => by go_simp⟩) hS ?_
                refine wpAnyH_take (i := 9) (v := ((.bool true))) rfl (by kernel_rfl) (by kernel_rfl) (by kernel_rfl) (fun _ _ _ h => h) (Or.inl ⟨by kernel_rfl, fun w' hS' => by go_simp⟩) hS ?_
                refine wpAnyH_take (i := 10) (v := ((.slice (some ad) out3.length c2))) rfl (by kernel_rfl) (by kernel_rfl) (by kernel_rfl) (fun _ _ _ h => h) (Or.inl ⟨by kernel_rfl, fun w' hS' => by go_simp⟩) hS ?_
                refine wpAnyH_take (i := 11) (v := ((.int .i64 ((j : Int) + 1)))) rfl (by kernel_rfl) (by kernel_rfl) (by kernel_rfl) (fun _ _ _ h => h) (Or.inl ⟨by kernel_rfl, fun w' hS' => by go_simp⟩) hS ?_
                refine wpAnyH_take (i := 12) (v := ((.int .i64 (j : Int)))) rfl (by kernel_rfl) (by kernel_rfl) (by kernel_rfl) (fun _ _ _ h => h) (Or.inl ⟨by kernel_rfl, fun w' hS' => by go_simp⟩) hS ?_
                refine wpAnyH_take (i := 13) (v := ((.pointer (some (ad.add (j * 8)))))) rfl (by kernel_rfl) (by kernel_rfl) (by kernel_rfl) (fun _ _ _ h => h) (Or.inl ⟨by kernel_rfl, fun w' hS' => by go_simp; try (intro h; exact absurd h (by omega))⟩) hS ?_
                refine wpAnyH_take (i := 14) (v := ((agX y))) rfl (by kernel_rfl) (by kernel_rfl) (by kernel_rfl) (fun _ _ _ h => h) (Or.inl ⟨by kernel_rfl, fun w' hS' => by have hL := (HO5.out.below hS').six HY.out; obtain ⟨ad', had, _, d0, d1, d2, d3, d4, d5, d6, d7⟩ := hL; cases had; go_simp⟩) hS ?_
                refine wpAnyH_take (i := 15) (v := ((.slice (some ad) out3.length c2))) rfl (by kernel_rfl) (by kernel_rfl) (by kernel_rfl) (fun _ _ _ h => h) (Or.inl ⟨by kernel_rfl, fun w' hS' => by go_simp⟩) hS ?_
                refine wpAnyH_take (i := 16) (v := ((.int .i64 ((j : Int) + 1)))) rfl (by kernel_rfl) (by kernel_rfl) (by kernel_rfl) (fun _ _ _ h => h) (Or.inl ⟨by kernel_rfl, fun w' hS' => by go_simp⟩) hS ?_
                refine wpAnyH_take (i := 17) (v := ((.pointer (some (ad.add ((j + 1) * 8)))))) rfl (by kernel_rfl) (by kernel_rfl) (by kernel_rfl) (fun _ _ _ h => h) (Or.inl ⟨by kernel_rfl, fun w' hS' => by go_simp; try (intro h; exact absurd h (by omega))⟩) hS ?_
                refine wpAnyH_take (i := 18) (v := ((agX x))) rfl (by kernel_rfl) (by kernel_rfl) (by kernel_rfl) (fun _ _ _ h => h) (Or.inl ⟨by kernel_rfl, fun w' hS' => by have hL := (HO5.out.below hS').six HX.out; obtain ⟨ad', had, _, d0, d1, d2, d3, d4, d5, d6, d7⟩ := hL; cases had; go_simp⟩) hS ?_
                refine wpAnyH_ready (rs := [19]) (by kernel_rfl) (by simp) ?_
                refine AllReadyH.cons rfl (fun K hK => ?_) AllReadyH.nil
                go_simp
                refine (HCV.out _).mono ?_
                rintro e w6 ⟨rfl, hby⟩
                refine hK.out _ _ (hS.trans (hby.mono hS.size)) (fun hS => ?_)
                clear hK K hby
                refine wpAnyH_take (i := 20) (v := ((.bool false))) rfl (by kernel_rfl) (by kernel_rfl) (by kernel_rfl) (fun _ _ _ h => h) (Or.inl ⟨by kernel_rfl, fun w' hS' => by go_simp⟩) hS ?_
                refine wpAnyH_take (i := 21) (v := ((.bool false))) rfl (by kernel_rfl) (by kernel_rfl) (by kernel_rfl) (fun _ _ _ h => h) (Or.inl ⟨by kernel_rfl, fun w' hS' => by go_simp⟩) hS ?_
                refine wpAnyH_take (i := 22) (v := ((.bool false))) rfl (by kernel_rfl) (by kernel_rfl) (by kernel_rfl) (fun _ _ _ h => h) (Or.inl ⟨by kernel_rfl, fun w' hS' => by go_simp⟩) hS ?_
                refine wpAnyH_done (by kernel_rfl) ?_ _
                go_simp
                go_wp2_with fail
                go_meet
                exact ⟨rfl, hS⟩
              case rest =>
                obtain ⟨rfl, hbx⟩ := hcut
                have HB3 := Lib.hid hbx
                clear hbx HB
                go_wp2
                go_roundw
                case rel => exact ⟨j + 1 + 1, by omega, by go_num, HB3⟩
                case measure => simp [intOf]; omega
            · obtain rfl : k = 0 := by omega
              go_upto_region 19 with (fail)
              go_cut [82] (fun v wx => v = .bool false ∧ Below w5.heap.size w5 wx)
              case first =>
                have hS : (fun w' => Below w5.heap.size w5 w') wr.drew := HB.out.drew
                refine wp_region_held_drew (S := fun w' => Below w5.heap.size w5 w') (by kernel_rfl) hS (fun hS => ?_)
                refine wpAnyH_take (i := 0) (v := ((.slice (some ad) out3.length c2))) rfl (by kernel_rfl) (by kernel_rfl) (by kernel_rfl) (fun _ _ _ h => h) (Or.inl ⟨by kernel_rfl, fun w' hS' => by go_simp⟩) hS ?_
                refine wpAnyH_take (i := 1) (v := ((.int .i64 0))) rfl (by kernel_rfl) (by kernel_rfl) (by kernel_rfl) (fun _ _ _ h => h) (Or.inl ⟨by kernel_rfl, fun w' hS' => by go_simp⟩) hS ?_
                refine wpAnyH_take (i := 2) (v := ((.pointer (some ad)))) rfl (by kernel_rfl) (by kernel_rfl) (by kernel_rfl) (fun _ _ _ h => h) (Or.inl ⟨by kernel_rfl, fun w' hS' => by go_simp; try (intro h; exact absurd h (by omega))⟩) hS ?_
                refine wpAnyH_take (i := 3) (v := ((.pointer (some ⟨(ad).block, (ad).off + 5, none⟩)))) rfl (by kernel_rfl) (by kernel_rfl) (by kernel_rfl) (fun _ _ _ h => h) (Or.inl ⟨by kernel_rfl, fun w' hS' => by go_simp⟩) hS ?_
                refine wpAnyH_take (i := 4) (v := ((.int .u8 x.state))) rfl (by kernel_rfl) (by kernel_rfl) (by kernel_rfl) (fun _ _ _ h => h) (Or.inl ⟨by kernel_rfl, fun w' hS' => by have hL := (HO5.out.below hS').six HX.out; obtain ⟨ad', had, _, hL⟩ := hL; cases had; rw [addr_zero6] at hL; obtain ⟨d0, d1, d2, d3, d4, d5, d6, d7⟩ := hL; go_simp⟩) hS ?_
                refine wpAnyH_take (i := 5) (v := ((.bool false))) rfl (by kernel_rfl) (by kernel_rfl) (by kernel_rfl) (fun _ _ _ h => h) (Or.inl ⟨by kernel_rfl, fun w' hS' => by go_simp⟩) hS ?_
                refine wpAnyH_take (i := 6) (v := ((.bool false))) rfl (by kernel_rfl) (by kernel_rfl) (by kernel_rfl) (fun _ _ _ h => h) (Or.inl ⟨by kernel_rfl, fun w' hS' => by go_simp⟩) hS ?_
                refine wpAnyH_take (i := 7) (v := ((.int .i64 0))) rfl (by kernel_rfl) (by kernel_rfl) (by kernel_rfl) (fun _ _ _ h => h) (Or.inl ⟨by kernel_rfl, fun w' hS' => by go_simp⟩) hS ?_
                refine wpAnyH_take (i := 8) (v := ((.bool false))) rfl (by kernel_rfl) (by kernel_rfl) (by kernel_rfl) (fun _ _ _ h => h) (Or.inl ⟨by kernel_rfl, fun w' hS' => by go_simp⟩) hS ?_
                refine wpAnyH_take (i := 9) (v := ((.bool false))) rfl (by kernel_rfl) (by kernel_rfl) (by kernel_rfl) (fun _ _ _ h => h) (Or.inl ⟨by kernel_rfl, fun w' hS' => by go_simp⟩) hS ?_
                refine wpAnyH_take (i := 10) (v := (undef)) rfl (by kernel_rfl) (by kernel_rfl) (by kernel_rfl) (fun _ _ _ h => h) (Or.inr ⟨by kernel_rfl, rfl⟩) hS ?_
                refine wpAnyH_take (i := 11) (v := (undef)) rfl (by kernel_rfl) (by kernel_rfl) (by kernel_rfl) (fun _ _ _ h => h) (Or.inr ⟨by kernel_rfl, rfl⟩) hS ?_
                refine wpAnyH_take (i := 12) (v := (undef)) rfl (by kernel_rfl) (by kernel_rfl) (by kernel_rfl) (fun _ _ _ h => h) (Or.inr ⟨by kernel_rfl, rfl⟩) hS ?_
                refine wpAnyH_take (i := 13) (v := (undef)) rfl (by kernel_rfl) (by kernel_rfl) (by kernel_rfl) (fun _ _ _ h => h) (Or.inr ⟨by kernel_rfl, rfl⟩) hS ?_
                refine wpAnyH_take (i := 14) (v := (undef)) rfl (by kernel_rfl) (by kernel_rfl) (by kernel_rfl) (fun _ _ _ h => h) (Or.inr ⟨by kernel_rfl, rfl⟩) hS ?_
                refine wpAnyH_take (i := 15) (v := (undef)) rfl (by kernel_rfl) (by kernel_rfl) (by kernel_rfl) (fun _ _ _ h => h) (Or.inr ⟨by kernel_rfl, rfl⟩) hS ?_
                refine wpAnyH_take (i := 16) (v := (undef)) rfl (by kernel_rfl) (by kernel_rfl) (by kernel_rfl) (fun _ _ _ h => h) (Or.inr ⟨by kernel_rfl, rfl⟩) hS ?_
                refine wpAnyH_take (i := 17) (v := (undef)) rfl (by kernel_rfl) (by kernel_rfl) (by kernel_rfl) (fun _ _ _ h => h) (Or.inr ⟨by kernel_rfl, rfl⟩) hS ?_
                refine wpAnyH_take (i := 18) (v := (undef)) rfl (by kernel_rfl) (by kernel_rfl) (by kernel_rfl) (fun _ _ _ h => h) (Or.inr ⟨by kernel_rfl, rfl⟩) hS ?_
                refine wpAnyH_take (i := 19) (v := (undef)) rfl (by kernel_rfl) (by kernel_rfl) (by kernel_rfl) (fun _ _ _ h => h) (Or.inr ⟨by kernel_rfl, rfl⟩) hS ?_
                refine wpAnyH_take (i := 20) (v := (undef)) rfl (by kernel_rfl) (by kernel_rfl) (by kernel_rfl) (fun _ _ _ h => h) (Or.inr ⟨by kernel_rfl, rfl⟩) hS ?_
                refine wpAnyH_take (i := 21) (v := ((.bool false))) rfl (by kernel_rfl) (by kernel_rfl) (by kernel_rfl) (fun _ _ _ h => h) (Or.inl ⟨by kernel_rfl, fun w' hS' => by go_simp⟩) hS ?_
                refine wpAnyH_take (i := 22) (v := ((.bool false))) rfl (by kernel_rfl) (by kernel_rfl) (by kernel_rfl) (fun _ _ _ h => h) (Or.inl ⟨by kernel_rfl, fun w' hS' => by go_simp⟩) hS ?_
                refine wpAnyH_done (by kernel_rfl) ?_ _
                go_simp
                go_wp2_with fail
                go_meet
                exact ⟨rfl, hS⟩
              case rest =>
                obtain ⟨rfl, hbx⟩ := hcut
                have HB3 := Lib.hid hbx
                clear hbx HB
                go_wp2
                go_roundw
                case rel => exact ⟨1, by omega, by go_num, HB3⟩
                case measure => simp [intOf]; omega
          · obtain rfl : k = out3.length := by omega
            have H6a := Lib.hid (H5.out.next HB.out)
            have h3 := cmp3 a b c
            have C1 : Hid (∀ W, Calls Try.prog 8 #[agX a, agX b] W fun e w' => e = .returned (.int .i64 (cmpL a b)) ∧ Below W.heap.size W w') := Lib.hid (fun W => compare_any a b W)
            have C2 : Hid (∀ W, Calls Try.prog 8 #[agX b, agX c] W fun e w' => e = .returned (.int .i64 (cmpL b c)) ∧ Below W.heap.size W w') := Lib.hid (fun W => compare_any b c W)
            have C3 : Hid (∀ W, Calls Try.prog 8 #[agX a, agX c] W fun e w' => e = .returned (.int .i64 (cmpL a c)) ∧ Below W.heap.size W w') := Lib.hid (fun W => compare_any a c W)
            have C4 : Hid (∀ W, Calls Try.prog 8 #[agX b, agX a] W fun e w' => e = .returned (.int .i64 (-cmpL a b)) ∧ Below W.heap.size W w') := Lib.hid (fun W => by rw [← h3.1]; exact compare_any b a W)
            have C5 : Hid (∀ W, Calls Try.prog 8 #[agX a, agX a] W fun e w' => e = .returned (.int .i64 0) ∧ Below W.heap.size W w') := Lib.hid (fun W => by have h := compare_any a a W; rw [h3.2.1] at h; exact h)
            have hr := h3.2.2
            clear h3
            generalize cmpL a b = x at C1 C4 hr
            generalize cmpL b c = y at C2 hr
            generalize cmpL a c = z at C3 hr
            have hx1 := hr.1
            have hx2 := hr.2.1
            have HR := Lib.hid hr.2.2
            clear hr
            go_upto_region 21 with (fail)
            go_cut [13, 14, 15] (fun v1 v2 v3 wx => v1 = .int .i64 x ∧ v2 = .int .i64 y ∧ v3 = .int .i64 z ∧ Held3 w a b c wx)
            case first =>
              have hS : Held3 w a b c wr.drew := H6a.out.next ((Below.refl _ _).drew)
              refine wp_region_held_drew (S := Held3 w a b c) (by kernel_rfl) hS (fun hS => ?_)
              refine wpAnyH_take (i := 0) (v := (agX a)) rfl (by kernel_rfl) (by kernel_rfl) (by kernel_rfl) (fun _ _ _ h => h) (Or.inl ⟨by kernel_rfl, fun w' hS' => by obtain ⟨⟨d0, d1, d2, d3, d4, d5, d6, d7⟩, _, _⟩ := held3_cells hS'; go_simp⟩) hS ?_
              refine wpAnyH_take (i := 1) (v := (agX b)) rfl (by kernel_rfl) (by kernel_rfl) (by kernel_rfl) (fun _ _ _ h => h) (Or.inl ⟨by kernel_rfl, fun w' hS' => by obtain ⟨_, ⟨d0, d1, d2, d3, d4, d5, d6, d7⟩, _⟩ := held3_cells hS'; go_simp⟩) hS ?_
              refine wpAnyH_take (i := 3) (v := (agX b)) rfl (by kernel_rfl) (by kernel_rfl) (by kernel_rfl) (fun _ _ _ h => h) (Or.inl ⟨by kernel_rfl, fun w' hS' => by obtain ⟨_, ⟨d0, d1, d2, d3, d4, d5, d6, d7⟩, _⟩ := held3_cells hS'; go_simp⟩) hS ?_
              refine wpAnyH_take (i := 4) (v := (agX c)) rfl (by kernel_rfl) (by kernel_rfl) (by kernel_rfl) (fun _ _ _ h => h) (Or.inl ⟨by kernel_rfl, fun w' hS' => by obtain ⟨_, _, ⟨d0, d1, d2, d3, d4, d5, d6, d7⟩⟩ := held3_cells hS'; go_simp⟩) hS ?_
              refine wpAnyH_take (i := 6) (v := (agX a)) rfl (by kernel_rfl) (by kernel_rfl) (by kernel_rfl) (fun _ _ _ h => h) (Or.inl ⟨by kernel_rfl, fun w' hS' => by obtain ⟨⟨d0, d1, d2, d3, d4, d5, d6, d7⟩, _, _⟩ := held3_cells hS'; go_simp⟩) hS ?_
              refine wpAnyH_take (i := 7) (v := (agX c)) rfl (by kernel_rfl) (by kernel_rfl) (by kernel_rfl) (fun _ _ _ h => h) (Or.inl ⟨by kernel_rfl, fun w' hS' => by obtain ⟨_, _, ⟨d0, d1, d2, d3, d4, d5, d6, d7⟩⟩ := held3_cells hS'; go_simp⟩) hS ?_
              refine wpAnyH_ready (rs := [2]) (by kernel_rfl) (by simp) ?_
              refine AllReadyH.cons rfl (fun K hK => ?_) AllReadyH.nil
              go_simp
              refine (C1.out _).mono ?_
              rintro e w5 ⟨rfl, hby⟩
              refine hK.out _ _ (hS.next hby) (fun hS => ?_)
              clear hK K hby
              refine wpAnyH_ready (rs := [5]) (by kernel_rfl) (by simp) ?_
              refine AllReadyH.cons rfl (fun K hK => ?_) AllReadyH.nil
              go_simp
              refine (C2.out _).mono ?_
              rintro e w6 ⟨rfl, hby⟩
              refine hK.out _ _ (hS.next hby) (fun hS => ?_)
              clear hK K hby
              refine wpAnyH_ready (rs := [8]) (by kernel_rfl) (by simp) ?_
              refine AllReadyH.cons rfl (fun K hK => ?_) AllReadyH.nil
              go_simp
              refine (C3.out _).mono ?_
              rintro e w7 ⟨rfl, hby⟩
              refine hK.out _ _ (hS.next hby) (fun hS => ?_)
              clear hK K hby
              refine wpAnyH_take (i := 9) (v := ((.int .i64 x))) rfl (by kernel_rfl) (by kernel_rfl) (by kernel_rfl) (fun _ _ _ h => h) (Or.inl ⟨by kernel_rfl, fun w' hS' => by go_simp⟩) hS ?_
              refine wpAnyH_take (i := 10) (v := ((.int .i64 y))) rfl (by kernel_rfl) (by kernel_rfl) (by kernel_rfl) (fun _ _ _ h => h) (Or.inl ⟨by kernel_rfl, fun w' hS' => by go_simp⟩) hS ?_
              refine wpAnyH_take (i := 11) (v := ((.int .i64 z))) rfl (by kernel_rfl) (by kernel_rfl) (by kernel_rfl) (fun _ _ _ h => h) (Or.inl ⟨by kernel_rfl, fun w' hS' => by go_simp⟩) hS ?_
              refine wpAnyH_done (by kernel_rfl) ?_ _
              go_simp
              go_wp2_with fail
              go_meet
              exact ⟨rfl, rfl, rfl, hS⟩
            case rest =>
              obtain ⟨rfl, rfl, rfl, hbx⟩ := hcut
              have H6 := Lib.hid hbx
              obtain ⟨⟨d0, d1, d2, d3, d4, d5, d6, d7⟩, ⟨f0, f1, f2, f3, f4, f5, f6, f7⟩, _⟩ := held3_cells hbx
              clear hbx HB C1 C2 C3
              have hw1 : IntKind.i64.wrap (-x) = -x := by rw [IntKind.wrap_i64]; omega
              have hl1 : decide (x < -1) = false := decide_eq_false (by omega)
              have hl2 : decide ((1 : Int) < x) = false := decide_eq_false (by omega)
              by_cases hx0 : x ≤ 0
              · by_cases hy0 : y ≤ 0
                · obtain ⟨hz0, hz1⟩ := HR.out hx0 hy0
                  by_cases hzn : z < 0
                  · clear hz1
                    go_wp2_with (go_at_call 8; (first
                      | ((with_reducible refine (C4.out _).mono ?_); rintro e w6 ⟨rfl, hb6⟩; have H7 := Lib.hid (H6.out.next hb6); obtain ⟨⟨g0, g1, g2, g3, g4, g5, g6, g7⟩, _, _⟩ := held3_cells H7.out; clear hb6)
                      | ((with_reducible refine (C5.out _).mono ?_); rintro e w7 ⟨rfl, hb7⟩; have H8 := Lib.hid (H7.out.next hb7); clear hb7)))
                    go_ret
                    exact ⟨rfl, H8.out.2.2.2⟩
                  · obtain ⟨hx9, hy9⟩ := hz1.resolve_left hzn
                    have hzf : decide (z < 0) = false := decide_eq_false hzn
                    have e1 : (x == 0) = true := by simp [hx9]
                    have e2 : (y == 0) = true := by simp [hy9]
                    clear hx9 hy9
                    go_wp2_with (go_at_call 8; (first
                      | ((with_reducible refine (C4.out _).mono ?_); rintro e w6 ⟨rfl, hb6⟩; have H7 := Lib.hid (H6.out.next hb6); obtain ⟨⟨g0, g1, g2, g3, g4, g5, g6, g7⟩, _, _⟩ := held3_cells H7.out; clear hb6)
                      | ((with_reducible refine (C5.out _).mono ?_); rintro e w7 ⟨rfl, hb7⟩; have H8 := Lib.hid (H7.out.next hb7); clear hb7)))
                    go_ret
                    exact ⟨rfl, H8.out.2.2.2⟩
                · have hy1 : decide (y ≤ 0) = false := decide_eq_false hy0
                  go_wp2_with (go_at_call 8; (first
                    | ((with_reducible refine (C4.out _).mono ?_); rintro e w6 ⟨rfl, hb6⟩; have H7 := Lib.hid (H6.out.next hb6); obtain ⟨⟨g0, g1, g2, g3, g4, g5, g6, g7⟩, _, _⟩ := held3_cells H7.out; clear hb6)
                    | ((with_reducible refine (C5.out _).mono ?_); rintro e w7 ⟨rfl, hb7⟩; have H8 := Lib.hid (H7.out.next hb7); clear hb7)))
                  go_ret
                  exact ⟨rfl, H8.out.2.2.2⟩
              · have hx1 : decide (x ≤ 0) = false := decide_eq_false hx0
                go_wp2_with (go_at_call 8; (first
                  | ((with_reducible refine (C4.out _).mono ?_); rintro e w6 ⟨rfl, hb6⟩; have H7 := Lib.hid (H6.out.next hb6); obtain ⟨⟨g0, g1, g2, g3, g4, g5, g6, g7⟩, _, _⟩ := held3_cells H7.out; clear hb6)
                  | ((with_reducible refine (C5.out _).mono ?_); rintro e w7 ⟨rfl, hb7⟩; have H8 := Lib.hid (H7.out.next hb7); clear hb7)))
                go_ret
                exact ⟨rfl, H8.out.2.2.2⟩
  · clear hfew
    go_wp2
    go_ret
    exact ⟨rfl, HG.out.blw⟩
end Go.Proofs.Ytepkmgmooadbjaa
end
section
/- Arguments: a lot by value, a list of lots, as cells. -/
namespace Go.Proofs.Ytepkmgmooadbjaa
open Go.ChangeShapes Go.WideShapes Go.ChangeAt Go.RowKit Go.Deep
set_option linter.unusedVariables false
set_option linter.constructorNameAsVariable false
set_option maxRecDepth 100000

theorem lot_of_cells {H : Type} {enc : TypeId × Value → H} {W : World} {base fuel : Nat} {sp : Nat → Bool} {held : Bool} {cs : List Value} {x : DataW H × List MemPlace} (hl : cs.length = 8)
    (h : DataW.trod enc Try.prog W base sp held fuel 24 cs = some x) : ∃ y : Lt, cs = encL y ∧ y.Fits := by
  obtain ⟨ys, n, _, _, _, hyl, hf⟩ := DataW.trod_struct Try.underlying24 h
  match cs, hl with
  | [c0, c1, c2, c3, c4, c5, c6, c7], _ =>
    have hCI : Try.prog.cellsOf 3 = 1 := by kernel_rfl
    have hCL : Try.prog.cellsOf 2 = 1 := by kernel_rfl
    have hCS : Try.prog.cellsOf 9 = 1 := by kernel_rfl
    have hCT : Try.prog.cellsOf 22 = 1 := by kernel_rfl
    obtain ⟨y0, hy0⟩ : ∃ y, ys[0]? = some y := ⟨_, List.getElem?_eq_getElem (by rw [hyl]; decide)⟩
    obtain ⟨y1, hy1⟩ : ∃ y, ys[1]? = some y := ⟨_, List.getElem?_eq_getElem (by rw [hyl]; decide)⟩
    obtain ⟨y2, hy2⟩ : ∃ y, ys[2]? = some y := ⟨_, List.getElem?_eq_getElem (by rw [hyl]; decide)⟩
    obtain ⟨y3, hy3⟩ : ∃ y, ys[3]? = some y := ⟨_, List.getElem?_eq_getElem (by rw [hyl]; decide)⟩
    obtain ⟨y4, hy4⟩ : ∃ y, ys[4]? = some y := ⟨_, List.getElem?_eq_getElem (by rw [hyl]; decide)⟩
    obtain ⟨y5, hy5⟩ : ∃ y, ys[5]? = some y := ⟨_, List.getElem?_eq_getElem (by rw [hyl]; decide)⟩
    obtain ⟨y6, hy6⟩ : ∃ y, ys[6]? = some y := ⟨_, List.getElem?_eq_getElem (by rw [hyl]; decide)⟩
    obtain ⟨y7, hy7⟩ : ∃ y, ys[7]? = some y := ⟨_, List.getElem?_eq_getElem (by rw [hyl]; decide)⟩
    have g0 : DataW.trod enc Try.prog W base sp held n 3 [c0] = some y0 := by have h := (hf 0 _ rfl).trans hy0; simpa [hCI, hCL, hCS, hCT] using h
    have g1 : DataW.trod enc Try.prog W base sp held n 9 [c1] = some y1 := by have h := (hf 1 _ rfl).trans hy1; simpa [hCI, hCL, hCS, hCT] using h
    have g2 : DataW.trod enc Try.prog W base sp held n 2 [c2] = some y2 := by have h := (hf 2 _ rfl).trans hy2; simpa [hCI, hCL, hCS, hCT] using h
    have g3 : DataW.trod enc Try.prog W base sp held n 3 [c3] = some y3 := by have h := (hf 3 _ rfl).trans hy3; simpa [hCI, hCL, hCS, hCT] using h
    have g4 : DataW.trod enc Try.prog W base sp held n 3 [c4] = some y4 := by have h := (hf 4 _ rfl).trans hy4; simpa [hCI, hCL, hCS, hCT] using h
    have g5 : DataW.trod enc Try.prog W base sp held n 22 [c5] = some y5 := by have h := (hf 5 _ rfl).trans hy5; simpa [hCI, hCL, hCS, hCT] using h
    have g6 : DataW.trod enc Try.prog W base sp held n 3 [c6] = some y6 := by have h := (hf 6 _ rfl).trans hy6; simpa [hCI, hCL, hCS, hCT] using h
    have g7 : DataW.trod enc Try.prog W base sp held n 9 [c7] = some y7 := by have h := (hf 7 _ rfl).trans hy7; simpa [hCI, hCL, hCS, hCT] using h
    obtain ⟨z0, e0, _, b0⟩ := DataW.trod_int Try.underlying3 g0
    obtain ⟨z1, e1, _, b1⟩ := DataW.trod_string Try.underlying9 g1
    obtain ⟨z2, e2, _, b2⟩ := DataW.trod_int Try.underlying2 g2
    obtain ⟨z3, e3, _, b3⟩ := DataW.trod_int Try.underlying3 g3
    obtain ⟨z4, e4, _, b4⟩ := DataW.trod_int Try.underlying3 g4
    obtain ⟨z5, e5, _, b5⟩ := DataW.trod_int Try.underlying22 g5
    obtain ⟨z6, e6, _, b6⟩ := DataW.trod_int Try.underlying3 g6
    obtain ⟨z7, e7, _, b7⟩ := DataW.trod_string Try.underlying9 g7
    simp only [List.cons.injEq, and_true] at e0 e1 e2 e3 e4 e5 e6 e7
    subst e0 e1 e2 e3 e4 e5 e6 e7
    exact ⟨⟨z0, z1.data.toList, z2, z3, z4, z5, z6, z7.data.toList⟩, rfl, (bounds_i64 b0).1, (bounds_i64 b0).2, by show z1.data.toList.length ≤ maxLen; rw [Array.length_toList]; exact b1, (bounds_i64 b2).1, (bounds_i64 b2).2, (bounds_i64 b3).1, (bounds_i64 b3).2, (bounds_i64 b4).1, (bounds_i64 b4).2, (bounds_u8 b5).1, (bounds_u8 b5).2, (bounds_i64 b6).1, (bounds_i64 b6).2, by show z7.data.toList.length ≤ maxLen; rw [Array.length_toList]; exact b7⟩
/-- A lot that is handed by value. -/
theorem open_lot {H : Type} {enc : TypeId × Value → H} {W : World} {r : Reach} {b0 base : Nat} {sp : Nat → Bool} {held : Bool} {v : Value} {d : DataW H} {p : List MemPlace} (hval : Value.okWide Try.prog W r b0 24 v)
    (h : DataW.Trod enc Try.prog W base sp held 24 v d p) : ∃ y : Lt, v = aggL y ∧ y.Fits := by
  obtain ⟨cs, rfl, hsz⟩ := okWide_struct Try.underlying24 hval
  obtain ⟨l⟩ := cs
  have hC : Try.prog.cellsOf 24 = 8 := by kernel_rfl
  have hl : l.length = 8 := by have := hsz.trans hC; simpa using this
  obtain ⟨fuel, hf⟩ := h
  have hf' : DataW.trod enc Try.prog W base sp held fuel 24 l = some (d, p) := by simpa [Value.cells] using hf
  obtain ⟨y, rfl, hy⟩ := lot_of_cells hl hf'
  exact ⟨y, rfl, hy⟩

theorem cell_lt {w : World} {p : Addr} {u : Value} (h : w.cell? p = some u) : p.block < w.heap.size := World.block_lt_of_cell? w p h
/-- A list of lots that is handed. -/
theorem open_lots {H : Type} {enc : TypeId × Value → H} {W : World} {r : Reach} {b0 base : Nat} {sp : Nat → Bool} {held : Bool} {v : Value} {d : DataW H} {p : List MemPlace} (hval : Value.okWide Try.prog W r b0 29 v)
    (h : DataW.Trod enc Try.prog W base sp held 29 v d p) : ∃ l, LSl W W.heap.size v l ∧ Sized l ∧ (l = [] ∨ ∃ elems spare, d = .slice elems spare ∧ l.length = elems.length) := by
  obtain ⟨a0, len0, cap0, rfl⟩ := okWide_slice Try.underlying29 hval
  obtain ⟨fuel, hf⟩ := h
  rcases open_slice Try.underlying29 hf with ⟨hcs, _⟩ | ⟨a, len, cap, m, n, D, Pl, hcs, _, hl, hm, hmm, hx, hi⟩
  · simp [Value.cells] at hcs
    obtain ⟨rfl, rfl, rfl⟩ := hcs
    exact ⟨[], ⟨none, 0, rfl, Nat.le_refl _, by simp [maxLen], fun _ => rfl, Lies.none⟩, fun x hx => by simp at hx, .inl rfl⟩
  · simp [Value.cells] at hcs
    obtain ⟨rfl, rfl, rfl⟩ := hcs
    have hlm : len0 ≤ m := by rw [hmm]; split <;> omega
    have hC : Try.prog.cellsOf 24 = 8 := by kernel_rfl
    have hpt : ∀ i, i < len0 → ∃ y : Lt, y.Fits ∧ ∀ c u, (encL y)[c]? = some u → W.cell? (a.add (i * 8 + c)) = some u := by
      intro i hil
      obtain ⟨cs', hc, ht⟩ := hi i (by omega)
      rw [hC] at hc
      obtain ⟨_, hlen, hat⟩ := World.cells?_some hc
      obtain ⟨y, rfl, hy⟩ := lot_of_cells hlen ht
      refine ⟨y, hy, fun c u hu => ?_⟩
      have hc6 : c < 8 := by have := (List.getElem?_eq_some_iff.1 hu).1; rw [encL_length] at this; exact this
      have := hat c hc6
      rw [addr_add] at this
      rw [this, hu]
    let f : Nat → Lt := fun i => if h : i < len0 then Classical.choose (hpt i h) else default
    have hff : ∀ i, i < len0 → (f i).Fits ∧ ∀ c u, (encL (f i))[c]? = some u → W.cell? (a.add (i * 8 + c)) = some u := by
      intro i hil
      have := Classical.choose_spec (hpt i hil)
      simp only [f, dif_pos hil]
      exact this
    have hlen : ((List.range len0).map f).length = len0 := by simp
    have hget : ∀ k, k < len0 → ((List.range len0).map f)[k]? = some (f k) := fun k hk => by simp [hk]
    refine ⟨(List.range len0).map f, ⟨some a, cap0, by rw [hlen], by omega, hm, fun h => (by cases h), fun hne => ?_⟩, fun q hq => ?_, .inr ?_⟩
    · have h0 : 0 < len0 := by
        rcases Nat.eq_zero_or_pos len0 with h | h
        · subst h; simp [lcells] at hne
        · exact h
      refine ⟨a, rfl, by have := cell_lt ((hff 0 h0).2 0 _ rfl); rw [addr_block] at this; exact this, fun j u hu => ?_⟩
      have hj : j < len0 * 8 := by have := (List.getElem?_eq_some_iff.1 hu).1; rw [lcells_length, hlen] at this; exact this
      have hk : j / 8 < len0 := by omega
      have := lcells_get _ _ _ (hget (j / 8) hk) (j % 8) (by omega)
      rw [show j / 8 * 8 + j % 8 = j by omega] at this
      rw [this] at hu
      have := (hff (j / 8) hk).2 (j % 8) u hu
      rwa [show j / 8 * 8 + j % 8 = j by omega] at this
    · obtain ⟨k, hk, rfl⟩ := List.mem_map.1 hq
      exact (hff k (by simpa using hk)).1
    · simp only [Prod.mk.injEq] at hx
      exact ⟨_, _, hx.1, by simp⟩

theorem own_knob : ownKnob Try.prog.godebug = none := by kernel_rfl
/-- What a law leaves behind: nothing that was there has turned. -/
theorem post_below {H : Type} {enc : TypeId × Value → H} {P : Program} {f : Func} {s : ChangeSpec} {apart fresh handsOn : Bool} {W W' : World} {args : Array Value} {v : Value} {ds gs : List (DataW H)} {before pa pv : List MemPlace}
    (hW : DataW.Whole enc P f.params.toList s.vars apart W args.toList ds gs before)
    (hres : ∀ (b : Nat) (sp : Nat → Bool) (hd : Bool), DataW.TrodAll enc P W' b sp hd f.resultTypes.toList (v.resultList f.resultTypes.size) (s.fn H (ds ++ gs)).results [])
    (hargs : DataW.TrodAll enc P W' 0 (fun b => decide (b < W.heap.size)) true f.params.toList args.toList (s.fn H (ds ++ gs)).args pa)
    (hvars : DataW.TrodVars enc P W' (fun b => decide (b < W.heap.size)) s.vars (s.fn H (ds ++ gs)).vars pv)
    (hb : Below W.heap.size W W') : s.post enc P f apart fresh handsOn false W args v W' :=
  ⟨ds, gs, before, [], pa, pv, hW, hres _ _ _, hargs, hvars, hb.frame _, fun h => by cases h⟩
theorem laid_out : laidOutB Try.prog = true := by kernel_rfl
end Go.Proofs.Ytepkmgmooadbjaa
end
