/- Texts of this proof, one behind the other. -/
import Derived.Laws.OwnMore
import Derived.OneCell
import Derived.BigRegion
import Derived.Deep.RegionHeld3
import Derived.Test.YtlgpambbghkffaaR07
import Derived.Test.YtlgpambbghkffaaR06
section
/- storemanlaw08.three, awake: the chapter's example. -/
namespace Go.Proofs.Ytlgpambbghkffaa
namespace Kt
open Go.ChangeShapes Go.WideShapes Go.ChangeAt Go.RowKit Go.Maps Go.Shelf
set_option linter.unusedVariables false

def threeL : List It := [⟨[65], 1, []⟩, ⟨[66], 1, []⟩, ⟨[67], 1, []⟩]
def threeI (v : Value) (os : List (List UInt8)) : List Iv := [⟨⟨[65], 1, []⟩, os, .slice none 0 0, v⟩, ⟨⟨[66], 1, []⟩, [], .slice none 0 0, .slice none 0 0⟩, ⟨⟨[67], 1, []⟩, [], .slice none 0 0, .slice none 0 0⟩]
theorem threeI_it (v : Value) (os : List (List UInt8)) : (threeI v os).map (·.it) = threeL := rfl
theorem threeI_sized {v : Value} {os : List (List UInt8)} (h : ∀ s ∈ os, s.length ≤ maxLen) (hl : os.length ≤ 1048576) : SizedI (threeI v os) := by
  intro x hx
  unfold threeI at hx
  simp only [List.mem_cons, List.not_mem_nil, or_false] at hx
  rcases hx with rfl | rfl | rfl
  · exact ⟨by simp [maxLen], by simp, by unfold Sized; simp, h, by simp, hl⟩
  · unfold Iv.Fits Sized maxLen; simp
  · unfold Iv.Fits Sized maxLen; simp
abbrev tO (v : Value) : Obj := .cells #[.string ⟨#[65]⟩, .int .i64 1, .slice none 0 0, v, .string ⟨#[66]⟩, .int .i64 1, .slice none 0 0, .slice none 0 0, .string ⟨#[67]⟩, .int .i64 1, .slice none 0 0, .slice none 0 0] 32
theorem three_isl (w : World) (A : Option Addr) (n c : Nat) (os : List (List UInt8)) (h : TSl w w.heap.size (.slice A n c) os) : ISl (w.alloc (tO (.slice A n c))) (w.alloc (tO (.slice A n c))).heap.size (.slice (some ⟨w.heap.size, 0, none⟩) 3 3) (threeI (.slice A n c) os) := by
  have hb := below_alloc1 w (tO (.slice A n c))
  have h1 := h.at_ hb
  have hn : PSl (w.alloc (tO (.slice A n c))) (w.alloc (tO (.slice A n c))).heap.size (.slice none 0 0) [] := PSl.nil
  have ht : TSl (w.alloc (tO (.slice A n c))) (w.alloc (tO (.slice A n c))).heap.size (.slice none 0 0) [] := TSl.nil
  have ho := World.ownsRow_lit (base := w.heap.size) (e := 32) (size := 4) w #[.string ⟨#[65]⟩, .int .i64 1, .slice none 0 0, .slice A n c, .string ⟨#[66]⟩, .int .i64 1, .slice none 0 0, .slice none 0 0, .string ⟨#[67]⟩, .int .i64 1, .slice none 0 0, .slice none 0 0] 3 (Nat.le_refl _) (by simp [maxLen]) rfl
  refine ⟨⟨_, 3, rfl, Nat.le_refl _, by simp [maxLen], fun h => (by cases h), Lies.own ho⟩, ?_⟩
  intro x hx
  unfold threeI at hx
  simp only [List.mem_cons, List.not_mem_nil, or_false] at hx
  rcases hx with rfl | rfl | rfl
  · exact ⟨hn, h1⟩
  · exact ⟨hn, ht⟩
  · exact ⟨hn, ht⟩
def ThreeTo (v : Value) (os : List (List UInt8)) (w : World) (e : Ending) (w' : World) : Prop := ∃ A : Option Addr, e = .returned (.slice A 3 3) ∧ ISl w' w'.heap.size (.slice A 3 3) (threeI v os) ∧ Go.RowKit.Below w.heap.size w w'
theorem three_any (w : World) (v : Value) (os : List (List UInt8)) (h : TSl w w.heap.size v os) : Calls Try.prog 48 #[v] w (ThreeTo v os w) := by
  obtain ⟨A, c, rfl, hc1, hc2, hcz, _⟩ := id h
  have H := Lib.hid h
  clear h
  go_enter Try.func48, Try.ntmps48
  go_wp2
  go_ret
  exact ⟨_, rfl, three_isl w A _ c os H.out, below_alloc1 _ _⟩

/-! ### what the document says of it -/
theorem three_check : checkM threeL = 0 := by decide +kernel
theorem checkS_three (v : Value) (os : List (List UInt8)) : checkS (threeI v os) = if (threeI v os).all othB = false then 4 else if (threeI v os).all (thereB (threeI v os)) = false then 150 else 0 := by
  unfold checkS
  rw [threeI_it, three_check, if_neg (by simp)]
theorem cs_cb (v : Value) : checkS (threeI v [[67], [66]]) = 0 := by rw [checkS_three]; kernel_rfl
theorem cs_a (v : Value) : checkS (threeI v [[65]]) = 4 := by rw [checkS_three]; kernel_rfl
theorem cs_z (v : Value) : checkS (threeI v [[90]]) = 150 := by rw [checkS_three]; kernel_rfl
theorem row_cb (v : Value) : rowS (threeI v [[67], [66]]) [65] = [[65], [67], [66]] := by kernel_rfl
theorem row_z (v : Value) : rowS (threeI v []) [90] = [] := by kernel_rfl

/-! ### with texts that are written there -/
abbrev t2O : Obj := .cells #[.string ⟨#[67]⟩, .string ⟨#[66]⟩] 9
theorem three_cb (w : World) (g : Nat) (hg : w.heap.size = g) : Calls Try.prog 48 #[.slice (some ⟨g, 0, none⟩) 2 2] (w.alloc t2O) fun e w' => ∃ A v, e = .returned (.slice A 3 3) ∧ ISl w' w'.heap.size (.slice A 3 3) (threeI v [[67], [66]]) ∧ Go.RowKit.Below w.heap.size w w' := by
  subst hg
  have hb := below_alloc1 w t2O
  have ht : TSl (w.alloc t2O) (w.alloc t2O).heap.size (.slice (some ⟨w.heap.size, 0, none⟩) 2 2) [[67], [66]] :=
    TSl.own (World.ownsRow_lit (base := w.heap.size) (e := 9) (size := 1) w #[.string ⟨#[67]⟩, .string ⟨#[66]⟩] 2 (Nat.le_refl _) (by simp [maxLen]) rfl)
  refine (three_any _ _ _ ht).mono ?_
  rintro e w' ⟨A, rfl, h1, h2⟩
  exact ⟨A, _, rfl, h1, hb.trans (h2.mono hb.size)⟩
theorem three_one (w : World) (g : Nat) (s : List UInt8) (hg : w.heap.size = g) : Calls Try.prog 48 #[.slice (some ⟨g, 0, none⟩) 1 1] (w.alloc (.cells #[.string ⟨s.toArray⟩] 9)) fun e w' => ∃ A v, e = .returned (.slice A 3 3) ∧ ISl w' w'.heap.size (.slice A 3 3) (threeI v [s]) ∧ Go.RowKit.Below w.heap.size w w' := by
  subst hg
  have hb := below_alloc1 w (.cells #[.string ⟨s.toArray⟩] 9)
  refine (three_any _ _ _ (one_tsl w s)).mono ?_
  rintro e w' ⟨A, rfl, h1, h2⟩
  exact ⟨A, _, rfl, h1, hb.trans (h2.mono hb.size)⟩
theorem three_none (w : World) : Calls Try.prog 48 #[.slice none 0 0] w fun e w' => ∃ A v, e = .returned (.slice A 3 3) ∧ ISl w' w'.heap.size (.slice A 3 3) (threeI v []) ∧ Go.RowKit.Below w.heap.size w w' := by
  refine (three_any _ _ _ TSl.nil).mono ?_
  rintro e w' ⟨A, rfl, h1, h2⟩
  exact ⟨A, _, rfl, h1, h2⟩
theorem sized_few {v : Value} {os : List (List UInt8)} (h : os.all (fun s => decide (s.length ≤ 5)) = true) (hl : os.length ≤ 5) : SizedI (threeI v os) := threeI_sized (fun s hs => by
  rw [List.all_eq_true] at h
  have := h s hs
  simp at this
  unfold maxLen; omega) (by omega)
theorem rowCB (v vi : Value) (w : World) (h : ISl w w.heap.size vi (threeI v [[67], [66]])) : Calls Try.prog 26 #[vi, .string ⟨#[65]⟩] w fun e w' => ∃ A k, e = .returned (.slice A 3 k) ∧ TSl w' w'.heap.size (.slice A 3 k) [[65], [67], [66]] ∧ Go.RowKit.Below w.heap.size w w' := by
  refine (sRow_any vi _ [65] w h (sized_few (by decide) (by decide)) (by simp [threeI])).mono ?_
  rintro e w' ⟨v', rfl, ho, hb⟩
  rw [row_cb] at ho
  obtain ⟨A, k, rfl, _⟩ := own_form ho
  exact ⟨A, k, rfl, TSl.own ho, hb⟩
theorem rowZ (v vi : Value) (w : World) (h : ISl w w.heap.size vi (threeI v [])) : Calls Try.prog 26 #[vi, .string ⟨#[90]⟩] w fun e w' => ∃ A k, e = .returned (.slice A 0 k) ∧ Go.RowKit.Below w.heap.size w w' := by
  refine (sRow_any vi _ [90] w h (sized_few (by decide) (by decide)) (by simp [threeI])).mono ?_
  rintro e w' ⟨v', rfl, ho, hb⟩
  rw [row_z] at ho
  obtain ⟨A, k, rfl, _⟩ := own_form ho
  exact ⟨A, k, rfl, hb⟩
theorem checkT (v vi : Value) (os : List (List UInt8)) (n : Int) (w : World) (h : ISl w w.heap.size vi (threeI v os)) (ho : os.all (fun s => decide (s.length ≤ 5)) = true) (hl : os.length ≤ 5) (hn : checkS (threeI v os) = n) : Calls Try.prog 25 #[vi] w fun e w' => e = .returned (.int .i64 n) ∧ Go.RowKit.Below w.heap.size w w' := by
  rw [← hn]
  exact checkS_any vi _ w h (sized_few ho hl) (by simp [threeI])
theorem same_cb (v : Value) (w : World) (hv : TSl w w.heap.size v [[65], [67], [66]]) (g : Nat) (hg : w.heap.size = g) :
    Calls Try.prog 28 #[v, .slice (some ⟨g, 0, none⟩) 3 3] (w.alloc (.cells #[.string ⟨#[65]⟩, .string ⟨#[67]⟩, .string ⟨#[66]⟩] 9)) fun e w' => e = .returned (.bool true) ∧ Go.RowKit.Below w.heap.size w w' := by
  subst hg
  have hb0 := below_alloc1 w (.cells #[.string ⟨#[65]⟩, .string ⟨#[67]⟩, .string ⟨#[66]⟩] 9)
  have h2 : TSl (w.alloc (.cells #[.string ⟨#[65]⟩, .string ⟨#[67]⟩, .string ⟨#[66]⟩] 9)) (w.alloc (.cells #[.string ⟨#[65]⟩, .string ⟨#[67]⟩, .string ⟨#[66]⟩] 9)).heap.size (.slice (some ⟨w.heap.size, 0, none⟩) 3 3) [[65], [67], [66]] :=
    TSl.own (World.ownsRow_lit (base := w.heap.size) (e := 9) (size := 1) w #[.string ⟨#[65]⟩, .string ⟨#[67]⟩, .string ⟨#[66]⟩] 3 (Nat.le_refl _) (by simp [maxLen]) rfl)
  refine (sameT_any [[65], [67], [66]] [[65], [67], [66]] v _ _ (hv.at_ hb0) h2 (by simp) (by simp)).mono ?_
  rintro e w' ⟨he, hb⟩
  exact ⟨he.trans (by simp), hb0.trans (hb.mono hb0.size)⟩
set_option maxRecDepth 100000 in
set_option maxHeartbeats 4000000 in
theorem awake8_any (w : World) : Calls Try.prog 23 #[] w fun e w' => e = .returned (.bool true) ∧ Go.RowKit.Below w.heap.size w w' := by
  have HB := Lib.hid (Go.RowKit.Below.refl w.heap.size w)
  go_enter Try.func23, Try.ntmps23
  go_wp2_with (first
    | (go_at_call 48; (first
        | ((with_reducible refine (three_cb _ _ rfl).mono ?_); rintro e w1 ⟨A1, v1, rfl, hi, hb⟩; have HI := Lib.hid hi; have HB := Lib.hid (below_two HB.out hb); clear hi hb)
        | ((with_reducible refine (three_none _).mono ?_); rintro e w1 ⟨A1, v1, rfl, hi, hb⟩; have HI := Lib.hid hi; have HB := Lib.hid (below_two HB.out hb); clear hi hb)
        | ((with_reducible refine (three_one _ _ [65] rfl).mono ?_); rintro e w1 ⟨A1, v1, rfl, hi, hb⟩; have HI := Lib.hid hi; have HB := Lib.hid (below_two HB.out hb); clear hi hb)
        | ((with_reducible refine (three_one _ _ [90] rfl).mono ?_); rintro e w1 ⟨A1, v1, rfl, hi, hb⟩; have HI := Lib.hid hi; have HB := Lib.hid (below_two HB.out hb); clear hi hb)))
    | (go_at_call 26; (first
        | ((with_reducible refine (rowCB _ _ _ HI.out).mono ?_); rintro e w1 ⟨A2, k2, rfl, ht, hb⟩; have HT := Lib.hid ht; have HB := Lib.hid (below_two HB.out hb); clear ht hb)
        | ((with_reducible refine (rowZ _ _ _ HI.out).mono ?_); rintro e w1 ⟨A2, k2, rfl, hb⟩; have HB := Lib.hid (below_two HB.out hb); clear hb)))
    | (go_at_call 28; ((with_reducible refine (same_cb _ _ HT.out _ rfl).mono ?_); rintro e w1 ⟨rfl, hb⟩; have HB := Lib.hid (below_two HB.out hb); clear hb))
    | (go_at_call 25; (first
        | ((with_reducible refine (checkT _ _ [[67], [66]] 0 _ HI.out (by decide) (by decide) (cs_cb _)).mono ?_); rintro e w1 ⟨rfl, hb⟩; have HB := Lib.hid (below_two HB.out hb); clear hb)
        | ((with_reducible refine (checkT _ _ [[65]] 4 _ HI.out (by decide) (by decide) (cs_a _)).mono ?_); rintro e w1 ⟨rfl, hb⟩; have HB := Lib.hid (below_two HB.out hb); clear hb)
        | ((with_reducible refine (checkT _ _ [[90]] 150 _ HI.out (by decide) (by decide) (cs_z _)).mono ?_); rintro e w1 ⟨rfl, hb⟩; have HB := Lib.hid (below_two HB.out hb); clear hb))))
  go_ret
  exact ⟨rfl, HB.out⟩
end Kt
end Go.Proofs.Ytlgpambbghkffaa
end
section
/- What SwapRows says, in words of lists alone; rows of items with their others gone, or turned. -/
namespace Go.Proofs.Ytlgpambbghkffaa
namespace Kt
open Go.ChangeShapes Go.WideShapes Go.ChangeAt Go.RowKit Go.Maps Go.Shelf
set_option linter.unusedVariables false

/-- Without its others. -/
def strip (x : Iv) : Iv := ⟨x.it, [], x.pv, .slice none 0 0⟩
def bareTo (m : List Iv) (k : Nat) : List Iv := (m.take k).map strip ++ m.drop k
theorem bareTo_zero (m : List Iv) : bareTo m 0 = m := by simp [bareTo]
theorem bareTo_all (m : List Iv) : bareTo m m.length = m.map strip := by simp [bareTo]
theorem bareTo_len (m : List Iv) (k : Nat) : (bareTo m k).length = m.length := by simp [bareTo]; omega
theorem bareTo_it (m : List Iv) (k : Nat) : (bareTo m k).map (·.it) = m.map (·.it) := by
  unfold bareTo
  rw [List.map_append, List.map_map]
  conv => rhs; rw [← List.take_append_drop k m, List.map_append]
  rfl
theorem bareTo_get {m : List Iv} {k : Nat} {x : Iv} (h : m[k]? = some x) : (bareTo m k)[k]? = some x := by
  have hk := (List.getElem?_eq_some_iff.1 h).1
  unfold bareTo
  rw [List.getElem?_append_right (by simp; omega)]
  simp only [List.length_map, List.length_take, Nat.min_eq_left (Nat.le_of_lt hk), Nat.sub_self, List.getElem?_drop, Nat.add_zero]
  exact h
theorem bareTo_succ {m : List Iv} {k : Nat} {x : Iv} (h : m[k]? = some x) : bareTo m (k + 1) = (bareTo m k).set k (strip x) := by
  have hk := (List.getElem?_eq_some_iff.1 h).1
  obtain ⟨_, hx⟩ := List.getElem?_eq_some_iff.1 h
  have hd : m.drop k = x :: m.drop (k + 1) := by rw [List.drop_eq_getElem_cons hk, hx]
  have hl : ((m.take k).map strip).length = k := by simp; omega
  unfold bareTo
  rw [hd, List.take_add_one, h, List.map_append, List.set_append_right _ _ (by omega), hl, Nat.sub_self]
  simp
theorem icells_set : ∀ (l : List Iv) (k : Nat) (x : Iv) (u : Value), l[k]? = some x → (icells l).set (k * 4 + 3) u = icells (l.set k ⟨x.it, [], x.pv, u⟩)
  | [], k, x, u, h => by simp at h
  | y :: l, 0, x, u, h => by
    simp at h; subst h
    simp [icells, encI]
  | y :: l, k + 1, x, u, h => by
    have := icells_set l k x u (by simpa using h)
    rw [show (k + 1) * 4 + 3 = (encI y).length + (k * 4 + 3) by rw [encI_length]; omega]
    simp only [icells, List.set_cons_succ]
    rw [List.set_append_right _ _ (by omega), Nat.add_sub_cancel_left, this]
theorem own_slice {w : World} {base e size n : Nat} {v : Value} {xs : List Value} (h : w.ownsRow base e size v n xs) (hn : 0 < n) : ∃ g c, v = .slice (some ⟨g, 0, none⟩) n c ∧ base ≤ g ∧ w.frozen? ⟨g, 0, none⟩ = w.frozen? ⟨g, 0, none⟩ := by
  rcases h.2 with ⟨rfl, h0⟩ | ⟨g, cap, cur, rfl, h1, _⟩
  · omega
  · exact ⟨g, cap, rfl, h1, rfl⟩
/-- Others are taken away from one. -/
theorem Rowed.strip {m : List Iv} {base : Nat} {W : World} {g n c : Nat} (h : Rowed m base W (.slice (some ⟨g, 0, none⟩) n c)) {k : Nat} {x : Iv} (hx : m[k]? = some x) : Rowed (m.set k (strip x)) base (W.setCell ⟨g, k * 4 + 3, none⟩ (.slice none 0 0)) (.slice (some ⟨g, 0, none⟩) n c) := by
  obtain ⟨A', c', e, _⟩ := own_form h.row
  cases e
  have hst := (h.row.stored (k * 4 + 3) (.slice none 0 0)).1
  have hbg := (h.row.lt g rfl).1
  have hkeep : ∀ {e size n : Nat} {u : Value} {xs : List Value} {B : Nat}, W.ownsRow B e size u n xs → e ≠ 32 → (W.setCell ⟨g, k * 4 + 3, none⟩ (.slice none 0 0)).ownsRow B e size u n xs := fun {e size n u xs B} hu he => by
    refine ownsRow_setCell_other hu ?_ _
    intro hb
    rcases hu.2 with ⟨rfl, _⟩ | ⟨g', cap, cur, rfl, _, hh, _⟩
    · cases hb
    · simp only [Value.ownBlock, Option.some.injEq] at hb
      subst hb
      rcases h.row.2 with ⟨h1, _⟩ | ⟨g2, cap2, cur2, h1, _, hh2, _⟩
      · cases h1
      · simp only [Value.slice.injEq, Option.some.injEq, Addr.mk.injEq] at h1
        obtain ⟨⟨rfl, _, _⟩, _, _⟩ := h1
        rw [hh] at hh2
        simp only [Option.some.injEq, Obj.cells.injEq] at hh2
        exact he hh2.2.1
  have hbel : Go.RowKit.Below base W (W.setCell ⟨g, k * 4 + 3, none⟩ (.slice none 0 0)) := (Below.refl base W).setCell hbg _
  refine ⟨?_, fun y hy => ?_, by rw [World.size_setCell]; exact h.base⟩
  · rw [List.length_set]
    have := icells_set m k x (.slice none 0 0) hx
    rw [this] at hst
    exact hst
  · rcases List.mem_or_eq_of_mem_set hy with hy | rfl
    · rcases h.sub y hy with h1 | h1
      · exact .inl ⟨hkeep h1.parts (by decide), hkeep h1.others (by decide)⟩
      · exact .inr (h1.below hbel)
    · rcases h.sub x (List.mem_of_getElem? hx) with h1 | h1
      · exact .inl ⟨hkeep h1.parts (by decide), World.ownsRow_nil _ _ _ _⟩
      · exact .inr ⟨h1.parts.below hbel, TSl.nil⟩
theorem checkS_bare (m : List Iv) : checkS (m.map strip) = checkM (m.map (·.it)) := by
  have h1 : (m.map strip).map (·.it) = m.map (·.it) := by rw [List.map_map]; rfl
  have h2 : (m.map strip).all othB = true := by
    rw [List.all_eq_true]
    intro y hy
    obtain ⟨x, _, rfl⟩ := List.mem_map.1 hy
    simp [othB, Kt.strip]
  have h3 : (m.map strip).all (thereB (m.map strip)) = true := by
    rw [List.all_eq_true]
    intro y hy
    obtain ⟨x, _, rfl⟩ := List.mem_map.1 hy
    simp [thereB, Kt.strip]
  unfold checkS
  rw [h1, h2, h3]
  by_cases h0 : checkM (m.map (·.it)) = 0
  · rw [if_neg (by simp [h0]), h0]; simp
  · rw [if_pos h0]
theorem sized_strip {m : List Iv} (h : SizedI m) : SizedI (m.map strip) := by
  intro y hy
  obtain ⟨x, hx, rfl⟩ := List.mem_map.1 hy
  obtain ⟨h1, h2, h3, h4, h5, h6⟩ := h x hx
  exact ⟨h1, h2, h3, by simp [Kt.strip], h5, by simp [Kt.strip]⟩

/-! ### where others may be -/
theorem checkS_ok {l : List Iv} (h : checkS l = 0) : checkM (l.map (·.it)) = 0 ∧ l.all othB = true ∧ l.all (thereB l) = true := by
  unfold checkS at h
  by_cases h0 : checkM (l.map (·.it)) = 0
  · rw [if_neg (by simp [h0])] at h
    refine ⟨h0, ?_⟩
    cases h1 : l.all othB
    · rw [if_pos h1] at h; cases h
    · rw [if_neg (by rw [h1]; simp)] at h
      cases h2 : l.all (thereB l)
      · rw [if_pos h2] at h; cases h
      · exact ⟨rfl, rfl⟩
  · rw [if_pos h0] at h
    exact absurd h h0
theorem ok_checkS {l : List Iv} (h0 : checkM (l.map (·.it)) = 0) (h1 : l.all othB = true) (h2 : l.all (thereB l) = true) : checkS l = 0 := by
  unfold checkS
  rw [if_neg (by simp [h0]), if_neg (by rw [h1]; simp), if_neg (by rw [h2]; simp)]
/-- An item's row. -/
theorem row_facts {l : List Iv} (h : checkS l = 0) {x : Iv} (hx : x ∈ l) : rowS l x.it.code = x.it.code :: x.others ∧ x.others.length ≤ 4 ∧ (x.it.code :: x.others).Nodup ∧ ∀ s ∈ x.it.code :: x.others, 1 ≤ (rowS l s).length := by
  obtain ⟨h0, h1, h2⟩ := checkS_ok h
  have hn := sd_nodupI h0
  have hrow : ∀ y ∈ l, rowS l y.it.code = y.it.code :: y.others := fun y hy => by unfold rowS; rw [firstC_mem hn hy]
  rw [List.all_eq_true] at h1 h2
  have h3 := h1 x hx
  have h4 := h2 x hx
  unfold othB at h3
  simp only [Bool.and_eq_true, decide_eq_true_eq] at h3
  unfold thereB at h4
  rw [List.all_eq_true] at h4
  refine ⟨hrow x hx, h3.1, h3.2, fun s hs => ?_⟩
  rcases List.mem_cons.1 hs with rfl | hs
  · rw [hrow x hx]; simp
  · have h5 := h4 s hs
    simp only [decide_eq_true_eq] at h5
    obtain ⟨y, hy, rfl⟩ := List.mem_map.1 h5
    rw [hrow y hy]; simp
/-- One item's others may be put in any order. -/
theorem turned_ok {l m : List Iv} (h : checkS l = 0) (hi : m.map (·.it) = l.map (·.it)) (ho : m.map (·.others) = l.map (·.others)) {p : Nat} {y : Iv} (hy : m[p]? = some y) {cur : List (List UInt8)} (hc : cur.Perm y.others) : checkS (m.set p ⟨y.it, cur, y.pv, y.ov⟩) = 0 := by
  obtain ⟨h0, h1, h2⟩ := checkS_ok h
  have hits : (m.set p ⟨y.it, cur, y.pv, y.ov⟩).map (·.it) = l.map (·.it) := by
    rw [List.map_set, ← hi]
    apply List.ext_getElem?
    intro j
    rw [List.getElem?_set]
    split
    · rename_i e
      subst e
      split
      · rw [List.getElem?_map, hy]; rfl
      · rename_i hn
        rw [List.getElem?_eq_none (by omega)]
    · rfl
  have hcodes : codesI (m.set p ⟨y.it, cur, y.pv, y.ov⟩) = codesI l := by
    unfold codesI
    have e1 : ∀ q : List Iv, q.map (fun x => x.it.code) = (q.map (·.it)).map (·.code) := fun q => by rw [List.map_map]; rfl
    rw [e1, e1, hits]
  have hpair : ∀ (j : Nat) (z : Iv), m[j]? = some z → ∃ x : Iv, l[j]? = some x ∧ x.it = z.it ∧ x.others = z.others := by
    intro j z hz
    have e1 : (l.map (·.it))[j]? = some z.it := by rw [← hi, List.getElem?_map, hz]; rfl
    have e2 : (l.map (·.others))[j]? = some z.others := by rw [← ho, List.getElem?_map, hz]; rfl
    rw [List.getElem?_map] at e1 e2
    cases hl : l[j]? with
    | none => rw [hl] at e1; cases e1
    | some x =>
      rw [hl] at e1 e2
      exact ⟨x, rfl, by simpa using e1, by simpa using e2⟩
  rw [List.all_eq_true] at h1 h2
  refine ok_checkS (by rw [hits]; exact h0) ?_ ?_
  · rw [List.all_eq_true]
    intro z hz
    rcases List.mem_or_eq_of_mem_set hz with hz | rfl
    · obtain ⟨j, hj⟩ := List.getElem?_of_mem hz
      obtain ⟨x, hx, e1, e2⟩ := hpair j z hj
      have := h1 x (List.mem_of_getElem? hx)
      unfold othB at this ⊢
      rw [e1, e2] at this
      exact this
    · obtain ⟨x, hx, e1, e2⟩ := hpair p y hy
      have := h1 x (List.mem_of_getElem? hx)
      unfold othB at this ⊢
      rw [e1, e2] at this
      simp only [Bool.and_eq_true, decide_eq_true_eq] at this ⊢
      exact ⟨by rw [hc.length_eq]; exact this.1, (List.Perm.cons _ hc).nodup_iff.2 this.2⟩
  · rw [List.all_eq_true]
    intro z hz
    unfold thereB
    rw [hcodes, List.all_eq_true]
    rcases List.mem_or_eq_of_mem_set hz with hz | rfl
    · obtain ⟨j, hj⟩ := List.getElem?_of_mem hz
      obtain ⟨x, hx, e1, e2⟩ := hpair j z hj
      have := h2 x (List.mem_of_getElem? hx)
      unfold thereB at this
      rw [List.all_eq_true, e2] at this
      exact this
    · obtain ⟨x, hx, e1, e2⟩ := hpair p y hy
      have := h2 x (List.mem_of_getElem? hx)
      unfold thereB at this
      rw [List.all_eq_true, e2] at this
      exact fun s hs => this s (hc.mem_iff.1 hs)
theorem swap_perm {l : List (List UInt8)} {i k : Nat} {a b : List UInt8} (hik : i < k) (ha : l[i]? = some a) (hb : l[k]? = some b) : ((l.set i b).set k a).Perm l := by
  obtain ⟨hi, rfl⟩ := List.getElem?_eq_some_iff.1 ha
  obtain ⟨hk, rfl⟩ := List.getElem?_eq_some_iff.1 hb
  exact List.set_set_perm hi hk
/-- A copy of the items, of which one's others are being turned. -/
structure Turn (m : List Iv) (p : Nat) (y : Iv) (base : Nat) (W : World) (v : Value) (cur : List (List UInt8)) : Prop where
  row : W.ownsRow base 32 4 v m.length (icells m)
  rest : ∀ (j : Nat) (x : Iv), m[j]? = some x → j ≠ p → OwnI W base x
  parts : W.ownsRow base 39 2 y.pv y.it.parts.length (pcells y.it.parts)
  len : cur.length = y.others.length
  others : W.ownsRow base 9 1 y.ov y.others.length (tcells cur)
  perm : cur.Perm y.others
theorem Turn.start {l m : List Iv} {base : Nat} {W : World} {v : Value} (h : Copied l m base W v) {p : Nat} {y : Iv} (hy : m[p]? = some y) : Turn m p y base W v y.others :=
  ⟨h.row, fun j x hx _ => h.own x (List.mem_of_getElem? hx), (h.own y (List.mem_of_getElem? hy)).parts, rfl, (h.own y (List.mem_of_getElem? hy)).others, List.Perm.refl _⟩
theorem Turn.drew {m : List Iv} {p : Nat} {y : Iv} {base : Nat} {W : World} {v : Value} {cur : List (List UInt8)} (h : Turn m p y base W v cur) : Turn m p y base W.drew v cur :=
  ⟨h.row.drew, fun j x hx hj => ⟨(h.rest j x hx hj).parts.drew, (h.rest j x hx hj).others.drew⟩, h.parts.drew, h.len, h.others.drew, h.perm⟩
theorem own_row_ne {w : World} {base e size n : Nat} {v : Value} {xs : List Value} (h : w.ownsRow base e size v n xs) {base' e' size' n' g c : Nat} {xs' : List Value} (h' : w.ownsRow base' e' size' (.slice (some ⟨g, 0, none⟩) n' c) n' xs') (he : e ≠ e') : v.ownBlock ≠ some g := by
  intro hb
  rcases h.2 with ⟨rfl, _⟩ | ⟨g', cap, cur, rfl, _, hh, _⟩
  · cases hb
  · simp only [Value.ownBlock, Option.some.injEq] at hb
    subst hb
    rcases h'.2 with ⟨h1, _⟩ | ⟨g2, cap2, cur2, h1, _, hh2, _⟩
    · cases h1
    · simp only [Value.slice.injEq, Option.some.injEq, Addr.mk.injEq] at h1
      obtain ⟨⟨rfl, _, _⟩, _, _⟩ := h1
      rw [hh] at hh2
      simp only [Option.some.injEq, Obj.cells.injEq] at hh2
      exact he hh2.2.1
theorem tcells_set : ∀ (l : List (List UInt8)) (i : Nat) (s : List UInt8), (tcells l).set i (strV s) = tcells (l.set i s)
  | [], i, s => by simp [tcells]
  | a :: l, 0, s => by simp [tcells]
  | a :: l, i + 1, s => by
    have := tcells_set l i s
    unfold tcells at this ⊢
    simp only [List.map_cons, List.set_cons_succ, this]
/-- One text is written. -/
theorem Turn.set {m : List Iv} {p : Nat} {y : Iv} {base : Nat} {W : World} {v : Value} {cur : List (List UInt8)} (hrow : W.ownsRow base 32 4 v m.length (icells m)) (hrest : ∀ (j : Nat) (x : Iv), m[j]? = some x → j ≠ p → OwnI W base x) (hparts : W.ownsRow base 39 2 y.pv y.it.parts.length (pcells y.it.parts))
    {go c : Nat} (hov : y.ov = .slice (some ⟨go, 0, none⟩) y.others.length c) (hoth : W.ownsRow base 9 1 y.ov y.others.length (tcells cur)) (hap : ∀ (j : Nat) (x : Iv), m[j]? = some x → j ≠ p → x.ov.ownBlock ≠ some go) (i : Nat) (s : List UInt8) :
    (W.setCell ⟨go, i, none⟩ (strV s)).ownsRow base 32 4 v m.length (icells m) ∧ (∀ (j : Nat) (x : Iv), m[j]? = some x → j ≠ p → OwnI (W.setCell ⟨go, i, none⟩ (strV s)) base x) ∧ (W.setCell ⟨go, i, none⟩ (strV s)).ownsRow base 39 2 y.pv y.it.parts.length (pcells y.it.parts) ∧
    (W.setCell ⟨go, i, none⟩ (strV s)).ownsRow base 9 1 y.ov y.others.length (tcells (cur.set i s)) := by
  rw [hov] at hoth ⊢
  refine ⟨ownsRow_setCell_other hrow (own_row_ne hrow hoth (by decide)) _, fun j x hx hj => ⟨ownsRow_setCell_other (hrest j x hx hj).parts (own_row_ne (hrest j x hx hj).parts hoth (by decide)) _, ownsRow_setCell_other (hrest j x hx hj).others (hap j x hx hj) _⟩, ownsRow_setCell_other hparts (own_row_ne hparts hoth (by decide)) _, ?_⟩
  have := (hoth.stored i (strV s)).1
  rw [tcells_set] at this
  exact this
/-- Two texts change places. -/
theorem Turn.swap {m : List Iv} {p : Nat} {y : Iv} {base : Nat} {W : World} {v : Value} {cur : List (List UInt8)} (h : Turn m p y base W v cur) {go c : Nat} (hov : y.ov = .slice (some ⟨go, 0, none⟩) y.others.length c) (hap : ∀ (j : Nat) (x : Iv), m[j]? = some x → j ≠ p → x.ov.ownBlock ≠ some go)
    {i k : Nat} {a b : List UInt8} (hik : i < k) (ha : cur[i]? = some a) (hb : cur[k]? = some b) : Turn m p y base ((W.setCell ⟨go, i, none⟩ (strV b)).setCell ⟨go, k, none⟩ (strV a)).drew v ((cur.set i b).set k a) := by
  obtain ⟨h1, h2, h3, h4⟩ := Turn.set h.row h.rest h.parts hov h.others hap i b
  obtain ⟨g1, g2, g3, g4⟩ := Turn.set h1 h2 h3 hov h4 hap k a
  exact Turn.drew ⟨g1, g2, g3, by simp [h.len], g4, (swap_perm hik ha hb).trans h.perm⟩
theorem apart_ne {m : List Iv} (h : ApartO m) {p : Nat} {y : Iv} (hy : m[p]? = some y) {go : Nat} (hgo : y.ov.ownBlock = some go) : ∀ (j : Nat) (x : Iv), m[j]? = some x → j ≠ p → x.ov.ownBlock ≠ some go := by
  intro j x hx hj e
  have hp := List.pairwise_iff_getElem.1 h
  obtain ⟨h1, e1⟩ := List.getElem?_eq_some_iff.1 hx
  obtain ⟨h2, e2⟩ := List.getElem?_eq_some_iff.1 hy
  rcases Nat.lt_or_gt_of_ne hj with hlt | hlt
  · have := hp j p h1 h2 hlt
    rw [e1, e2, hgo] at this
    rcases this with h | h
    · cases h
    · exact h e
  · have := hp p j h2 h1 hlt
    rw [e1, e2, hgo, e] at this
    rcases this with h | h
    · cases h
    · exact h rfl
theorem icells_turn : ∀ (m : List Iv) (p : Nat) (y : Iv) (cur : List (List UInt8)), m[p]? = some y → icells (m.set p ⟨y.it, cur, y.pv, y.ov⟩) = icells m
  | [], p, y, cur, h => by simp at h
  | z :: m, 0, y, cur, h => by simp at h; subst h; rfl
  | z :: m, p + 1, y, cur, h => by
    have := icells_turn m p y cur (by simpa using h)
    simp only [List.set_cons_succ, icells, this]
theorem Turn.isl {m : List Iv} {p : Nat} {y : Iv} {base : Nat} {W : World} {v : Value} {cur : List (List UInt8)} (h : Turn m p y base W v cur) (hy : m[p]? = some y) : ISl W W.heap.size v (m.set p ⟨y.it, cur, y.pv, y.ov⟩) := by
  refine ISl.own (base := base) (e := 32) (by rw [List.length_set, icells_turn m p y cur hy]; exact h.row) (fun x hx => ?_)
  obtain ⟨j, hj⟩ := List.getElem?_of_mem hx
  rw [List.getElem?_set] at hj
  split at hj
  · split at hj
    · cases hj
      exact ⟨PSl.own h.parts, TSl.own (by have := h.others; rw [← h.len] at this; exact this)⟩
    · cases hj
  · rename_i hne
    exact (h.rest j x hj (fun e => hne e.symm)).sub
end Kt
end Go.Proofs.Ytlgpambbghkffaa
end
section
/- A single region of the law SwapRows: two texts change places. Written by gen_swreg.py. -/
namespace Go.Proofs.Ytlgpambbghkffaa
namespace Kt
open Go.ChangeShapes Go.WideShapes Go.ChangeAt Go.RowKit Go.Maps Go.Shelf
set_option linter.unusedVariables false
set_option linter.constructorNameAsVariable false

def regionS (n : Nat) : Code → Option Code
  | .region id ops d => if id = n then some (.region id ops d) else none
  | .loop c => regionS n c
  | .seq a b => match regionS n a with
    | some c => some c
    | none => regionS n b
  | .block _ c => regionS n c
  | .scope c => regionS n c
  | .cond _ a b => match regionS n a with
    | some c => some c
    | none => regionS n b
  | _ => none
noncomputable def rowsR37 : Code := ((Try.f6.body.bind (regionS 37)).getD .skip)

set_option maxRecDepth 100000 in
set_option maxHeartbeats 4000000 in
theorem r37 {Q : Exit → Act → World → Prop} {W : World} {c : Code} (hc : c = rowsR37) {u0 u1 u2 u3 u4 u5 u6 u7 u8 u9 u10 u11 u15 u16 u17 u18 u19 u20 u21 u22 u23 u24 u25 u26 u27 u28 u29 u30 u31 u32 u33 u34 u35 u36 u37 u38 u39 u40 u41 u42 u43 u44 u45 u46 u47 u48 u49 u50 u51 u52 u53 u54 u55 u56 u57 u58 u59 u60 u61 u62 u63 u64 u65 u66 u67 u68 u69 u70 u71 u72 u73 u74 u75 u76 u77 u78 u79 u80 u81 u82 u83 u84 u85 u86 u87 u88 u89 u90 u91 u92 u93 u94 u95 u96 u97 u98 u99 u100 u101 u102 u103 u104 u105 u106 u107 u108 u109 u110 u111 u112 u113 u114 u115 u116 u117 u118 u119 u120 u121 u122 u123 u124 u125 u126 u127 u128 u129 u130 u131 u132 u133 u134 u135 u136 u137 u138 u139 u140 u141 u142 u143 u144 u145 u146 u147 u148 u149 u150 u151 u152 u153 u154 u155 u156 u157 u158 u159 u160 u161 u162 u163 u164 u165 : Value} {gi pi go n cap i k : Nat} {a b : List UInt8}
    (hik : i < k)
    (hkn : k < n)
    (hn : n ≤ 1048576)
    (hgo : gi ≠ go)
    (c3 : W.cell? ⟨gi, pi + 3, none⟩ = some (.slice (some ⟨go, 0, none⟩) n cap))
    (ca : W.cell? ⟨go, i, none⟩ = some (strV a))
    (cb : W.cell? ⟨go, k, none⟩ = some (strV b))
    (hf : ∀ j, W.frozen? ⟨go, j, none⟩ = false)
    (hQ : ∀ (W' : World) (c137 c138 c139 c140 c141 c142 c143 c144 c145 c146 c147 c148 c149 c150 c151 c152 c153 c154 c155 c156 c157 c158 c159 c160 c161 c162 : Value), W' = ((W.setCell ⟨go, i, none⟩ (strV b)).setCell ⟨go, k, none⟩ (strV a)).drew → Q .normal ⟨List.toArray (u0 :: u1 :: u2 :: u3 :: u4 :: u5 :: u6 :: u7 :: u8 :: u9 :: u10 :: u11 :: .pointer (some ⟨gi, pi, none⟩) :: .int .i64 (i : Nat) :: .int .i64 (k : Nat) :: u15 :: u16 :: u17 :: u18 :: u19 :: u20 :: u21 :: u22 :: u23 :: u24 :: u25 :: u26 :: u27 :: u28 :: u29 :: u30 :: u31 :: u32 :: u33 :: u34 :: u35 :: u36 :: u37 :: u38 :: u39 :: u40 :: u41 :: u42 :: u43 :: u44 :: u45 :: u46 :: u47 :: u48 :: u49 :: u50 :: u51 :: u52 :: u53 :: u54 :: u55 :: u56 :: u57 :: u58 :: u59 :: u60 :: u61 :: u62 :: u63 :: u64 :: u65 :: u66 :: u67 :: u68 :: u69 :: u70 :: u71 :: u72 :: u73 :: u74 :: u75 :: u76 :: u77 :: u78 :: u79 :: u80 :: u81 :: u82 :: u83 :: u84 :: u85 :: u86 :: u87 :: u88 :: u89 :: u90 :: u91 :: u92 :: u93 :: u94 :: u95 :: u96 :: u97 :: u98 :: u99 :: u100 :: u101 :: u102 :: u103 :: u104 :: u105 :: u106 :: u107 :: u108 :: u109 :: u110 :: u111 :: u112 :: u113 :: u114 :: u115 :: u116 :: u117 :: u118 :: u119 :: u120 :: u121 :: u122 :: u123 :: u124 :: u125 :: u126 :: u127 :: u128 :: u129 :: u130 :: u131 :: u132 :: u133 :: u134 :: u135 :: u136 :: c137 :: c138 :: c139 :: c140 :: c141 :: c142 :: c143 :: c144 :: c145 :: c146 :: c147 :: c148 :: c149 :: c150 :: c151 :: c152 :: c153 :: c154 :: c155 :: c156 :: c157 :: c158 :: c159 :: c160 :: c161 :: c162 :: u163 :: u164 :: u165 :: []), []⟩ W') :
    Code.wp Try.prog c Q ⟨List.toArray (u0 :: u1 :: u2 :: u3 :: u4 :: u5 :: u6 :: u7 :: u8 :: u9 :: u10 :: u11 :: .pointer (some ⟨gi, pi, none⟩) :: .int .i64 (i : Nat) :: .int .i64 (k : Nat) :: u15 :: u16 :: u17 :: u18 :: u19 :: u20 :: u21 :: u22 :: u23 :: u24 :: u25 :: u26 :: u27 :: u28 :: u29 :: u30 :: u31 :: u32 :: u33 :: u34 :: u35 :: u36 :: u37 :: u38 :: u39 :: u40 :: u41 :: u42 :: u43 :: u44 :: u45 :: u46 :: u47 :: u48 :: u49 :: u50 :: u51 :: u52 :: u53 :: u54 :: u55 :: u56 :: u57 :: u58 :: u59 :: u60 :: u61 :: u62 :: u63 :: u64 :: u65 :: u66 :: u67 :: u68 :: u69 :: u70 :: u71 :: u72 :: u73 :: u74 :: u75 :: u76 :: u77 :: u78 :: u79 :: u80 :: u81 :: u82 :: u83 :: u84 :: u85 :: u86 :: u87 :: u88 :: u89 :: u90 :: u91 :: u92 :: u93 :: u94 :: u95 :: u96 :: u97 :: u98 :: u99 :: u100 :: u101 :: u102 :: u103 :: u104 :: u105 :: u106 :: u107 :: u108 :: u109 :: u110 :: u111 :: u112 :: u113 :: u114 :: u115 :: u116 :: u117 :: u118 :: u119 :: u120 :: u121 :: u122 :: u123 :: u124 :: u125 :: u126 :: u127 :: u128 :: u129 :: u130 :: u131 :: u132 :: u133 :: u134 :: u135 :: u136 :: u137 :: u138 :: u139 :: u140 :: u141 :: u142 :: u143 :: u144 :: u145 :: u146 :: u147 :: u148 :: u149 :: u150 :: u151 :: u152 :: u153 :: u154 :: u155 :: u156 :: u157 :: u158 :: u159 :: u160 :: u161 :: u162 :: u163 :: u164 :: u165 :: []), []⟩ W := by
  subst hc
  conv => arg 2; whnf
  have HQ := Lib.hid hQ
  clear hQ
  have ca2 : (W.setCell ⟨go, k, none⟩ (strV a)).cell? ⟨go, i, none⟩ = some (strV a) := (World.cell?_setCell_other _ _ _ _ (by intro e; simp at e; try omega)).trans ca
  have cb2 : (W.setCell ⟨go, i, none⟩ (strV b)).cell? ⟨go, k, none⟩ = some (strV b) := (World.cell?_setCell_other _ _ _ _ (by intro e; simp at e; try omega)).trans cb
  have fi := hf i
  have fk := hf k
  refine wp_region_noPanic ?_
  go_region
  exact NoPanic.normal (HQ.out _ _ _ _ _ _ _ _ _ _ _ _ _ _ _ _ _ _ _ _ _ _ _ _ _ _ _ rfl)

end Kt
end Go.Proofs.Ytlgpambbghkffaa
end
section
/- storemankit.Pick: any number brought into a range. -/
namespace Go.Proofs.Ytlgpambbghkffaa
open Go.ChangeShapes Go.WideShapes Go.ChangeAt Go.RowKit Go.Maps
set_option linter.unusedVariables false

theorem ret_int {a b : Int} (h : a = b) : Ending.returned (.int .i64 a) = .returned (.int .i64 b) := by rw [h]
/-- Some number from 0 on, below n. -/
def SomeBelow (n : Nat) (w : World) (e : Ending) (w' : World) : Prop := ∃ k : Nat, k < n ∧ e = .returned (.int .i64 (k : Int)) ∧ w = w'

theorem pick_any (x : Int) (n : Nat) (w : World) (h1 : 1 ≤ n) (h2 : n ≤ 1099511627776) (h3 : -9223372036854775808 ≤ x) (h4 : x ≤ 9223372036854775807) :
    Calls Try.prog 13 #[.int .i64 x, .int .i64 (n : Int)] w (SomeBelow n w) := by
  have hr1 := Int.tmod_lt_of_pos x (show (0 : Int) < (n : Int) by omega)
  have hr2 := Int.lt_tmod_of_pos x (show (0 : Int) < (n : Int) by omega)
  have hn0 : ((n : Int) == 0) = false := by simp; omega
  by_cases hneg : x.tmod n < 0
  · go_enter Try.func13, Try.ntmps13
    go_wp2
    go_ret
    exact ⟨(x.tmod n + n).toNat, by omega, ret_int (by rw [Int.toNat_of_nonneg (by omega)]), rfl⟩
  · go_enter Try.func13, Try.ntmps13
    go_wp2
    go_ret
    exact ⟨(x.tmod n).toNat, by omega, ret_int (by rw [Int.toNat_of_nonneg (by omega)]), rfl⟩

theorem pick_n (x : Int) (n : Nat) (N : Int) (w : World) (hN : (n : Int) = N) (h1 : 1 ≤ n) (h2 : n ≤ 1099511627776) (h3 : -9223372036854775808 ≤ x) (h4 : x ≤ 9223372036854775807) :
    Calls Try.prog 13 #[.int .i64 x, .int .i64 N] w (SomeBelow n w) := by
  subst hN
  exact pick_any x n w h1 h2 h3 h4

end Go.Proofs.Ytlgpambbghkffaa
end
section
/- The law SwapRows: whatever items; the walk. -/
namespace Go.Proofs.Ytlgpambbghkffaa
namespace Kt
open Go.ChangeShapes Go.WideShapes Go.ChangeAt Go.RowKit Go.Maps Go.Shelf
set_option linter.unusedVariables false

theorem kk_int {n t kk : Nat} (h : n - 1 - t = kk) (ht : t < n - 1 - t) : (n : Int) - 1 - (t : Int) = (kk : Int) := by omega
theorem kk_next {n t kk : Nat} (h : n - 1 - t = kk) (ht : t < kk) : (n : Int) - 1 - ((t + 1 : Nat) : Int) = (kk : Int) - 1 := by omega
theorem turned_sized {m : List Iv} (h : SizedI m) {p : Nat} {y : Iv} (hy : m[p]? = some y) {cur : List (List UInt8)} (hc : cur.Perm y.others) : SizedI (m.set p ⟨y.it, cur, y.pv, y.ov⟩) := by
  intro x hx
  rcases List.mem_or_eq_of_mem_set hx with hx | rfl
  · exact h x hx
  · obtain ⟨h1, h2, h3, h4, h5, h6⟩ := h y (List.mem_of_getElem? hy)
    exact ⟨h1, h2, h3, fun s hs => h4 s (hc.mem_iff.1 hs), h5, by show cur.length ≤ _; rw [hc.length_eq]; exact h6⟩
theorem nz_of_pos {n : Nat} (h : 1 ≤ n) : ((n : Int) == 0) = false := by rw [beq_eq_false_iff_ne]; omega
theorem nodup_ne {l : List (List UInt8)} (h : l.Nodup) {i j : Nat} {a b : List UInt8} (hij : i < j) (ha : l[i]? = some a) (hb : l[j]? = some b) : (a == b) = false := by
  rw [beq_eq_false_iff_ne]
  rintro rfl
  obtain ⟨h1, e1⟩ := List.getElem?_eq_some_iff.1 ha
  obtain ⟨h2, e2⟩ := List.getElem?_eq_some_iff.1 hb
  have := (List.getElem_inj h).1 (e1.trans e2.symm)
  omega
theorem few_nums {n : Nat} (h : n ≤ 4) : IntKind.i64.wrap (1 + (n : Int)) = (n : Int) + 1 ∧ wrap64 (1 + (n : Int)) = (n : Int) + 1 ∧ (((n : Int) + 1) != ((n : Int) + 1)) = false ∧ decide ((5 : Int) < (n : Int) + 1) = false ∧ decide (5 < n + 1) = false := by
  refine ⟨by rw [IntKind.wrap_i64]; omega, by unfold wrap64; omega, by simp, decide_eq_false (by omega), decide_eq_false (by omega)⟩
set_option maxRecDepth 100000 in
set_option maxHeartbeats 8000000 in
theorem rows_any (v : Value) (l : List Iv) (pick : Int) (w : World) (hv : ISl w w.heap.size v l) (hw : ∀ x ∈ l, Iv.Wide x) (hin : ∀ x ∈ l, x.it.parts.length ≤ 140737488355328 ∧ x.others.length ≤ 140737488355328) (hlen : l.length ≤ 140737488355328)
    (hp1 : -9223372036854775808 ≤ pick) (hp2 : pick ≤ 9223372036854775807) :
    Calls Try.prog 6 #[v, .int .i64 pick] w fun e w' => e = .returned (.bool true) ∧ Go.RowKit.Below w.heap.size w w' := by
  have HV := Lib.hid hv
  have HW := Lib.hid hw
  have HG : Hid (BigI l) := Lib.hid (Iv.Wide.big hw hin)
  have HGO : Hid (BigO l) := Lib.hid (fun x hx => (hw x hx).2.2.2)
  have HL := Lib.hid hlen
  clear hv hw hin hlen
  go_enter Try.func6, Try.ntmps6
  go_wp2_with (first
    | (go_at_call 23; ((with_reducible refine (awake8_any _).mono ?_); rintro e w1 ⟨rfl, hb1⟩))
    | (go_at_call 24; fail))
  refine (great8_any v l w1 (HV.out.at_ hb1) HG.out HGO.out HL.out).mono ?_
  rintro e w2 ⟨bg, rfl, hb2, hfew⟩
  have HV2 := Lib.hid ((HV.out.at_ hb1).at_ hb2)
  have HB2 := Lib.hid (below_two hb1 hb2)
  clear hb1 hb2
  cases bg
  rotate_left
  · clear hfew
    go_wp2
    go_ret
    exact ⟨rfl, HB2.out⟩
  obtain ⟨hl70, hfi⟩ := hfew rfl
  have HS : Hid (SizedI l) := Lib.hid (Iv.Wide.sized HW.out hfi)
  clear hfew hfi HW HG HGO HL
  obtain ⟨A0, c0, rfl, hcc1, hcc2, hcz, _⟩ := id HV2.out.1
  have hll : l.length ≤ 1048576 := by omega
  go_wp2_with (go_at_call 22; ((with_reducible refine (copyItems_any _ l _ HV2.out HS.out hll).mono ?_); rintro e w5 ⟨v5, m, rfl, hcp, hb5⟩))
  have hml := hcp.len
  obtain ⟨A5, c5, hv5, hc51, hc52, hc53⟩ := own_form hcp.row
  rw [hml] at hv5 hc51
  subst hv5
  have HR5 : Hid (Rowed m w2.heap.size w5 (.slice A5 l.length c5)) := Lib.hid ⟨hcp.row, fun x hx => .inl (hcp.own x hx), hb5.size⟩
  have HIT := Lib.hid hcp.its
  have HMS : Hid (SizedI m) := Lib.hid (copied_sized hcp.its hcp.oth HS.out)
  have HB5 := Lib.hid hb5
  clear hb5 hcp
  go_loopw [6] (fun i wr => ∃ k : Nat, k ≤ l.length ∧ i = .int .i64 k ∧ Hid (Rowed (bareTo m k) w2.heap.size wr (.slice A5 l.length c5)) ∧ Hid (Go.RowKit.Below w2.heap.size w2 wr)) (fun i _ => l.length - (intOf i).toNat)
  case atStart => exact ⟨0, Nat.zero_le _, rfl, Lib.hid (by rw [bareTo_zero]; exact HR5.out), HB5⟩
  case round =>
    obtain ⟨k, hk, rfl, HRk, HBk⟩ := hrel
    by_cases hlt : k < l.length
    · obtain ⟨x, hx⟩ : ∃ x, m[k]? = some x := ⟨_, List.getElem?_eq_getElem (by omega)⟩
      have hbx := bareTo_get hx
      obtain ⟨g5, c5', he, hg5, _⟩ := own_slice HRk.out.row (by rw [bareTo_len]; omega)
      simp only [Value.slice.injEq] at he
      obtain ⟨rfl, _, _⟩ := he
      have hrow := HRk.out.row
      rw [bareTo_len, hml] at hrow
      have hfz := hrow.frozenAt (k * 4 + 3)
      clear hrow
      have hst : Hid (Rowed (bareTo m (k + 1)) w2.heap.size (wr.setCell ⟨g5, k * 4 + 3, none⟩ (.slice none 0 0)) (.slice (some ⟨g5, 0, none⟩) l.length c5)) := Lib.hid (by rw [bareTo_succ hx]; exact Rowed.strip HRk.out hbx)
      obtain ⟨_, hae, _, x0, x1, x2, x3⟩ := ISl.at_k HRk.out.isl hbx
      cases hae
      have hae : (⟨g5, 0, none⟩ : Addr).add (k * 4) = ⟨g5, k * 4, none⟩ := addr0 g5 (k * 4)
      rw [hae] at x0 x1 x2 x3
      simp only at x0 x1 x2 x3
      have hbn : Hid (Go.RowKit.Below w2.heap.size w2 (wr.setCell ⟨g5, k * 4 + 3, none⟩ (.slice none 0 0))) := Lib.hid (HBk.out.setCell hg5 _)
      clear hx hbx
      go_wp2
      go_roundw
      case rel => exact ⟨k + 1, by omega, by go_num, hst, hbn⟩
      case measure => simp [intOf]; omega
    · obtain rfl : k = l.length := by omega
      have hd1 : decide (l.length < l.length) = false := decide_eq_false (by omega)
      have hra := HRk.out
      rw [← hml, bareTo_all, hml] at hra
      have HRA := Lib.hid hra
      clear hra HRk HR5
      obtain ⟨wo, hwo⟩ : ∃ W : World, W = wr := ⟨_, rfl⟩
      rw [← hwo] at HRA HBk ⊢
      clear hwo
      obtain ⟨cm, hcm⟩ : ∃ cm, checkM (l.map (·.it)) = cm := ⟨_, rfl⟩
      have HCM := Lib.hid hcm
      have HCB : Hid (checkM ((m.map strip).map (·.it)) = cm) := Lib.hid (by rw [← hcm, ← HIT.out, List.map_map]; rfl)
      have HCS : Hid (checkS (m.map strip) = cm) := Lib.hid (by rw [checkS_bare, HIT.out, hcm])
      have HSM : Hid (SizedI (m.map strip)) := Lib.hid (sized_strip HMS.out)
      have hlm : (m.map strip).length ≤ 1048576 := by rw [List.length_map]; omega
      obtain ⟨cs, hcs⟩ : ∃ cs, checkS l = cs := ⟨_, rfl⟩
      have HCSL := Lib.hid hcs
      have hcn : (cm != cm) = false := by simp
      have HBo : Hid (Go.RowKit.Below w.heap.size w wo) := Lib.hid (below_two HB2.out HBk.out)
      have KC1 : Hid (∀ W, Go.RowKit.Below wo.heap.size wo W → Calls Try.prog 10 #[.slice A5 l.length c5] W fun e w' => e = .returned (.int .i64 cm) ∧ Go.RowKit.Below W.heap.size W w') := Lib.hid (fun W hW => by
        rw [← HCB.out]; exact check_any _ _ W (HRA.out.at_ hW).isl HSM.out hlm)
      have KC2 : Hid (∀ W, Go.RowKit.Below wo.heap.size wo W → Calls Try.prog 10 #[.slice A0 l.length c0] W fun e w' => e = .returned (.int .i64 cm) ∧ Go.RowKit.Below W.heap.size W w') := Lib.hid (fun W hW => by
        rw [← HCM.out]; exact check_any _ l W (HV2.out.at_ (HBk.out.trans (hW.mono HBk.out.size))) HS.out hll)
      have KC3 : Hid (∀ W, Go.RowKit.Below wo.heap.size wo W → Calls Try.prog 25 #[.slice A5 l.length c5] W fun e w' => e = .returned (.int .i64 cm) ∧ Go.RowKit.Below W.heap.size W w') := Lib.hid (fun W hW => by
        rw [← HCS.out]; exact checkS_any _ _ W (HRA.out.at_ hW).isl HSM.out hlm)
      have KC4 : Hid (∀ W, Go.RowKit.Below wo.heap.size wo W → Calls Try.prog 25 #[.slice A0 l.length c0] W fun e w' => e = .returned (.int .i64 cs) ∧ Go.RowKit.Below W.heap.size W w') := Lib.hid (fun W hW => by
        rw [← HCSL.out]; exact checkS_any _ l W (HV2.out.at_ (HBk.out.trans (hW.mono HBk.out.size))) HS.out hll)
      have HQ := Lib.hid (Below.refl wo.heap.size wo)
      clear hcm hcs hd1
      by_cases h0 : cs = 0
      rotate_left
      · have hz : (cs == 0) = false := beq_eq_false_iff_ne.2 h0
        have hz' : (cs != 0) = true := by simp [h0]
        clear h0
        go_wp2_with (first
        | (go_at_call 10; (first
            | ((with_reducible refine (KC1.out _ HQ.out).mono ?_); rintro e w6 ⟨rfl, hb6⟩; have HQ := Lib.hid (HQ.out.trans (hb6.mono HQ.out.size)); clear hb6)
            | ((with_reducible refine (KC2.out _ HQ.out).mono ?_); rintro e w6 ⟨rfl, hb6⟩; have HQ := Lib.hid (HQ.out.trans (hb6.mono HQ.out.size)); clear hb6)))
        | (go_at_call 25; (first
            | ((with_reducible refine (KC3.out _ HQ.out).mono ?_); rintro e w6 ⟨rfl, hb6⟩; have HQ := Lib.hid (HQ.out.trans (hb6.mono HQ.out.size)); clear hb6)
            | ((with_reducible refine (KC4.out _ HQ.out).mono ?_); rintro e w6 ⟨rfl, hb6⟩; have HQ := Lib.hid (HQ.out.trans (hb6.mono HQ.out.size)); clear hb6))))
        go_ret
        exact ⟨rfl, HBo.out.trans (HQ.out.mono HBo.out.size)⟩
      · have hz : (cs == 0) = true := by rw [h0]; rfl
        have hz' : (cs != 0) = false := by rw [h0]; rfl
        rw [h0] at HCSL
        clear h0
        go_wp2_with (first
        | (go_at_call 10; (first
            | ((with_reducible refine (KC1.out _ HQ.out).mono ?_); rintro e w6 ⟨rfl, hb6⟩; have HQ := Lib.hid (HQ.out.trans (hb6.mono HQ.out.size)); clear hb6)
            | ((with_reducible refine (KC2.out _ HQ.out).mono ?_); rintro e w6 ⟨rfl, hb6⟩; have HQ := Lib.hid (HQ.out.trans (hb6.mono HQ.out.size)); clear hb6)))
        | (go_at_call 25; (first
            | ((with_reducible refine (KC3.out _ HQ.out).mono ?_); rintro e w6 ⟨rfl, hb6⟩; have HQ := Lib.hid (HQ.out.trans (hb6.mono HQ.out.size)); clear hb6)
            | ((with_reducible refine (KC4.out _ HQ.out).mono ?_); rintro e w6 ⟨rfl, hb6⟩; have HQ := Lib.hid (HQ.out.trans (hb6.mono HQ.out.size)); clear hb6))))
        have HBq : Hid (Go.RowKit.Below w.heap.size w _) := Lib.hid (HBo.out.trans (HQ.out.mono HBo.out.size))
        have HB2q := Lib.hid (HBk.out.trans (HQ.out.mono HBk.out.size))
        clear HRA KC1 KC2 KC3 KC4 HCB HCS HSM HQ
        obtain ⟨wp, hwp⟩ : ∃ W : World, W = w6 := ⟨_, rfl⟩
        rw [← hwp] at HBq HB2q ⊢
        clear hwp
        have HVp := Lib.hid (HV2.out.at_ HB2q.out)
        have KR : Hid (∀ (c : List UInt8) (W : World), Go.RowKit.Below wp.heap.size wp W → Calls Try.prog 26 #[.slice A0 l.length c0, .string ⟨c.toArray⟩] W (SRowTo l c W)) := Lib.hid (fun c W hW => sRow_any _ l c W (HVp.out.at_ hW) HS.out hll)
        go_loopw [7] (fun i wr => ∃ k : Nat, k ≤ l.length ∧ i = .int .i64 k ∧ Hid (Go.RowKit.Below wp.heap.size wp wr)) (fun i _ => l.length - (intOf i).toNat)
        case atStart => exact ⟨0, Nat.zero_le _, rfl, Lib.hid (Below.refl _ _)⟩
        case round =>
          obtain ⟨k, hk, rfl, HBi⟩ := hrel
          by_cases hlt : k < l.length
          --L1BEGIN
          · obtain ⟨x, hx⟩ : ∃ x, l[k]? = some x := ⟨_, List.getElem?_eq_getElem hlt⟩
            have hxm := List.mem_of_getElem? hx
            obtain ⟨f1, f2, f3, f4⟩ := row_facts HCSL.out hxm
            have HF1 := Lib.hid f1
            have HF3 := Lib.hid f3
            have HF4 := Lib.hid f4
            obtain ⟨ad, rfl, hab, x0, x1, x2, x3⟩ := ISl.at_k (HVp.out.at_ HBi.out) hx
            obtain ⟨Ap, cp, Ao, co, hpv, hov, _, _⟩ := ((HVp.out.at_ HBi.out).2 x hxm).form
            rw [hov] at x3
            have HX := Lib.hid hx
            clear hx hxm f1 f3 f4 hpv hov
            go_wp2_with (go_at_call 26; ((with_reducible refine (KR.out x.it.code _ HBi.out).mono ?_); rintro e w7 ⟨v7, rfl, ho7, hb7⟩; rw [HF1.out] at ho7; obtain ⟨A7, c7, rfl, hq1, hq2, _⟩ := own_form ho7; have HT7 := Lib.hid (TSl.own ho7); have HB7 := Lib.hid (HBi.out.trans (hb7.mono HBi.out.size)); clear hb7 ho7 x0 x1 x2 x3))
            obtain ⟨n, hn⟩ : ∃ n, x.others.length = n := ⟨_, rfl⟩
            rw [hn] at f2 ⊢
            have ht7 := HT7.out
            rw [List.length_cons, hn] at ht7 hq1
            clear HT7
            have HT7 := Lib.hid ht7
            clear ht7
            obtain ⟨a7, rfl, _, t0⟩ := TSl.at_k HT7.out (k := 0) (s := x.it.code) rfl
            have ha0 : a7.add 0 = a7 := by simp [Addr.add]
            rw [ha0] at t0
            obtain ⟨_, hae, _, x0, x1, x2, x3⟩ := ISl.at_k (HVp.out.at_ HB7.out) HX.out
            cases hae
            obtain ⟨Ap, cp, Ao, co, hpv, hov, _, _⟩ := ((HVp.out.at_ HB7.out).2 x (List.mem_of_getElem? HX.out)).form
            rw [hov, hn] at x3
            have HN := Lib.hid hn
            obtain ⟨hw1, hw2, hw3, hw4, hw5⟩ := few_nums f2
            have hcc : (x.it.code != x.it.code) = false := by simp
            clear hn hpv hov ha0
            go_wp2
            go_quiet (fail)
            go_wp2
            clear hw1 hw2 hw3 hw4 hw5 hcc x0 x1 x2 x3 t0
            obtain ⟨wq, hwq⟩ : ∃ W, W = w7.drewN nq := ⟨_, rfl⟩
            rw [← hwq]
            have HBQ : Hid (Go.RowKit.Below wp.heap.size wp wq) := Lib.hid (by rw [hwq]; exact below_draws HB7.out _)
            have HTQ : Hid (TSl wq wq.heap.size (.slice (some a7) (n + 1) c7) (x.it.code :: x.others)) := Lib.hid (by rw [hwq]; exact HT7.out.at_ (below_draws (Below.refl _ _) _))
            have HLN : Hid ((x.it.code :: x.others).length = n + 1) := Lib.hid (by rw [List.length_cons, HN.out])
            clear hwq HB7 HT7
            go_loopw [9] (fun i wr => ∃ j : Nat, j ≤ n + 1 ∧ i = .int .i64 j ∧ Hid (Go.RowKit.Below wq.heap.size wq wr)) (fun i _ => n + 1 - (intOf i).toNat)
            case atStart => exact ⟨0, Nat.zero_le _, rfl, Lib.hid (Below.refl _ _)⟩
            case round =>
              obtain ⟨j, hj, rfl, HBj⟩ := hrel
              by_cases hjl : j < n + 1
              · obtain ⟨s, hs⟩ : ∃ s, (x.it.code :: x.others)[j]? = some s := ⟨_, List.getElem?_eq_getElem (by rw [HLN.out]; exact hjl)⟩
                have hs1 := HF4.out s (List.mem_of_getElem? hs)
                obtain ⟨_, hae, _, t0⟩ := TSl.at_k (HTQ.out.at_ HBj.out) hs
                cases hae
                have HSJ := Lib.hid hs
                have hd1 : decide ((j : Int) < (n : Int) + 1) = true := decide_eq_true (by omega)
                have hd1' : decide (j < n + 1) = true := decide_eq_true hjl
                clear hs
                go_wp2_with (go_at_call 26; ((with_reducible refine (KR.out s _ (HBQ.out.trans (HBj.out.mono HBQ.out.size))).mono ?_); rintro e w8 ⟨v8, rfl, ho8, hb8⟩; obtain ⟨rn, hrn⟩ : ∃ rn, (rowS l s).length = rn := ⟨_, rfl⟩; rw [hrn] at hs1 ho8; obtain ⟨A8, c8, rfl, _, _, _⟩ := own_form ho8; have HB8 := Lib.hid (HBj.out.trans (hb8.mono HBj.out.size)); have hz1 := nz_of_pos hs1; clear hb8 ho8 t0 hrn))
                go_loopw [10] (fun i wr => ∃ t : Nat, t ≤ j ∧ i = .int .i64 t ∧ Hid (Go.RowKit.Below wq.heap.size wq wr)) (fun i _ => j - (intOf i).toNat)
                case atStart => exact ⟨0, Nat.zero_le _, rfl, HB8⟩
                case round =>
                  obtain ⟨t, ht, rfl, HBt⟩ := hrel
                  by_cases htj : t < j
                  · obtain ⟨s2, hs2⟩ : ∃ s2, (x.it.code :: x.others)[t]? = some s2 := ⟨_, List.getElem?_eq_getElem (by rw [HLN.out]; omega)⟩
                    have hne := nodup_ne HF3.out htj hs2 HSJ.out
                    obtain ⟨_, hae, _, t0⟩ := TSl.at_k (HTQ.out.at_ HBt.out) hs2
                    cases hae
                    obtain ⟨_, hae, _, t1⟩ := TSl.at_k (HTQ.out.at_ HBt.out) HSJ.out
                    cases hae
                    have htn : t < n + 1 := by omega
                    clear hs2
                    go_wp2
                    go_quiet (fail)
                    go_wp2
                    go_roundw
                    case rel => exact ⟨t + 1, by omega, by go_num, Lib.hid (below_draws HBt.out _)⟩
                    case measure => simp [intOf]; omega
                  · obtain rfl : t = j := by omega
                    go_wp2
                    go_roundw
                    case rel => exact ⟨t + 1, by omega, by go_num, HBt⟩
                    case measure => simp [intOf]; omega
              · obtain rfl : j = n + 1 := by omega
                have HBn := Lib.hid (HBQ.out.trans (HBj.out.mono HBQ.out.size))
                have hd1 : decide (((n + 1 : Nat) : Int) < (n : Int) + 1) = false := decide_eq_false (by omega)
                have hd2 : decide ((n : Int) + 1 < (n : Int) + 1) = false := decide_eq_false (by omega)
                go_wp2
                go_roundw
                case rel => exact ⟨k + 1, by omega, by go_num, HBn⟩
                case measure => simp [intOf]; omega
          --L1END
          · obtain rfl : k = l.length := by omega
            have hd1 : decide (l.length < l.length) = false := decide_eq_false (by omega)
            have HBz : Hid (Go.RowKit.Below w.heap.size w wr) := Lib.hid (HBq.out.trans (HBi.out.mono HBq.out.size))
            have HVz := Lib.hid (HVp.out.at_ HBi.out)
            clear KR HVp HBq HB2q
            obtain ⟨wz, hwz⟩ : ∃ W : World, W = wr := ⟨_, rfl⟩
            rw [← hwz] at HBz HVz ⊢
            clear hwz
            by_cases hl0 : l.length = 0
            · have hlb : ((l.length : Int) == 0) = true := by rw [hl0]; rfl
              clear hl0
              go_wp2
              go_ret
              exact ⟨rfl, HBz.out⟩
            · have hlb : ((l.length : Int) == 0) = false := by rw [beq_eq_false_iff_ne]; omega
              have hlp : 0 < l.length := by omega
              go_wp2_with (go_at_call 22; fail)
              refine (copyItems_any _ l wz HVz.out HS.out hll).mono ?_
              rintro e w9 ⟨v9, m9, rfl, hcp, hb9⟩
              have hml9 := hcp.len
              obtain ⟨g9, c9, hv9, hg9, _⟩ := own_slice hcp.row (by omega)
              rw [hml9] at hv9
              subst hv9
              have HCP := Lib.hid hcp
              have HB9 := Lib.hid hb9
              clear hb9 hcp
              go_wp2_with (go_at_call 13; fail)
              refine (pick_any pick l.length w9 hlp (by omega) hp1 hp2).mono ?_
              rintro e w10 ⟨p, hp, rfl, rfl⟩
              obtain ⟨y, hy⟩ : ∃ y, m9[p]? = some y := ⟨_, List.getElem?_eq_getElem (by omega)⟩
              obtain ⟨_, hae, _, x0, x1, x2, x3⟩ := ISl.at_k HCP.out.isl hy
              cases hae
              rw [addr0] at x0 x1 x2 x3
              simp only at x0 x1 x2 x3
              have HY := Lib.hid hy
              have hys := (copied_sized HCP.out.its HCP.out.oth HS.out) y (List.mem_of_getElem? hy)
              have hyo := hys.2.2.2.2.2
              obtain ⟨Ap, cp, Ao, co, hpv, hov, _, _⟩ := (HCP.out.isl.2 y (List.mem_of_getElem? hy)).form
              have HOV := Lib.hid hov
              rw [hov] at x3
              obtain ⟨n, hn⟩ : ∃ n, y.others.length = n := ⟨_, rfl⟩
              rw [hn] at x3 hyo
              have HN := Lib.hid hn
              clear hy hys hpv hov hn
              go_upto_region 34 with (fail)
              go_quiet (fail)
              go_wp2
              clear x0 x1 x2 x3
              obtain ⟨wt, hwt⟩ : ∃ W, W = w9.drewN nq := ⟨_, rfl⟩
              rw [← hwt]
              have HBt : Hid (Go.RowKit.Below wz.heap.size wz wt) := Lib.hid (by rw [hwt]; exact below_draws HB9.out _)
              have HT0 : Hid (Turn m9 p y wz.heap.size wt (.slice (some ⟨g9, 0, none⟩) l.length c9) y.others) := Lib.hid (by
                rw [hwt]
                exact Turn.start (HCP.out.at_ (below_draws (Below.refl _ _) _)) HY.out)
              clear hwt HB9
              go_loopw [13, 14] (fun iv kv wr => ∃ (t : Nat) (cur : List (List UInt8)), t ≤ n ∧ iv = .int .i64 t ∧ kv = .int .i64 ((n : Int) - 1 - t) ∧ Hid (Turn m9 p y wz.heap.size wr (.slice (some ⟨g9, 0, none⟩) l.length c9) cur) ∧ Hid (Go.RowKit.Below wz.heap.size wz wr)) (fun i _ _ => n - (intOf i).toNat)
              case atStart => exact ⟨0, y.others, Nat.zero_le _, rfl, by simp, HT0, HBt⟩
              case round =>
                clear HT0 HBt
                obtain ⟨t, cur, ht, rfl, rfl, HT, HBt⟩ := hrel
                by_cases htk : t < n - 1 - t
                · obtain ⟨kk, hkk⟩ : ∃ kk, n - 1 - t = kk := ⟨_, rfl⟩
                  have hki := kk_int hkk htk
                  rw [hki]
                  rw [hkk] at htk
                  have hkn : kk < n := by omega
                  have hot := HT.out.others
                  rw [HN.out] at hot
                  obtain ⟨go, co', hov', hgb, _⟩ := own_slice hot (by omega)
                  rw [hov'] at hot
                  have hcl : cur.length = n := by have := HT.out.len; rw [HN.out] at this; exact this
                  obtain ⟨a, ha⟩ : ∃ a, cur[t]? = some a := ⟨_, List.getElem?_eq_getElem (by omega)⟩
                  obtain ⟨b, hb⟩ : ∃ b, cur[kk]? = some b := ⟨_, List.getElem?_eq_getElem (by omega)⟩
                  have hlo := Lies.own hot
                  obtain ⟨_, hae, _, ca⟩ := Lies.text hlo ha
                  cases hae
                  obtain ⟨_, hae, _, cb⟩ := Lies.text hlo hb
                  cases hae
                  rw [addr0] at ca cb
                  have hrow9 := HT.out.row
                  rw [hml9] at hrow9
                  obtain ⟨_, hae, _, _, _, _, c3⟩ := Lies.rowI (Lies.own hrow9) HY.out
                  cases hae
                  rw [addr0] at c3
                  simp only at c3
                  rw [hov'] at c3
                  have hgo : g9 ≠ go := fun e => own_row_ne HT.out.row hot (by decide) (by rw [← e]; rfl)
                  have hfz := fun j => hot.frozenAt j
                  have HTn : Hid (Turn m9 p y wz.heap.size ((wr.setCell ⟨go, t, none⟩ (strV b)).setCell ⟨go, kk, none⟩ (strV a)).drew (.slice (some ⟨g9, 0, none⟩) l.length c9) ((cur.set t b).set kk a)) := Lib.hid (Turn.swap HT.out (by rw [hov', HN.out]) (apart_ne HCP.out.apart HY.out (by rw [hov']; rfl)) htk ha hb)
                  have HBn : Hid (Go.RowKit.Below wz.heap.size wz ((wr.setCell ⟨go, t, none⟩ (strV b)).setCell ⟨go, kk, none⟩ (strV a)).drew) := Lib.hid ((HBt.out.setCell hgb _).setCell hgb _).drew
                  have hd1 : decide (t < kk) = true := decide_eq_true htk
                  have hkr := kk_next hkk htk
                  clear hot hlo ha hb HOV hrow9
                  go_upto_region 37 with (fail)
                  refine r37 (by kernel_rfl) htk hkn (by omega) hgo c3 ca cb hfz ?_
                  intro wn
                  intros
                  rename_i hwn
                  subst hwn
                  clear hki hd1
                  go_wp2
                  go_roundw
                  case rel => exact ⟨t + 1, _, by omega, by go_num, by rw [hkr], HTn, HBn⟩
                  case measure => simp [intOf]; omega
                · have hd0 : decide ((t : Int) < (n : Int) - 1 - t) = false := decide_eq_false (by omega)
                  have HTi := Lib.hid (HT.out.isl HY.out)
                  have HTO := Lib.hid (turned_ok HCSL.out HCP.out.its HCP.out.oth HY.out HT.out.perm)
                  have HTS : Hid (SizedI (m9.set p ⟨y.it, cur, y.pv, y.ov⟩)) := Lib.hid (turned_sized (copied_sized HCP.out.its HCP.out.oth HS.out) HY.out HT.out.perm)
                  have hlt9 : (m9.set p ⟨y.it, cur, y.pv, y.ov⟩).length ≤ 1048576 := by rw [List.length_set]; omega
                  go_wp2_with (go_at_call 25; ((with_reducible refine (checkS_any _ _ _ HTi.out HTS.out hlt9).mono ?_); rintro e wy ⟨rfl, hby⟩; rw [HTO.out]; have HBy := Lib.hid (HBt.out.trans (hby.mono HBt.out.size)); clear hby))
                  go_ret
                  exact ⟨rfl, HBz.out.trans (HBy.out.mono HBz.out.size)⟩
end Kt
end Go.Proofs.Ytlgpambbghkffaa
end
section
/- What a law leaves behind. -/
namespace Go.Proofs.Ytlgpambbghkffaa
namespace Kt
open Go.ChangeShapes Go.WideShapes Go.ChangeAt Go.RowKit
set_option linter.unusedVariables false
set_option linter.constructorNameAsVariable false
set_option maxRecDepth 100000
theorem own_knob : ownKnob Try.prog.godebug = none := by kernel_rfl
/-- What a law leaves behind: nothing that was there has turned. -/
theorem post_below {H : Type} {enc : TypeId × Value → H} {P : Program} {f : Func} {s : ChangeSpec} {apart fresh handsOn : Bool} {W W' : World} {args : Array Value} {v : Value} {ds gs : List (DataW H)} {before pa pv : List MemPlace}
    (hW : DataW.Whole enc P f.params.toList s.vars apart W args.toList ds gs before)
    (hres : ∀ (b : Nat) (sp : Nat → Bool) (hd : Bool), DataW.TrodAll enc P W' b sp hd f.resultTypes.toList (v.resultList f.resultTypes.size) (s.fn H (ds ++ gs)).results [])
    (hargs : DataW.TrodAll enc P W' 0 (fun b => decide (b < W.heap.size)) true f.params.toList args.toList (s.fn H (ds ++ gs)).args pa)
    (hvars : DataW.TrodVars enc P W' (fun b => decide (b < W.heap.size)) s.vars (s.fn H (ds ++ gs)).vars pv)
    (hb : Go.RowKit.Below W.heap.size W W') : s.post enc P f apart fresh handsOn false W args v W' :=
  ⟨ds, gs, before, [], pa, pv, hW, hres _ _ _, hargs, hvars, hb.frame _, fun h => by cases h⟩
theorem laid_out : laidOutB Try.prog = true := by kernel_rfl
/-- How long a list of items is, and what lies inside. -/
theorem items_len {H : Type} {ts : List TypeId} {ds : List (DataW H)} (h : (DataW.weightsEach Try.prog ts ds).all (· ≤ reachBytes) = true) {j : Nat} {d : DataW H} (ht : ts[j]? = some 22) (hd : ds[j]? = some d) {l : List Iv}
    (hl : l = [] ∨ ∃ elems spare, d = .slice elems spare ∧ l.length = elems.length ∧ ∀ (k : Nat) (x : Iv), l[k]? = some x → ∃ e, elems[k]? = some e ∧ x.In e) : l.length ≤ 140737488355328 ∧ ∀ x ∈ l, x.it.parts.length ≤ 140737488355328 ∧ x.others.length ≤ 140737488355328 := by
  rcases hl with rfl | ⟨elems, spare, rfl, e, hin⟩
  · exact ⟨by simp, by simp⟩
  · have hb := sized_slice h (j := j) (t := 22) ht hd Try.underlying22
    have hB : Try.prog.bytesOf 32 = 72 := by kernel_rfl
    rw [hB] at hb
    have := reachBytes_lt
    exact ⟨by omega, sized_items h ht hd hin⟩
/-- A list of parts that is handed. -/
theorem open_partsK {H : Type} {enc : TypeId × Value → H} {W : World} {r : Go.Reach} {b0 base : Nat} {sp : Nat → Bool} {held : Bool} {v : Value} {d : DataW H} {p : List MemPlace} (hval : Value.okWide Try.prog W r b0 29 v)
    (h : DataW.Trod enc Try.prog W base sp held 29 v d p) : ∃ l, PSl W W.heap.size v l ∧ Sized l ∧ (l = [] ∨ ∃ elems spare, d = .slice elems spare ∧ l.length = elems.length) := by
  obtain ⟨a0, len0, cap0, rfl⟩ := okWide_slice Try.underlying29 hval
  obtain ⟨fuel, hf⟩ := h
  have hf' : DataW.trod enc Try.prog W base sp held fuel 29 [.slice a0 len0 cap0] = some (d, p) := by simpa [Value.cells] using hf
  obtain ⟨l, h1, h2, h3⟩ := parts_of_cell hf'
  exact ⟨l, h1, h2, h3⟩
theorem parts_len {H : Type} {ts : List TypeId} {ds : List (DataW H)} (h : (DataW.weightsEach Try.prog ts ds).all (· ≤ reachBytes) = true) {j : Nat} {d : DataW H} (ht : ts[j]? = some 29) (hd : ds[j]? = some d) {l : List Pt}
    (hl : l = [] ∨ ∃ elems spare, d = .slice elems spare ∧ l.length = elems.length) : l.length ≤ 140737488355328 := by
  rcases hl with rfl | ⟨elems, spare, rfl, e⟩
  · simp
  · have hb := sized_slice h (j := j) (t := 29) ht hd Try.underlying29
    have hB : Try.prog.bytesOf 39 = 24 := by kernel_rfl
    rw [hB] at hb
    have := reachBytes_lt
    omega
end Kt
end Go.Proofs.Ytlgpambbghkffaa
end
