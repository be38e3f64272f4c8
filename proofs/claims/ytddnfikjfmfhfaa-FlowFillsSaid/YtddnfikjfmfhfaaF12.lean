/- The reference's Check. Written by gen_frcheck.py. -/
import Derived.Deep.QuietTactic
import Derived.BigQuiet
import Derived.Test.YtddnfikjfmfhfaaF11
namespace Go.Proofs.Ytddnfikjfmfhfaa
open Go.ChangeShapes Go.WideShapes Go.ChangeAt Go.RowKit Go.Maps
set_option linter.unusedVariables false
/-- Numbers in a row of their own. -/
def NRow (w : World) (base g : Nat) (l : List Int) : Prop := w.ownsRow base 2 1 (.slice (some ⟨g, 0, none⟩) l.length l.length) l.length (ncells l)
theorem NRow.kept {w w' : World} {base g : Nat} {l : List Int} {row : Option Nat} (h : NRow w base g l) (hg : w.grownBy w' row) (hne : row ≠ some g) : NRow w' base g l := World.ownsRow.kept h hg (.inr (fun e => hne (by rw [← e]; rfl)))
theorem NRow.cellAt {w : World} {base g : Nat} {l : List Int} (h : NRow w base g l) {k : Nat} {n : Int} (hk : l[k]? = some n) : w.cell? ⟨g, k, none⟩ = some (.int .i64 n) := by
  have hlt := (List.getElem?_eq_some_iff.1 hk).1
  have := World.ownsRow.cellAt h k (by omega)
  rw [this]
  simp [ncells, hk]
theorem NRow.frozen {w : World} {base g : Nat} {l : List Int} (h : NRow w base g l) (k : Nat) : w.frozen? ⟨g, k, none⟩ = false := World.ownsRow.frozenAt h k
theorem NRow.lt {w : World} {base g : Nat} {l : List Int} (h : NRow w base g l) : base ≤ g ∧ g < w.heap.size := World.ownsRow.lt h g rfl
theorem NRow.set_ {w : World} {base g : Nat} {l : List Int} (h : NRow w base g l) (k : Nat) (n : Int) : NRow (w.setCell ⟨g, k, none⟩ (.int .i64 n)) base g (l.set k n) := by
  have := (World.ownsRow.stored h k (.int .i64 n)).1
  unfold NRow
  rw [List.length_set, show ncells (l.set k n) = (ncells l).set k (.int .i64 n) from by simp [ncells, List.map_set]]
  exact this
theorem NRow.other {w : World} {base g : Nat} {l : List Int} (h : NRow w base g l) {p : Addr} (hne : p.block ≠ g) (v : Value) : NRow (w.setCell p v) base g l := h.kept (set_grown w p v) (by simpa using hne)
theorem NRow.below {w w' : World} {base g : Nat} {l : List Int} (h : NRow w base g l) (hb : Below w.heap.size w w') : NRow w' base g l := own_at h hb
/-- Where a lot of that number stands, among the first j: -1, if none is. -/
def FoundAt (l : List Lt) (i : Int) (j : Nat) (kk : Int) : Prop := (kk = -1 ∧ ∀ m x, m < j → l[m]? = some x → x.id ≠ i) ∨ (∃ m x, kk = ((m : Nat) : Int) ∧ m < j ∧ l[m]? = some x ∧ x.id = i)
theorem found_none {l : List Lt} {i : Int} (h : ∀ m x, m < l.length → l[m]? = some x → x.id ≠ i) : foundL l i = zeroL ∧ qtyOf l i = 0 := by
  have hn : i ∉ l.map Lt.id := fun hm => by
    obtain ⟨x, hx, hi⟩ := List.mem_map.1 hm
    obtain ⟨m, hm⟩ := List.getElem?_of_mem hx
    exact h m x (List.getElem?_eq_some_iff.1 hm).1 hm hi
  have := (lastId_none l i).2 hn
  unfold foundL qtyOf
  rw [this]
  exact ⟨rfl, rfl⟩
theorem zero_serves (x : Wt) : servesB zeroL x = false := by
  unfold servesB hasB zeroL
  simp only [Bool.and_eq_false_imp, decide_eq_true_eq, decide_eq_false_iff_not]
  intro _ h
  omega
/-- No lot is found: no right use. -/
theorem check_none_found {l : List Lt} {ws : List Wt} {us : List Us} {q : Int → Int} {nd : List Int} {k : Nat} {u : Us} {bb : Bool} (hg : checkGo l ws (us.drop k) q nd = bb) (hu : us[k]? = some u) (hf : foundL l u.lot = zeroL ∧ qtyOf l u.lot = 0) (hl : nd.length = ws.length) : bb = false := by
  by_cases ho : u.want < 0 ∨ (ws.length : Int) ≤ u.want
  · exact check_out hg hu ho
  · obtain ⟨p, hp⟩ : ∃ p : Nat, u.want = p := ⟨u.want.toNat, by omega⟩
    have hpl : p < ws.length := by omega
    refine check_bad hg hu hp (List.getElem?_eq_getElem hpl) (List.getElem?_eq_getElem (show p < nd.length by omega)) ?_
    unfold useOk
    rw [hf.1, zero_serves]; rfl
theorem set_bmp {l : List Lt} {m : Nat} {x : Lt} {q : Int → Int} {t : Int} (hn : (l.map Lt.id).Nodup) (hx : l[m]? = some x) : (l.map (fun z => q z.id)).set m (q x.id - t) = l.map (fun z => Fl.bmp q x.id (-t) z.id) := by
  obtain ⟨hm, hxe⟩ := List.getElem?_eq_some_iff.1 hx
  apply List.ext_getElem?
  intro i
  rw [List.getElem?_set, List.getElem?_map, List.getElem?_map, List.length_map]
  by_cases e : m = i
  · subst e
    rw [if_pos rfl, if_pos hm, hx]
    simp only [Option.map_some, Fl.bmp_same]
    congr 1
  · rw [if_neg e]
    cases hy : l[i]? with
    | none => rfl
    | some y =>
      simp only [Option.map_some]
      rw [Fl.bmp_other]
      intro hid
      obtain ⟨hi, hye⟩ := List.getElem?_eq_some_iff.1 hy
      have hil : i < (l.map Lt.id).length := by rw [List.length_map]; exact hi
      have hml : m < (l.map Lt.id).length := by rw [List.length_map]; exact hm
      have h1 : (l.map Lt.id)[i]'hil = (l.map Lt.id)[m]'hml := by rw [List.getElem_map, List.getElem_map, hye, hxe, hid]
      exact e ((List.getElem_inj hn).1 h1).symm
theorem full_at {w6 : World} {B bu g g2 m p : Nat} {u : Us} {x : Lt} {y : Wt} {l : List Lt} {ws : List Wt} {ql nd : List Int} {qx n : Int} {ad1 ad2 : Addr} (hu : UseAt w6 bu u) (hz : bu < w6.heap.size)
    (h1 : Lies w6 B (some ad1) (lcells l)) (hB : B ≤ w6.heap.size) (hx : l[m]? = some x) (h2 : Lies w6 B (some ad2) (wcells ws)) (hy : ws[p]? = some y) (h3 : NRow w6 g2 g2 ql) (hq : ql[m]? = some qx) (h4 : NRow w6 g g nd) (hn : nd[p]? = some n) :
    ∀ w', Below w6.heap.size w6 w' → UseAt w' bu u ∧ Six w' (ad1.add (m * 6)) x ∧ RowW w' (ad2.add (p * 3)) y ∧ w'.cell? ⟨g2, m, none⟩ = some (.int .i64 qx) ∧ w'.cell? ⟨g, p, none⟩ = some (.int .i64 n) := fun w' hb => by
  obtain ⟨a1, e1, _, hsix⟩ := (h1.below (hb.mono hB)).six hx
  obtain ⟨a2, e2, _, hrow⟩ := (h2.below (hb.mono hB)).rowW hy
  cases e1; cases e2
  exact ⟨hu.kept (fun o => hb.cell (p := ⟨bu, o, none⟩) hz), hsix, hrow, (h3.below hb).cellAt hq, (h4.below hb).cellAt hn⟩
set_option maxHeartbeats 8000000 in
set_option maxRecDepth 100000 in
theorem rcheck_may (v1 v2 v3 : Value) (l : List Lt) (ws : List Wt) (us : List Us) (w : World) (h1 : LSl w w.heap.size v1 l) (h2 : WSl w w.heap.size v2 ws) (h3 : USl w w.heap.size v3 us) (hs : Sized l) (hsu : SizedU us) (hub : us.length ≤ 1099511627776) (hb : mayB l ws = true) :
    Calls Try.prog 24 #[v1, v2, v3] w fun e w' => e = .returned (.bool (checkB l ws us)) ∧ Below w.heap.size w w' := by
  obtain ⟨hl3, hw3, hlr, hwr, hnd⟩ := mayB_true hb
  obtain ⟨i0, hi, hz0, hz1, hz2⟩ := info_parts infoI64
  have H1 := Lib.hid hi
  have H2 := Lib.hid hz0
  have H3 := Lib.hid hz1
  have H4 := Lib.hid hz2
  have HV1 := Lib.hid h1
  have HV2 := Lib.hid h2
  have HV3 := Lib.hid h3
  have HS := Lib.hid hs
  have HSU := Lib.hid hsu
  obtain ⟨A, c, rfl, hc1, hc2, hcz, hl1⟩ := id h1
  obtain ⟨A2, c2, rfl, hc3, hc4, hcz2, hl2⟩ := id h2
  obtain ⟨A3, c3, rfl, hc5, hc6, hcz3, hl3'⟩ := id h3
  have HL1 := Lib.hid hl1
  have HL2 := Lib.hid hl2
  have HL3 := Lib.hid hl3'
  have HB := Lib.hid hb
  obtain ⟨bb, hbb⟩ : ∃ bb, checkGo l ws us (qtyOf l) (ws.map Wt.qty) = bb := ⟨_, rfl⟩
  have HBB : Hid (checkB l ws us = bb) := Lib.hid (by unfold checkB; rw [hb, hbb]; rfl)
  have HGO : Hid (checkGo l ws (us.drop 0) (qtyOf l) (ws.map Wt.qty) = bb) := Lib.hid (by simpa using hbb)
  have HQ0 : Hid (∀ i, 0 ≤ qtyOf l i ∧ qtyOf l i ≤ 1073741824) := Lib.hid (fun i => qtyOf_range hlr i)
  have HN0 : Hid (∀ n ∈ ws.map Wt.qty, 0 ≤ n ∧ n ≤ 1125899906842624) := Lib.hid (fun n hn => by
    obtain ⟨x, hx, rfl⟩ := List.mem_map.1 hn
    have := wantB_parts (hwr x hx); omega)
  have HND := Lib.hid hnd
  have HLQ : Hid (l.map Lt.qty = l.map (fun x => qtyOf l x.id)) := Lib.hid (List.map_congr_left (fun x hx => (qtyOf_mem hnd hx).symm))
  clear h1 h2 h3 hs hsu hb hbb hlr hwr hnd hl1 hl2 hl3' hi hz0 hz1 hz2
  go_enter Try.func24, Try.ntmps24
  go_wp2_with fail
  refine (may_any _ _ l ws w HV1.out HV2.out).mono ?_
  rintro e w1 ⟨rfl, hb1'⟩
  rw [HB.out]
  have HB1 := Lib.hid hb1'
  clear hb1'
  go_wp2_with (at_make; refine wpList_make_full _ rfl _ _ 59 rfl w1.heap.size 2 i0 (.int .i64 0) 1 Try.underlying59 H1.out H2.out H3.out .i64 .i64 _ _ ws.length rfl rfl rfl rfl (by rw [H4.out]; omega) (by unfold maxLen; omega) (Nat.le_refl _) ?_; intro w2 hgm' hg2'; have hgm := Lib.hid hgm'; have HB2 := Lib.hid (HB1.out.grown hg2' HB1.out.size (fun j hj => by cases hj)); have hz2 := Lib.hid hg2'.size; clear hgm' hg2')
  generalize hY : (madeCells (Value.int .i64 0).cells (ws.length * 1)).toList = Y0 at hgm
  clear hY
  obtain ⟨g, hgE, hgle, hgw⟩ : ∃ g, w1.heap.size = g ∧ w1.heap.size ≤ g ∧ w.heap.size ≤ g := ⟨_, rfl, Nat.le_refl _, HB1.out.size⟩
  rw [hgE] at hgm ⊢
  clear hgE hgle
  go_loopw [8] (fun i wr => ∃ (k : Nat) (Y : List Value), k ≤ ws.length ∧ i = .int .i64 k ∧ Hid (Y.take k = ncells ((ws.take k).map Wt.qty)) ∧ Hid (wr.ownsRow g 2 1 (.slice (some ⟨g, 0, none⟩) ws.length ws.length) ws.length Y) ∧ Hid (Below w.heap.size w wr)) (fun i _ => ws.length - (intOf i).toNat)
  case atStart => exact ⟨0, Y0, Nat.zero_le _, rfl, Lib.hid (by simp [ncells]), hgm, HB2⟩
  case round =>
    clear hgm HB2 hz2
    obtain ⟨k, Y, hk, rfl, HY, HR, HBr⟩ := hrel
    by_cases hlt : k < ws.length
    · obtain ⟨x, hx⟩ : ∃ x, ws[k]? = some x := ⟨_, List.getElem?_eq_getElem hlt⟩
      obtain ⟨ad, rfl, hab, hx0, hx1, hx2⟩ := (HL2.out.below HBr.out).rowW hx
      have hYl := HR.out.1
      obtain ⟨y, hy⟩ : ∃ y, Y[k]? = some y := ⟨_, List.getElem?_eq_getElem (by omega)⟩
      have hcy := (HR.out.cellAt k (by omega)).trans hy
      have hfy := HR.out.frozenAt k
      have hgl := (HR.out.lt g rfl).2
      have hst : Hid ((Y.set k (.int .i64 x.qty)).take (k + 1) = ncells ((ws.take (k + 1)).map Wt.qty)) := Lib.hid (by
        rw [take_set HY.out (by omega), List.take_add_one, hx]; simp [ncells])
      have HR2 := Lib.hid ((HR.out.stored k (.int .i64 x.qty)).1)
      have HBr2 := Lib.hid (HBr.out.setCell (p := ⟨g, k, none⟩) hgw (.int .i64 x.qty))
      clear hx hy hYl
      go_wp2
      go_roundw
      case rel => exact ⟨k + 1, _, by omega, by go_num, hst, HR2, HBr2⟩
      case measure => simp [intOf]; omega
    · obtain rfl : k = ws.length := by omega
      have hYl := HR.out.1
      have HN : Hid (NRow wr g g (ws.map Wt.qty)) := Lib.hid (by
        have h1 := HY.out
        rw [List.take_of_length_le (by omega), List.take_of_length_le (Nat.le_refl _)] at h1
        have h := HR.out
        rw [h1] at h
        unfold NRow
        rw [List.length_map]
        exact h)
      obtain ⟨w3, rfl⟩ : ∃ W, W = wr := ⟨_, rfl⟩
      have hg3 : g < w3.heap.size := HN.out.lt.2
      clear HY HR hYl
      go_wp2_with (at_make; refine wpList_make_full _ rfl _ _ 59 rfl w3.heap.size 2 i0 (.int .i64 0) 1 Try.underlying59 H1.out H2.out H3.out .i64 .i64 _ _ l.length rfl rfl rfl rfl (by rw [H4.out]; omega) (by unfold maxLen; omega) (Nat.le_refl _) ?_; intro w4 hgm' hg4'; have hgm := Lib.hid hgm'; have HB4 := Lib.hid (HBr.out.grown hg4' HBr.out.size (fun j hj => by cases hj)); have HN4 := Lib.hid (HN.out.kept hg4' (by simp)); clear hgm' hg4')
      generalize hY : (madeCells (Value.int .i64 0).cells (l.length * 1)).toList = Y0 at hgm
      clear hY
      obtain ⟨g2, hgE, hgg, hgw2⟩ : ∃ g2, w3.heap.size = g2 ∧ g < g2 ∧ w.heap.size ≤ g2 := ⟨_, rfl, hg3, HBr.out.size⟩
      rw [hgE] at hgm ⊢
      clear hgE HBr HN hg3
      go_loopw [10] (fun i wr => ∃ (k : Nat) (Y : List Value), k ≤ l.length ∧ i = .int .i64 k ∧ Hid (Y.take k = ncells ((l.take k).map Lt.qty)) ∧ Hid (wr.ownsRow g2 2 1 (.slice (some ⟨g2, 0, none⟩) l.length l.length) l.length Y) ∧ Hid (NRow wr g g (ws.map Wt.qty)) ∧ Hid (Below w.heap.size w wr)) (fun i _ => l.length - (intOf i).toNat)
      case atStart => exact ⟨0, Y0, Nat.zero_le _, rfl, Lib.hid (by simp [ncells]), hgm, HN4, HB4⟩
      case round =>
        clear hgm HB4 HN4
        obtain ⟨k, Y, hk, rfl, HY, HR, HN, HBr⟩ := hrel
        by_cases hlt : k < l.length
        · obtain ⟨x, hx⟩ : ∃ x, l[k]? = some x := ⟨_, List.getElem?_eq_getElem hlt⟩
          obtain ⟨ad, rfl, hab, hx0, hx1, hx2, hx3, hx4, hx5⟩ := (HL1.out.below HBr.out).six hx
          have hYl := HR.out.1
          obtain ⟨y, hy⟩ : ∃ y, Y[k]? = some y := ⟨_, List.getElem?_eq_getElem (by omega)⟩
          have hcy := (HR.out.cellAt k (by omega)).trans hy
          have hfy := HR.out.frozenAt k
          have hgl := (HR.out.lt g2 rfl).2
          have hst : Hid ((Y.set k (.int .i64 x.qty)).take (k + 1) = ncells ((l.take (k + 1)).map Lt.qty)) := Lib.hid (by
            rw [take_set HY.out (by omega), List.take_add_one, hx]; simp [ncells])
          have HR2 := Lib.hid ((HR.out.stored k (.int .i64 x.qty)).1)
          have HBr2 := Lib.hid (HBr.out.setCell (p := ⟨g2, k, none⟩) hgw2 (.int .i64 x.qty))
          have HN2 := Lib.hid (HN.out.other (p := ⟨g2, k, none⟩) (by simp; omega) (.int .i64 x.qty))
          clear hx hy hYl
          go_wp2
          go_roundw
          case rel => exact ⟨k + 1, _, by omega, by go_num, hst, HR2, HN2, HBr2⟩
          case measure => simp [intOf]; omega
        · obtain rfl : k = l.length := by omega
          have hYl := HR.out.1
          have HLF : Hid (NRow wr g2 g2 (l.map (fun x => qtyOf l x.id))) := Lib.hid (by
            have h1 := HY.out
            rw [List.take_of_length_le (by omega), List.take_of_length_le (Nat.le_refl _), HLQ.out] at h1
            have h := HR.out
            rw [h1] at h
            unfold NRow
            rw [List.length_map]
            exact h)
          obtain ⟨w5, rfl⟩ : ∃ W, W = wr := ⟨_, rfl⟩
          clear HY HR hYl H1 H2 H3 H4
          go_wp2_with fail
          go_loopw [11] (fun i wr => ∃ (k : Nat) (q : Int → Int) (nd : List Int), k ≤ us.length ∧ i = .int .i64 k ∧ Hid (checkGo l ws (us.drop k) q nd = bb) ∧ Hid (nd.length = ws.length) ∧ Hid (NRow wr g g nd) ∧ Hid (NRow wr g2 g2 (l.map (fun x => q x.id))) ∧ Hid (Below w.heap.size w wr) ∧ Hid (∀ i, 0 ≤ q i ∧ q i ≤ 1073741824) ∧ Hid (∀ n ∈ nd, 0 ≤ n ∧ n ≤ 1125899906842624) ∧ Hid (∀ i, q i ≤ qtyOf l i)) (fun i _ => us.length - (intOf i).toNat)
          case atStart => exact ⟨0, qtyOf l, ws.map Wt.qty, Nat.zero_le _, rfl, HGO, Lib.hid (by simp), HN, HLF, HBr, HQ0, HN0, Lib.hid (fun i => Int.le_refl _)⟩
          case round =>
            clear HN HLF HBr
            obtain ⟨k, q, nd, hk, rfl, HG, HNL, HN, HLF, HBr, HQ, HNN, HQQ⟩ := hrel
            by_cases hlt : k < us.length
            · obtain ⟨u, hu⟩ : ∃ u, us[k]? = some u := ⟨_, List.getElem?_eq_getElem hlt⟩
              obtain ⟨ad3, rfl, hab3, hu0, hu1, hu2⟩ := (HL3.out.below HBr.out).rowU hu
              have HU := Lib.hid hu
              have HLT := Lib.hid hlt
              have huf := HSU.out u (List.mem_of_getElem? hu)
              obtain ⟨hf0, hf1, hf2, hf3, hf4, hf5⟩ := huf
              obtain ⟨bu, hbE, hbg, hbgg⟩ : ∃ b, wr.heap.size = b ∧ g2 < b ∧ g < b := ⟨_, rfl, HLF.out.lt.2, HN.out.lt.2⟩
              obtain ⟨W5, hW5⟩ : ∃ W, W = wr.alloc (.cells #[.int .i64 u.want, .int .i64 u.lot, .int .i64 u.qty] 44) := ⟨_, rfl⟩
              have HU5 : Hid (UseAt W5 bu u) := Lib.hid (by rw [hW5, ← hbE]; exact useAt_new wr u)
              have HN5 : Hid (NRow W5 g g nd) := Lib.hid (by rw [hW5]; exact HN.out.kept (World.grownBy_alloc _ _ none) (by simp))
              have HLF5 : Hid (NRow W5 g2 g2 (l.map (fun x => q x.id))) := Lib.hid (by rw [hW5]; exact HLF.out.kept (World.grownBy_alloc _ _ none) (by simp))
              have HB5 : Hid (Below w.heap.size w W5) := Lib.hid (by rw [hW5]; exact HBr.out.alloc HBr.out.size _)
              have hz5 : bu < W5.heap.size := by rw [hW5, ← hbE]; simp
              have HWE := Lib.hid hW5
              have HBE := Lib.hid hbE
              clear hu hW5 hbE
              go_wp2_with fail
              rw [HBE.out, ← HWE.out]
              clear HN HLF HBr hu0 hu1 hu2 HWE HBE
              go_loopw [13, 14] (fun s i wr => ∃ (j : Nat) (kk : Int), j ≤ l.length ∧ i = .int .i64 j ∧ s = .int .i64 kk ∧ Hid (FoundAt l u.lot j kk) ∧ Hid (Below W5.heap.size W5 wr)) (fun _ i _ => l.length - (intOf i).toNat)
              case atStart => exact ⟨0, -1, Nat.zero_le _, rfl, rfl, Lib.hid (.inl ⟨rfl, fun m x h => absurd h (by omega)⟩), Lib.hid (Below.refl _ _)⟩
              case round =>
                obtain ⟨j, kk, hj, rfl, rfl, HF, HBi⟩ := hrel
                by_cases hjl : j < l.length
                · obtain ⟨x, hx⟩ : ∃ x, l[j]? = some x := ⟨_, List.getElem?_eq_getElem hjl⟩
                  obtain ⟨ad1, e1, _, p0, _, _, _, _, _⟩ := (HL1.out.below (HB5.out.trans (HBi.out.mono HB5.out.size))).six hx
                  subst e1
                  have HX := Lib.hid hx
                  obtain ⟨d0, d1, d2⟩ : UseAt wr bu u := HU5.out.kept (fun o => HBi.out.cell (p := ⟨bu, o, none⟩) hz5)
                  clear hx d0 d2
                  by_cases hxy : x.id = u.lot
                  · have hd : (x.id == u.lot) = true := by simp [hxy]
                    have HXY := Lib.hid hxy
                    clear hxy
                    go_wp2
                    go_quiet (fail)
                    go_wp2
                    go_roundw
                    case rel => exact ⟨j + 1, j, by omega, by go_num, rfl, Lib.hid (.inr ⟨j, x, rfl, Nat.lt_succ_self _, HX.out, HXY.out⟩), Lib.hid (below_draws HBi.out _)⟩
                    case measure => simp [intOf]; omega
                  · have hd : (x.id == u.lot) = false := by simp [hxy]
                    have HXY := Lib.hid hxy
                    clear hxy
                    go_wp2
                    go_quiet (fail)
                    go_wp2
                    go_roundw
                    case rel => exact ⟨j + 1, kk, by omega, by go_num, rfl, Lib.hid (by
                      rcases HF.out with ⟨h1, h2⟩ | ⟨m, z, h1, h2, h3, h4⟩
                      · exact .inl ⟨h1, fun m z hm hz => by
                          rcases Nat.lt_succ_iff_lt_or_eq.1 hm with h | h
                          · exact h2 m z h hz
                          · subst h; rw [HX.out] at hz; cases hz; exact HXY.out⟩
                      · exact .inr ⟨m, z, h1, by omega, h3, h4⟩), Lib.hid (below_draws HBi.out _)⟩
                    case measure => simp [intOf]; omega
                · obtain rfl : j = l.length := by omega
                  have HB6 : Hid (Below w.heap.size w wr) := Lib.hid (HB5.out.trans (HBi.out.mono HB5.out.size))
                  have HU6 : Hid (UseAt wr bu u) := Lib.hid (HU5.out.kept (fun o => HBi.out.cell (p := ⟨bu, o, none⟩) hz5))
                  have HN6 := Lib.hid (HN5.out.below HBi.out)
                  have HLF6 := Lib.hid (HLF5.out.below HBi.out)
                  have hz6 : bu < wr.heap.size := by have := HBi.out.size; omega
                  obtain ⟨w6, rfl⟩ : ∃ W, W = wr := ⟨_, rfl⟩
                  clear HBi HU5 HN5 HLF5 HB5 hz5
                  rcases HF.out with ⟨rfl, hf⟩ | ⟨m, x, rfl, hm, hx, hid⟩
                  · have HF0 := Lib.hid (found_none (l := l) (i := u.lot) hf)
                    clear hf HF
                    go_wp2_with fail
                    refine wp_region_held_drew (S := fun w' => UseAt w' bu u) (by kernel_rfl) ((HU6.out : UseAt w6.drew bu u)) (fun hS => ?_)
                    refine wpAnyH_take (i := 0) (v := (.int .i64 (-1))) rfl (by kernel_rfl) (by kernel_rfl) (by kernel_rfl) (fun _ _ _ h => h) (Or.inl ⟨by kernel_rfl, fun w' hS' => by go_simp⟩) hS ?_
                    refine wpAnyH_take (i := 1) (v := (.bool true)) rfl (by kernel_rfl) (by kernel_rfl) (by kernel_rfl) (fun _ _ _ h => h) (Or.inl ⟨by kernel_rfl, fun w' hS' => by go_simp⟩) hS ?_
                    refine wpAnyH_take (i := 2) (v := (.bool true)) rfl (by kernel_rfl) (by kernel_rfl) (by kernel_rfl) (fun _ _ _ h => h) (Or.inl ⟨by kernel_rfl, fun w' hS' => by go_simp⟩) hS ?_
                    refine wpAnyH_take (i := 3) (v := (undef)) rfl (by kernel_rfl) (by kernel_rfl) (by kernel_rfl) (fun _ _ _ h => h) (Or.inr ⟨by kernel_rfl, rfl⟩) hS ?_
                    refine wpAnyH_take (i := 4) (v := (undef)) rfl (by kernel_rfl) (by kernel_rfl) (by kernel_rfl) (fun _ _ _ h => h) (Or.inr ⟨by kernel_rfl, rfl⟩) hS ?_
                    refine wpAnyH_take (i := 5) (v := (undef)) rfl (by kernel_rfl) (by kernel_rfl) (by kernel_rfl) (fun _ _ _ h => h) (Or.inr ⟨by kernel_rfl, rfl⟩) hS ?_
                    refine wpAnyH_take (i := 6) (v := (.bool true)) rfl (by kernel_rfl) (by kernel_rfl) (by kernel_rfl) (fun _ _ _ h => h) (Or.inl ⟨by kernel_rfl, fun w' hS' => by go_simp⟩) hS ?_
                    refine wpAnyH_take (i := 7) (v := (.bool true)) rfl (by kernel_rfl) (by kernel_rfl) (by kernel_rfl) (fun _ _ _ h => h) (Or.inl ⟨by kernel_rfl, fun w' hS' => by go_simp⟩) hS ?_
                    refine wpAnyH_take (i := 8) (v := (undef)) rfl (by kernel_rfl) (by kernel_rfl) (by kernel_rfl) (fun _ _ _ h => h) (Or.inr ⟨by kernel_rfl, rfl⟩) hS ?_
                    refine wpAnyH_take (i := 9) (v := (undef)) rfl (by kernel_rfl) (by kernel_rfl) (by kernel_rfl) (fun _ _ _ h => h) (Or.inr ⟨by kernel_rfl, rfl⟩) hS ?_
                    refine wpAnyH_take (i := 10) (v := (undef)) rfl (by kernel_rfl) (by kernel_rfl) (by kernel_rfl) (fun _ _ _ h => h) (Or.inr ⟨by kernel_rfl, rfl⟩) hS ?_
                    refine wpAnyH_take (i := 11) (v := (undef)) rfl (by kernel_rfl) (by kernel_rfl) (by kernel_rfl) (fun _ _ _ h => h) (Or.inr ⟨by kernel_rfl, rfl⟩) hS ?_
                    refine wpAnyH_take (i := 12) (v := (undef)) rfl (by kernel_rfl) (by kernel_rfl) (by kernel_rfl) (fun _ _ _ h => h) (Or.inr ⟨by kernel_rfl, rfl⟩) hS ?_
                    refine wpAnyH_take (i := 13) (v := (.bool true)) rfl (by kernel_rfl) (by kernel_rfl) (by kernel_rfl) (fun _ _ _ h => h) (Or.inl ⟨by kernel_rfl, fun w' hS' => by go_simp⟩) hS ?_
                    refine wpAnyH_take (i := 14) (v := (.bool true)) rfl (by kernel_rfl) (by kernel_rfl) (by kernel_rfl) (fun _ _ _ h => h) (Or.inl ⟨by kernel_rfl, fun w' hS' => by go_simp⟩) hS ?_
                    refine wpAnyH_take (i := 15) (v := (undef)) rfl (by kernel_rfl) (by kernel_rfl) (by kernel_rfl) (fun _ _ _ h => h) (Or.inr ⟨by kernel_rfl, rfl⟩) hS ?_
                    refine wpAnyH_take (i := 16) (v := (undef)) rfl (by kernel_rfl) (by kernel_rfl) (by kernel_rfl) (fun _ _ _ h => h) (Or.inr ⟨by kernel_rfl, rfl⟩) hS ?_
                    refine wpAnyH_take (i := 17) (v := (undef)) rfl (by kernel_rfl) (by kernel_rfl) (by kernel_rfl) (fun _ _ _ h => h) (Or.inr ⟨by kernel_rfl, rfl⟩) hS ?_
                    refine wpAnyH_take (i := 18) (v := (.bool true)) rfl (by kernel_rfl) (by kernel_rfl) (by kernel_rfl) (fun _ _ _ h => h) (Or.inl ⟨by kernel_rfl, fun w' hS' => by go_simp⟩) hS ?_
                    refine wpAnyH_take (i := 19) (v := (.bool true)) rfl (by kernel_rfl) (by kernel_rfl) (by kernel_rfl) (fun _ _ _ h => h) (Or.inl ⟨by kernel_rfl, fun w' hS' => by go_simp⟩) hS ?_
                    refine wpAnyH_take (i := 20) (v := (undef)) rfl (by kernel_rfl) (by kernel_rfl) (by kernel_rfl) (fun _ _ _ h => h) (Or.inr ⟨by kernel_rfl, rfl⟩) hS ?_
                    refine wpAnyH_take (i := 21) (v := (undef)) rfl (by kernel_rfl) (by kernel_rfl) (by kernel_rfl) (fun _ _ _ h => h) (Or.inr ⟨by kernel_rfl, rfl⟩) hS ?_
                    refine wpAnyH_take (i := 22) (v := (undef)) rfl (by kernel_rfl) (by kernel_rfl) (by kernel_rfl) (fun _ _ _ h => h) (Or.inr ⟨by kernel_rfl, rfl⟩) hS ?_
                    refine wpAnyH_take (i := 23) (v := (undef)) rfl (by kernel_rfl) (by kernel_rfl) (by kernel_rfl) (fun _ _ _ h => h) (Or.inr ⟨by kernel_rfl, rfl⟩) hS ?_
                    refine wpAnyH_take (i := 24) (v := (undef)) rfl (by kernel_rfl) (by kernel_rfl) (by kernel_rfl) (fun _ _ _ h => h) (Or.inr ⟨by kernel_rfl, rfl⟩) hS ?_
                    refine wpAnyH_take (i := 25) (v := (undef)) rfl (by kernel_rfl) (by kernel_rfl) (by kernel_rfl) (fun _ _ _ h => h) (Or.inr ⟨by kernel_rfl, rfl⟩) hS ?_
                    refine wpAnyH_take (i := 26) (v := (undef)) rfl (by kernel_rfl) (by kernel_rfl) (by kernel_rfl) (fun _ _ _ h => h) (Or.inr ⟨by kernel_rfl, rfl⟩) hS ?_
                    refine wpAnyH_take (i := 27) (v := (undef)) rfl (by kernel_rfl) (by kernel_rfl) (by kernel_rfl) (fun _ _ _ h => h) (Or.inr ⟨by kernel_rfl, rfl⟩) hS ?_
                    refine wpAnyH_take (i := 28) (v := (undef)) rfl (by kernel_rfl) (by kernel_rfl) (by kernel_rfl) (fun _ _ _ h => h) (Or.inr ⟨by kernel_rfl, rfl⟩) hS ?_
                    refine wpAnyH_take (i := 29) (v := (undef)) rfl (by kernel_rfl) (by kernel_rfl) (by kernel_rfl) (fun _ _ _ h => h) (Or.inr ⟨by kernel_rfl, rfl⟩) hS ?_
                    refine wpAnyH_take (i := 30) (v := (undef)) rfl (by kernel_rfl) (by kernel_rfl) (by kernel_rfl) (fun _ _ _ h => h) (Or.inr ⟨by kernel_rfl, rfl⟩) hS ?_
                    refine wpAnyH_take (i := 31) (v := (.bool true)) rfl (by kernel_rfl) (by kernel_rfl) (by kernel_rfl) (fun _ _ _ h => h) (Or.inl ⟨by kernel_rfl, fun w' hS' => by go_simp⟩) hS ?_
                    refine wpAnyH_take (i := 32) (v := (.bool true)) rfl (by kernel_rfl) (by kernel_rfl) (by kernel_rfl) (fun _ _ _ h => h) (Or.inl ⟨by kernel_rfl, fun w' hS' => by go_simp⟩) hS ?_
                    refine wpAnyH_take (i := 33) (v := (undef)) rfl (by kernel_rfl) (by kernel_rfl) (by kernel_rfl) (fun _ _ _ h => h) (Or.inr ⟨by kernel_rfl, rfl⟩) hS ?_
                    refine wpAnyH_take (i := 34) (v := (undef)) rfl (by kernel_rfl) (by kernel_rfl) (by kernel_rfl) (fun _ _ _ h => h) (Or.inr ⟨by kernel_rfl, rfl⟩) hS ?_
                    refine wpAnyH_take (i := 35) (v := (undef)) rfl (by kernel_rfl) (by kernel_rfl) (by kernel_rfl) (fun _ _ _ h => h) (Or.inr ⟨by kernel_rfl, rfl⟩) hS ?_
                    refine wpAnyH_take (i := 36) (v := (undef)) rfl (by kernel_rfl) (by kernel_rfl) (by kernel_rfl) (fun _ _ _ h => h) (Or.inr ⟨by kernel_rfl, rfl⟩) hS ?_
                    refine wpAnyH_take (i := 37) (v := (undef)) rfl (by kernel_rfl) (by kernel_rfl) (by kernel_rfl) (fun _ _ _ h => h) (Or.inr ⟨by kernel_rfl, rfl⟩) hS ?_
                    refine wpAnyH_take (i := 38) (v := (undef)) rfl (by kernel_rfl) (by kernel_rfl) (by kernel_rfl) (fun _ _ _ h => h) (Or.inr ⟨by kernel_rfl, rfl⟩) hS ?_
                    refine wpAnyH_take (i := 39) (v := (undef)) rfl (by kernel_rfl) (by kernel_rfl) (by kernel_rfl) (fun _ _ _ h => h) (Or.inr ⟨by kernel_rfl, rfl⟩) hS ?_
                    refine wpAnyH_take (i := 40) (v := (.bool true)) rfl (by kernel_rfl) (by kernel_rfl) (by kernel_rfl) (fun _ _ _ h => h) (Or.inl ⟨by kernel_rfl, fun w' hS' => by go_simp⟩) hS ?_
                    refine wpAnyH_take (i := 41) (v := (.bool true)) rfl (by kernel_rfl) (by kernel_rfl) (by kernel_rfl) (fun _ _ _ h => h) (Or.inl ⟨by kernel_rfl, fun w' hS' => by go_simp⟩) hS ?_
                    refine wpAnyH_take (i := 42) (v := (undef)) rfl (by kernel_rfl) (by kernel_rfl) (by kernel_rfl) (fun _ _ _ h => h) (Or.inr ⟨by kernel_rfl, rfl⟩) hS ?_
                    refine wpAnyH_take (i := 43) (v := (undef)) rfl (by kernel_rfl) (by kernel_rfl) (by kernel_rfl) (fun _ _ _ h => h) (Or.inr ⟨by kernel_rfl, rfl⟩) hS ?_
                    refine wpAnyH_take (i := 44) (v := (undef)) rfl (by kernel_rfl) (by kernel_rfl) (by kernel_rfl) (fun _ _ _ h => h) (Or.inr ⟨by kernel_rfl, rfl⟩) hS ?_
                    refine wpAnyH_take (i := 45) (v := (undef)) rfl (by kernel_rfl) (by kernel_rfl) (by kernel_rfl) (fun _ _ _ h => h) (Or.inr ⟨by kernel_rfl, rfl⟩) hS ?_
                    refine wpAnyH_take (i := 46) (v := (undef)) rfl (by kernel_rfl) (by kernel_rfl) (by kernel_rfl) (fun _ _ _ h => h) (Or.inr ⟨by kernel_rfl, rfl⟩) hS ?_
                    refine wpAnyH_take (i := 47) (v := (undef)) rfl (by kernel_rfl) (by kernel_rfl) (by kernel_rfl) (fun _ _ _ h => h) (Or.inr ⟨by kernel_rfl, rfl⟩) hS ?_
                    refine wpAnyH_take (i := 48) (v := (undef)) rfl (by kernel_rfl) (by kernel_rfl) (by kernel_rfl) (fun _ _ _ h => h) (Or.inr ⟨by kernel_rfl, rfl⟩) hS ?_
                    refine wpAnyH_take (i := 49) (v := (undef)) rfl (by kernel_rfl) (by kernel_rfl) (by kernel_rfl) (fun _ _ _ h => h) (Or.inr ⟨by kernel_rfl, rfl⟩) hS ?_
                    refine wpAnyH_take (i := 50) (v := (.bool true)) rfl (by kernel_rfl) (by kernel_rfl) (by kernel_rfl) (fun _ _ _ h => h) (Or.inl ⟨by kernel_rfl, fun w' hS' => by go_simp⟩) hS ?_
                    refine wpAnyH_done (by kernel_rfl) ?_ _
                    go_simp
                    first | (rename_i hnext; refine hnext _ _ ?_; clear hnext) | (rename_i hnext _; refine hnext _ _ ?_; clear hnext) | (rename_i hnext _ _; refine hnext _ _ ?_; clear hnext) | (rename_i hnext _ _ _; refine hnext _ _ ?_; clear hnext) | (rename_i hnext _ _ _ _; refine hnext _ _ ?_; clear hnext) | (rename_i hnext _ _ _ _ _; refine hnext _ _ ?_; clear hnext) | (rename_i hnext _ _ _ _ _ _; refine hnext _ _ ?_; clear hnext) | (rename_i hnext _ _ _ _ _ _ _; refine hnext _ _ ?_; clear hnext) | (rename_i hnext _ _ _ _ _ _ _ _; refine hnext _ _ ?_; clear hnext) | (rename_i hnext _ _ _ _ _ _ _ _ _; refine hnext _ _ ?_; clear hnext) | (rename_i hnext _ _ _ _ _ _ _ _ _ _; refine hnext _ _ ?_; clear hnext) | (rename_i hnext _ _ _ _ _ _ _ _ _ _ _; refine hnext _ _ ?_; clear hnext) | (rename_i hnext _ _ _ _ _ _ _ _ _ _ _ _; refine hnext _ _ ?_; clear hnext) | (rename_i hnext _ _ _ _ _ _ _ _ _ _ _ _ _; refine hnext _ _ ?_; clear hnext) | (rename_i hnext _ _ _ _ _ _ _ _ _ _ _ _ _ _; refine hnext _ _ ?_; clear hnext) | (rename_i hnext _ _ _ _ _ _ _ _ _ _ _ _ _ _ _; refine hnext _ _ ?_; clear hnext) | (rename_i hnext _ _ _ _ _ _ _ _ _ _ _ _ _ _ _ _; refine hnext _ _ ?_; clear hnext) | (rename_i hnext _ _ _ _ _ _ _ _ _ _ _ _ _ _ _ _ _; refine hnext _ _ ?_; clear hnext) | (rename_i hnext _ _ _ _ _ _ _ _ _ _ _ _ _ _ _ _ _ _; refine hnext _ _ ?_; clear hnext) | (rename_i hnext _ _ _ _ _ _ _ _ _ _ _ _ _ _ _ _ _ _ _; refine hnext _ _ ?_; clear hnext)
                    go_wp2
                    go_ret
                    exact ⟨ret_bool (by rw [HBB.out]; exact (check_none_found HG.out HU.out HF0.out HNL.out).symm), below_draws HB6.out 1⟩
                  · have HX := Lib.hid hx
                    have HFL : Hid (foundL l u.lot = x) := Lib.hid (by rw [← hid]; exact foundL_mem HND.out (List.mem_of_getElem? hx))
                    have HID := Lib.hid hid
                    clear hx hid HF
                    have e0 : decide ((m : Int) < 0) = false := decide_eq_false (by omega)
                    by_cases hw1 : u.want < 0
                    · have e1 : decide (u.want < 0) = true := decide_eq_true hw1
                      have HW1 := Lib.hid hw1
                      clear hw1
                      go_wp2_with fail
                      refine wp_region_held_drew (S := fun w' => UseAt w' bu u) (by kernel_rfl) ((HU6.out : UseAt w6.drew bu u)) (fun hS => ?_)
                      refine wpAnyH_take (i := 0) (v := (.int .i64 (m : Int))) rfl (by kernel_rfl) (by kernel_rfl) (by kernel_rfl) (fun _ _ _ h => h) (Or.inl ⟨by kernel_rfl, fun w' hS' => by go_simp⟩) hS ?_
                      refine wpAnyH_take (i := 1) (v := (.bool false)) rfl (by kernel_rfl) (by kernel_rfl) (by kernel_rfl) (fun _ _ _ h => h) (Or.inl ⟨by kernel_rfl, fun w' hS' => by go_simp⟩) hS ?_
                      refine wpAnyH_take (i := 2) (v := (.bool false)) rfl (by kernel_rfl) (by kernel_rfl) (by kernel_rfl) (fun _ _ _ h => h) (Or.inl ⟨by kernel_rfl, fun w' hS' => by go_simp⟩) hS ?_
                      refine wpAnyH_take (i := 3) (v := (.pointer (some ⟨bu, 0, none⟩))) rfl (by kernel_rfl) (by kernel_rfl) (by kernel_rfl) (fun _ _ _ h => h) (Or.inl ⟨by kernel_rfl, fun w' hS' => by go_simp⟩) hS ?_
                      refine wpAnyH_take (i := 4) (v := (.int .i64 u.want)) rfl (by kernel_rfl) (by kernel_rfl) (by kernel_rfl) (fun _ _ _ h => h) (Or.inl ⟨by kernel_rfl, fun w' hS' => by obtain ⟨d0, d1, d2⟩ := hS'; go_simp⟩) hS ?_
                      refine wpAnyH_take (i := 5) (v := (.bool true)) rfl (by kernel_rfl) (by kernel_rfl) (by kernel_rfl) (fun _ _ _ h => h) (Or.inl ⟨by kernel_rfl, fun w' hS' => by go_simp⟩) hS ?_
                      refine wpAnyH_take (i := 6) (v := (.bool true)) rfl (by kernel_rfl) (by kernel_rfl) (by kernel_rfl) (fun _ _ _ h => h) (Or.inl ⟨by kernel_rfl, fun w' hS' => by go_simp⟩) hS ?_
                      refine wpAnyH_take (i := 7) (v := (.bool true)) rfl (by kernel_rfl) (by kernel_rfl) (by kernel_rfl) (fun _ _ _ h => h) (Or.inl ⟨by kernel_rfl, fun w' hS' => by go_simp⟩) hS ?_
                      refine wpAnyH_take (i := 8) (v := (undef)) rfl (by kernel_rfl) (by kernel_rfl) (by kernel_rfl) (fun _ _ _ h => h) (Or.inr ⟨by kernel_rfl, rfl⟩) hS ?_
                      refine wpAnyH_take (i := 9) (v := (undef)) rfl (by kernel_rfl) (by kernel_rfl) (by kernel_rfl) (fun _ _ _ h => h) (Or.inr ⟨by kernel_rfl, rfl⟩) hS ?_
                      refine wpAnyH_take (i := 10) (v := (undef)) rfl (by kernel_rfl) (by kernel_rfl) (by kernel_rfl) (fun _ _ _ h => h) (Or.inr ⟨by kernel_rfl, rfl⟩) hS ?_
                      refine wpAnyH_take (i := 11) (v := (undef)) rfl (by kernel_rfl) (by kernel_rfl) (by kernel_rfl) (fun _ _ _ h => h) (Or.inr ⟨by kernel_rfl, rfl⟩) hS ?_
                      refine wpAnyH_take (i := 12) (v := (undef)) rfl (by kernel_rfl) (by kernel_rfl) (by kernel_rfl) (fun _ _ _ h => h) (Or.inr ⟨by kernel_rfl, rfl⟩) hS ?_
                      refine wpAnyH_take (i := 13) (v := (.bool true)) rfl (by kernel_rfl) (by kernel_rfl) (by kernel_rfl) (fun _ _ _ h => h) (Or.inl ⟨by kernel_rfl, fun w' hS' => by go_simp⟩) hS ?_
                      refine wpAnyH_take (i := 14) (v := (.bool true)) rfl (by kernel_rfl) (by kernel_rfl) (by kernel_rfl) (fun _ _ _ h => h) (Or.inl ⟨by kernel_rfl, fun w' hS' => by go_simp⟩) hS ?_
                      refine wpAnyH_take (i := 15) (v := (undef)) rfl (by kernel_rfl) (by kernel_rfl) (by kernel_rfl) (fun _ _ _ h => h) (Or.inr ⟨by kernel_rfl, rfl⟩) hS ?_
                      refine wpAnyH_take (i := 16) (v := (undef)) rfl (by kernel_rfl) (by kernel_rfl) (by kernel_rfl) (fun _ _ _ h => h) (Or.inr ⟨by kernel_rfl, rfl⟩) hS ?_
                      refine wpAnyH_take (i := 17) (v := (undef)) rfl (by kernel_rfl) (by kernel_rfl) (by kernel_rfl) (fun _ _ _ h => h) (Or.inr ⟨by kernel_rfl, rfl⟩) hS ?_
                      refine wpAnyH_take (i := 18) (v := (.bool true)) rfl (by kernel_rfl) (by kernel_rfl) (by kernel_rfl) (fun _ _ _ h => h) (Or.inl ⟨by kernel_rfl, fun w' hS' => by go_simp⟩) hS ?_
                      refine wpAnyH_take (i := 19) (v := (.bool true)) rfl (by kernel_rfl) (by kernel_rfl) (by kernel_rfl) (fun _ _ _ h => h) (Or.inl ⟨by kernel_rfl, fun w' hS' => by go_simp⟩) hS ?_
                      refine wpAnyH_take (i := 20) (v := (undef)) rfl (by kernel_rfl) (by kernel_rfl) (by kernel_rfl) (fun _ _ _ h => h) (Or.inr ⟨by kernel_rfl, rfl⟩) hS ?_
                      refine wpAnyH_take (i := 21) (v := (undef)) rfl (by kernel_rfl) (by kernel_rfl) (by kernel_rfl) (fun _ _ _ h => h) (Or.inr ⟨by kernel_rfl, rfl⟩) hS ?_
                      refine wpAnyH_take (i := 22) (v := (undef)) rfl (by kernel_rfl) (by kernel_rfl) (by kernel_rfl) (fun _ _ _ h => h) (Or.inr ⟨by kernel_rfl, rfl⟩) hS ?_
                      refine wpAnyH_take (i := 23) (v := (undef)) rfl (by kernel_rfl) (by kernel_rfl) (by kernel_rfl) (fun _ _ _ h => h) (Or.inr ⟨by kernel_rfl, rfl⟩) hS ?_
                      refine wpAnyH_take (i := 24) (v := (undef)) rfl (by kernel_rfl) (by kernel_rfl) (by kernel_rfl) (fun _ _ _ h => h) (Or.inr ⟨by kernel_rfl, rfl⟩) hS ?_
                      refine wpAnyH_take (i := 25) (v := (undef)) rfl (by kernel_rfl) (by kernel_rfl) (by kernel_rfl) (fun _ _ _ h => h) (Or.inr ⟨by kernel_rfl, rfl⟩) hS ?_
                      refine wpAnyH_take (i := 26) (v := (undef)) rfl (by kernel_rfl) (by kernel_rfl) (by kernel_rfl) (fun _ _ _ h => h) (Or.inr ⟨by kernel_rfl, rfl⟩) hS ?_
                      refine wpAnyH_take (i := 27) (v := (undef)) rfl (by kernel_rfl) (by kernel_rfl) (by kernel_rfl) (fun _ _ _ h => h) (Or.inr ⟨by kernel_rfl, rfl⟩) hS ?_
                      refine wpAnyH_take (i := 28) (v := (undef)) rfl (by kernel_rfl) (by kernel_rfl) (by kernel_rfl) (fun _ _ _ h => h) (Or.inr ⟨by kernel_rfl, rfl⟩) hS ?_
                      refine wpAnyH_take (i := 29) (v := (undef)) rfl (by kernel_rfl) (by kernel_rfl) (by kernel_rfl) (fun _ _ _ h => h) (Or.inr ⟨by kernel_rfl, rfl⟩) hS ?_
                      refine wpAnyH_take (i := 30) (v := (undef)) rfl (by kernel_rfl) (by kernel_rfl) (by kernel_rfl) (fun _ _ _ h => h) (Or.inr ⟨by kernel_rfl, rfl⟩) hS ?_
                      refine wpAnyH_take (i := 31) (v := (.bool true)) rfl (by kernel_rfl) (by kernel_rfl) (by kernel_rfl) (fun _ _ _ h => h) (Or.inl ⟨by kernel_rfl, fun w' hS' => by go_simp⟩) hS ?_
                      refine wpAnyH_take (i := 32) (v := (.bool true)) rfl (by kernel_rfl) (by kernel_rfl) (by kernel_rfl) (fun _ _ _ h => h) (Or.inl ⟨by kernel_rfl, fun w' hS' => by go_simp⟩) hS ?_
                      refine wpAnyH_take (i := 33) (v := (undef)) rfl (by kernel_rfl) (by kernel_rfl) (by kernel_rfl) (fun _ _ _ h => h) (Or.inr ⟨by kernel_rfl, rfl⟩) hS ?_
                      refine wpAnyH_take (i := 34) (v := (undef)) rfl (by kernel_rfl) (by kernel_rfl) (by kernel_rfl) (fun _ _ _ h => h) (Or.inr ⟨by kernel_rfl, rfl⟩) hS ?_
                      refine wpAnyH_take (i := 35) (v := (undef)) rfl (by kernel_rfl) (by kernel_rfl) (by kernel_rfl) (fun _ _ _ h => h) (Or.inr ⟨by kernel_rfl, rfl⟩) hS ?_
                      refine wpAnyH_take (i := 36) (v := (undef)) rfl (by kernel_rfl) (by kernel_rfl) (by kernel_rfl) (fun _ _ _ h => h) (Or.inr ⟨by kernel_rfl, rfl⟩) hS ?_
                      refine wpAnyH_take (i := 37) (v := (undef)) rfl (by kernel_rfl) (by kernel_rfl) (by kernel_rfl) (fun _ _ _ h => h) (Or.inr ⟨by kernel_rfl, rfl⟩) hS ?_
                      refine wpAnyH_take (i := 38) (v := (undef)) rfl (by kernel_rfl) (by kernel_rfl) (by kernel_rfl) (fun _ _ _ h => h) (Or.inr ⟨by kernel_rfl, rfl⟩) hS ?_
                      refine wpAnyH_take (i := 39) (v := (undef)) rfl (by kernel_rfl) (by kernel_rfl) (by kernel_rfl) (fun _ _ _ h => h) (Or.inr ⟨by kernel_rfl, rfl⟩) hS ?_
                      refine wpAnyH_take (i := 40) (v := (.bool true)) rfl (by kernel_rfl) (by kernel_rfl) (by kernel_rfl) (fun _ _ _ h => h) (Or.inl ⟨by kernel_rfl, fun w' hS' => by go_simp⟩) hS ?_
                      refine wpAnyH_take (i := 41) (v := (.bool true)) rfl (by kernel_rfl) (by kernel_rfl) (by kernel_rfl) (fun _ _ _ h => h) (Or.inl ⟨by kernel_rfl, fun w' hS' => by go_simp⟩) hS ?_
                      refine wpAnyH_take (i := 42) (v := (undef)) rfl (by kernel_rfl) (by kernel_rfl) (by kernel_rfl) (fun _ _ _ h => h) (Or.inr ⟨by kernel_rfl, rfl⟩) hS ?_
                      refine wpAnyH_take (i := 43) (v := (undef)) rfl (by kernel_rfl) (by kernel_rfl) (by kernel_rfl) (fun _ _ _ h => h) (Or.inr ⟨by kernel_rfl, rfl⟩) hS ?_
                      refine wpAnyH_take (i := 44) (v := (undef)) rfl (by kernel_rfl) (by kernel_rfl) (by kernel_rfl) (fun _ _ _ h => h) (Or.inr ⟨by kernel_rfl, rfl⟩) hS ?_
                      refine wpAnyH_take (i := 45) (v := (undef)) rfl (by kernel_rfl) (by kernel_rfl) (by kernel_rfl) (fun _ _ _ h => h) (Or.inr ⟨by kernel_rfl, rfl⟩) hS ?_
                      refine wpAnyH_take (i := 46) (v := (undef)) rfl (by kernel_rfl) (by kernel_rfl) (by kernel_rfl) (fun _ _ _ h => h) (Or.inr ⟨by kernel_rfl, rfl⟩) hS ?_
                      refine wpAnyH_take (i := 47) (v := (undef)) rfl (by kernel_rfl) (by kernel_rfl) (by kernel_rfl) (fun _ _ _ h => h) (Or.inr ⟨by kernel_rfl, rfl⟩) hS ?_
                      refine wpAnyH_take (i := 48) (v := (undef)) rfl (by kernel_rfl) (by kernel_rfl) (by kernel_rfl) (fun _ _ _ h => h) (Or.inr ⟨by kernel_rfl, rfl⟩) hS ?_
                      refine wpAnyH_take (i := 49) (v := (undef)) rfl (by kernel_rfl) (by kernel_rfl) (by kernel_rfl) (fun _ _ _ h => h) (Or.inr ⟨by kernel_rfl, rfl⟩) hS ?_
                      refine wpAnyH_take (i := 50) (v := (.bool true)) rfl (by kernel_rfl) (by kernel_rfl) (by kernel_rfl) (fun _ _ _ h => h) (Or.inl ⟨by kernel_rfl, fun w' hS' => by go_simp⟩) hS ?_
                      refine wpAnyH_done (by kernel_rfl) ?_ _
                      go_simp
                      first | (rename_i hnext; refine hnext _ _ ?_; clear hnext) | (rename_i hnext _; refine hnext _ _ ?_; clear hnext) | (rename_i hnext _ _; refine hnext _ _ ?_; clear hnext) | (rename_i hnext _ _ _; refine hnext _ _ ?_; clear hnext) | (rename_i hnext _ _ _ _; refine hnext _ _ ?_; clear hnext) | (rename_i hnext _ _ _ _ _; refine hnext _ _ ?_; clear hnext) | (rename_i hnext _ _ _ _ _ _; refine hnext _ _ ?_; clear hnext) | (rename_i hnext _ _ _ _ _ _ _; refine hnext _ _ ?_; clear hnext) | (rename_i hnext _ _ _ _ _ _ _ _; refine hnext _ _ ?_; clear hnext) | (rename_i hnext _ _ _ _ _ _ _ _ _; refine hnext _ _ ?_; clear hnext) | (rename_i hnext _ _ _ _ _ _ _ _ _ _; refine hnext _ _ ?_; clear hnext) | (rename_i hnext _ _ _ _ _ _ _ _ _ _ _; refine hnext _ _ ?_; clear hnext) | (rename_i hnext _ _ _ _ _ _ _ _ _ _ _ _; refine hnext _ _ ?_; clear hnext) | (rename_i hnext _ _ _ _ _ _ _ _ _ _ _ _ _; refine hnext _ _ ?_; clear hnext) | (rename_i hnext _ _ _ _ _ _ _ _ _ _ _ _ _ _; refine hnext _ _ ?_; clear hnext) | (rename_i hnext _ _ _ _ _ _ _ _ _ _ _ _ _ _ _; refine hnext _ _ ?_; clear hnext) | (rename_i hnext _ _ _ _ _ _ _ _ _ _ _ _ _ _ _ _; refine hnext _ _ ?_; clear hnext) | (rename_i hnext _ _ _ _ _ _ _ _ _ _ _ _ _ _ _ _ _; refine hnext _ _ ?_; clear hnext) | (rename_i hnext _ _ _ _ _ _ _ _ _ _ _ _ _ _ _ _ _ _; refine hnext _ _ ?_; clear hnext) | (rename_i hnext _ _ _ _ _ _ _ _ _ _ _ _ _ _ _ _ _ _ _; refine hnext _ _ ?_; clear hnext)
                      go_wp2
                      go_ret
                      exact ⟨ret_bool (by rw [HBB.out]; exact (check_out HG.out HU.out (.inl HW1.out)).symm), below_draws HB6.out 1⟩
                    · have e1 : decide (u.want < 0) = false := decide_eq_false hw1
                      by_cases hw2 : (ws.length : Int) ≤ u.want
                      · have e2 : decide ((ws.length : Int) ≤ u.want) = true := decide_eq_true hw2
                        have HW2 := Lib.hid hw2
                        clear hw2
                        go_wp2_with fail
                        refine wp_region_held_drew (S := fun w' => UseAt w' bu u) (by kernel_rfl) ((HU6.out : UseAt w6.drew bu u)) (fun hS => ?_)
                        refine wpAnyH_take (i := 0) (v := (.int .i64 (m : Int))) rfl (by kernel_rfl) (by kernel_rfl) (by kernel_rfl) (fun _ _ _ h => h) (Or.inl ⟨by kernel_rfl, fun w' hS' => by go_simp⟩) hS ?_
                        refine wpAnyH_take (i := 1) (v := (.bool false)) rfl (by kernel_rfl) (by kernel_rfl) (by kernel_rfl) (fun _ _ _ h => h) (Or.inl ⟨by kernel_rfl, fun w' hS' => by go_simp⟩) hS ?_
                        refine wpAnyH_take (i := 2) (v := (.bool false)) rfl (by kernel_rfl) (by kernel_rfl) (by kernel_rfl) (fun _ _ _ h => h) (Or.inl ⟨by kernel_rfl, fun w' hS' => by go_simp⟩) hS ?_
                        refine wpAnyH_take (i := 3) (v := (.pointer (some ⟨bu, 0, none⟩))) rfl (by kernel_rfl) (by kernel_rfl) (by kernel_rfl) (fun _ _ _ h => h) (Or.inl ⟨by kernel_rfl, fun w' hS' => by go_simp⟩) hS ?_
                        refine wpAnyH_take (i := 4) (v := (.int .i64 u.want)) rfl (by kernel_rfl) (by kernel_rfl) (by kernel_rfl) (fun _ _ _ h => h) (Or.inl ⟨by kernel_rfl, fun w' hS' => by obtain ⟨d0, d1, d2⟩ := hS'; go_simp⟩) hS ?_
                        refine wpAnyH_take (i := 5) (v := (.bool false)) rfl (by kernel_rfl) (by kernel_rfl) (by kernel_rfl) (fun _ _ _ h => h) (Or.inl ⟨by kernel_rfl, fun w' hS' => by go_simp⟩) hS ?_
                        refine wpAnyH_take (i := 6) (v := (.bool false)) rfl (by kernel_rfl) (by kernel_rfl) (by kernel_rfl) (fun _ _ _ h => h) (Or.inl ⟨by kernel_rfl, fun w' hS' => by go_simp⟩) hS ?_
                        refine wpAnyH_take (i := 7) (v := (.bool false)) rfl (by kernel_rfl) (by kernel_rfl) (by kernel_rfl) (fun _ _ _ h => h) (Or.inl ⟨by kernel_rfl, fun w' hS' => by go_simp⟩) hS ?_
                        refine wpAnyH_take (i := 8) (v := (.pointer (some ⟨bu, 0, none⟩))) rfl (by kernel_rfl) (by kernel_rfl) (by kernel_rfl) (fun _ _ _ h => h) (Or.inl ⟨by kernel_rfl, fun w' hS' => by go_simp⟩) hS ?_
                        refine wpAnyH_take (i := 9) (v := (.int .i64 u.want)) rfl (by kernel_rfl) (by kernel_rfl) (by kernel_rfl) (fun _ _ _ h => h) (Or.inl ⟨by kernel_rfl, fun w' hS' => by obtain ⟨d0, d1, d2⟩ := hS'; go_simp⟩) hS ?_
                        refine wpAnyH_take (i := 10) (v := (.slice A2 ws.length c2)) rfl (by kernel_rfl) (by kernel_rfl) (by kernel_rfl) (fun _ _ _ h => h) (Or.inl ⟨by kernel_rfl, fun w' hS' => by go_simp⟩) hS ?_
                        refine wpAnyH_take (i := 11) (v := (.int .i64 (ws.length : Int))) rfl (by kernel_rfl) (by kernel_rfl) (by kernel_rfl) (fun _ _ _ h => h) (Or.inl ⟨by kernel_rfl, fun w' hS' => by go_simp⟩) hS ?_
                        refine wpAnyH_take (i := 12) (v := (.bool true)) rfl (by kernel_rfl) (by kernel_rfl) (by kernel_rfl) (fun _ _ _ h => h) (Or.inl ⟨by kernel_rfl, fun w' hS' => by go_simp⟩) hS ?_
                        refine wpAnyH_take (i := 13) (v := (.bool true)) rfl (by kernel_rfl) (by kernel_rfl) (by kernel_rfl) (fun _ _ _ h => h) (Or.inl ⟨by kernel_rfl, fun w' hS' => by go_simp⟩) hS ?_
                        refine wpAnyH_take (i := 14) (v := (.bool true)) rfl (by kernel_rfl) (by kernel_rfl) (by kernel_rfl) (fun _ _ _ h => h) (Or.inl ⟨by kernel_rfl, fun w' hS' => by go_simp⟩) hS ?_
                        refine wpAnyH_take (i := 15) (v := (undef)) rfl (by kernel_rfl) (by kernel_rfl) (by kernel_rfl) (fun _ _ _ h => h) (Or.inr ⟨by kernel_rfl, rfl⟩) hS ?_
                        refine wpAnyH_take (i := 16) (v := (undef)) rfl (by kernel_rfl) (by kernel_rfl) (by kernel_rfl) (fun _ _ _ h => h) (Or.inr ⟨by kernel_rfl, rfl⟩) hS ?_
                        refine wpAnyH_take (i := 17) (v := (undef)) rfl (by kernel_rfl) (by kernel_rfl) (by kernel_rfl) (fun _ _ _ h => h) (Or.inr ⟨by kernel_rfl, rfl⟩) hS ?_
                        refine wpAnyH_take (i := 18) (v := (.bool true)) rfl (by kernel_rfl) (by kernel_rfl) (by kernel_rfl) (fun _ _ _ h => h) (Or.inl ⟨by kernel_rfl, fun w' hS' => by go_simp⟩) hS ?_
                        refine wpAnyH_take (i := 19) (v := (.bool true)) rfl (by kernel_rfl) (by kernel_rfl) (by kernel_rfl) (fun _ _ _ h => h) (Or.inl ⟨by kernel_rfl, fun w' hS' => by go_simp⟩) hS ?_
                        refine wpAnyH_take (i := 20) (v := (undef)) rfl (by kernel_rfl) (by kernel_rfl) (by kernel_rfl) (fun _ _ _ h => h) (Or.inr ⟨by kernel_rfl, rfl⟩) hS ?_
                        refine wpAnyH_take (i := 21) (v := (undef)) rfl (by kernel_rfl) (by kernel_rfl) (by kernel_rfl) (fun _ _ _ h => h) (Or.inr ⟨by kernel_rfl, rfl⟩) hS ?_
                        refine wpAnyH_take (i := 22) (v := (undef)) rfl (by kernel_rfl) (by kernel_rfl) (by kernel_rfl) (fun _ _ _ h => h) (Or.inr ⟨by kernel_rfl, rfl⟩) hS ?_
                        refine wpAnyH_take (i := 23) (v := (undef)) rfl (by kernel_rfl) (by kernel_rfl) (by kernel_rfl) (fun _ _ _ h => h) (Or.inr ⟨by kernel_rfl, rfl⟩) hS ?_
                        refine wpAnyH_take (i := 24) (v := (undef)) rfl (by kernel_rfl) (by kernel_rfl) (by kernel_rfl) (fun _ _ _ h => h) (Or.inr ⟨by kernel_rfl, rfl⟩) hS ?_
                        refine wpAnyH_take (i := 25) (v := (undef)) rfl (by kernel_rfl) (by kernel_rfl) (by kernel_rfl) (fun _ _ _ h => h) (Or.inr ⟨by kernel_rfl, rfl⟩) hS ?_
                        refine wpAnyH_take (i := 26) (v := (undef)) rfl (by kernel_rfl) (by kernel_rfl) (by kernel_rfl) (fun _ _ _ h => h) (Or.inr ⟨by kernel_rfl, rfl⟩) hS ?_
                        refine wpAnyH_take (i := 27) (v := (undef)) rfl (by kernel_rfl) (by kernel_rfl) (by kernel_rfl) (fun _ _ _ h => h) (Or.inr ⟨by kernel_rfl, rfl⟩) hS ?_
                        refine wpAnyH_take (i := 28) (v := (undef)) rfl (by kernel_rfl) (by kernel_rfl) (by kernel_rfl) (fun _ _ _ h => h) (Or.inr ⟨by kernel_rfl, rfl⟩) hS ?_
                        refine wpAnyH_take (i := 29) (v := (undef)) rfl (by kernel_rfl) (by kernel_rfl) (by kernel_rfl) (fun _ _ _ h => h) (Or.inr ⟨by kernel_rfl, rfl⟩) hS ?_
                        refine wpAnyH_take (i := 30) (v := (undef)) rfl (by kernel_rfl) (by kernel_rfl) (by kernel_rfl) (fun _ _ _ h => h) (Or.inr ⟨by kernel_rfl, rfl⟩) hS ?_
                        refine wpAnyH_take (i := 31) (v := (.bool true)) rfl (by kernel_rfl) (by kernel_rfl) (by kernel_rfl) (fun _ _ _ h => h) (Or.inl ⟨by kernel_rfl, fun w' hS' => by go_simp⟩) hS ?_
                        refine wpAnyH_take (i := 32) (v := (.bool true)) rfl (by kernel_rfl) (by kernel_rfl) (by kernel_rfl) (fun _ _ _ h => h) (Or.inl ⟨by kernel_rfl, fun w' hS' => by go_simp⟩) hS ?_
                        refine wpAnyH_take (i := 33) (v := (undef)) rfl (by kernel_rfl) (by kernel_rfl) (by kernel_rfl) (fun _ _ _ h => h) (Or.inr ⟨by kernel_rfl, rfl⟩) hS ?_
                        refine wpAnyH_take (i := 34) (v := (undef)) rfl (by kernel_rfl) (by kernel_rfl) (by kernel_rfl) (fun _ _ _ h => h) (Or.inr ⟨by kernel_rfl, rfl⟩) hS ?_
                        refine wpAnyH_take (i := 35) (v := (undef)) rfl (by kernel_rfl) (by kernel_rfl) (by kernel_rfl) (fun _ _ _ h => h) (Or.inr ⟨by kernel_rfl, rfl⟩) hS ?_
                        refine wpAnyH_take (i := 36) (v := (undef)) rfl (by kernel_rfl) (by kernel_rfl) (by kernel_rfl) (fun _ _ _ h => h) (Or.inr ⟨by kernel_rfl, rfl⟩) hS ?_
                        refine wpAnyH_take (i := 37) (v := (undef)) rfl (by kernel_rfl) (by kernel_rfl) (by kernel_rfl) (fun _ _ _ h => h) (Or.inr ⟨by kernel_rfl, rfl⟩) hS ?_
                        refine wpAnyH_take (i := 38) (v := (undef)) rfl (by kernel_rfl) (by kernel_rfl) (by kernel_rfl) (fun _ _ _ h => h) (Or.inr ⟨by kernel_rfl, rfl⟩) hS ?_
                        refine wpAnyH_take (i := 39) (v := (undef)) rfl (by kernel_rfl) (by kernel_rfl) (by kernel_rfl) (fun _ _ _ h => h) (Or.inr ⟨by kernel_rfl, rfl⟩) hS ?_
                        refine wpAnyH_take (i := 40) (v := (.bool true)) rfl (by kernel_rfl) (by kernel_rfl) (by kernel_rfl) (fun _ _ _ h => h) (Or.inl ⟨by kernel_rfl, fun w' hS' => by go_simp⟩) hS ?_
                        refine wpAnyH_take (i := 41) (v := (.bool true)) rfl (by kernel_rfl) (by kernel_rfl) (by kernel_rfl) (fun _ _ _ h => h) (Or.inl ⟨by kernel_rfl, fun w' hS' => by go_simp⟩) hS ?_
                        refine wpAnyH_take (i := 42) (v := (undef)) rfl (by kernel_rfl) (by kernel_rfl) (by kernel_rfl) (fun _ _ _ h => h) (Or.inr ⟨by kernel_rfl, rfl⟩) hS ?_
                        refine wpAnyH_take (i := 43) (v := (undef)) rfl (by kernel_rfl) (by kernel_rfl) (by kernel_rfl) (fun _ _ _ h => h) (Or.inr ⟨by kernel_rfl, rfl⟩) hS ?_
                        refine wpAnyH_take (i := 44) (v := (undef)) rfl (by kernel_rfl) (by kernel_rfl) (by kernel_rfl) (fun _ _ _ h => h) (Or.inr ⟨by kernel_rfl, rfl⟩) hS ?_
                        refine wpAnyH_take (i := 45) (v := (undef)) rfl (by kernel_rfl) (by kernel_rfl) (by kernel_rfl) (fun _ _ _ h => h) (Or.inr ⟨by kernel_rfl, rfl⟩) hS ?_
                        refine wpAnyH_take (i := 46) (v := (undef)) rfl (by kernel_rfl) (by kernel_rfl) (by kernel_rfl) (fun _ _ _ h => h) (Or.inr ⟨by kernel_rfl, rfl⟩) hS ?_
                        refine wpAnyH_take (i := 47) (v := (undef)) rfl (by kernel_rfl) (by kernel_rfl) (by kernel_rfl) (fun _ _ _ h => h) (Or.inr ⟨by kernel_rfl, rfl⟩) hS ?_
                        refine wpAnyH_take (i := 48) (v := (undef)) rfl (by kernel_rfl) (by kernel_rfl) (by kernel_rfl) (fun _ _ _ h => h) (Or.inr ⟨by kernel_rfl, rfl⟩) hS ?_
                        refine wpAnyH_take (i := 49) (v := (undef)) rfl (by kernel_rfl) (by kernel_rfl) (by kernel_rfl) (fun _ _ _ h => h) (Or.inr ⟨by kernel_rfl, rfl⟩) hS ?_
                        refine wpAnyH_take (i := 50) (v := (.bool true)) rfl (by kernel_rfl) (by kernel_rfl) (by kernel_rfl) (fun _ _ _ h => h) (Or.inl ⟨by kernel_rfl, fun w' hS' => by go_simp⟩) hS ?_
                        refine wpAnyH_done (by kernel_rfl) ?_ _
                        go_simp
                        first | (rename_i hnext; refine hnext _ _ ?_; clear hnext) | (rename_i hnext _; refine hnext _ _ ?_; clear hnext) | (rename_i hnext _ _; refine hnext _ _ ?_; clear hnext) | (rename_i hnext _ _ _; refine hnext _ _ ?_; clear hnext) | (rename_i hnext _ _ _ _; refine hnext _ _ ?_; clear hnext) | (rename_i hnext _ _ _ _ _; refine hnext _ _ ?_; clear hnext) | (rename_i hnext _ _ _ _ _ _; refine hnext _ _ ?_; clear hnext) | (rename_i hnext _ _ _ _ _ _ _; refine hnext _ _ ?_; clear hnext) | (rename_i hnext _ _ _ _ _ _ _ _; refine hnext _ _ ?_; clear hnext) | (rename_i hnext _ _ _ _ _ _ _ _ _; refine hnext _ _ ?_; clear hnext) | (rename_i hnext _ _ _ _ _ _ _ _ _ _; refine hnext _ _ ?_; clear hnext) | (rename_i hnext _ _ _ _ _ _ _ _ _ _ _; refine hnext _ _ ?_; clear hnext) | (rename_i hnext _ _ _ _ _ _ _ _ _ _ _ _; refine hnext _ _ ?_; clear hnext) | (rename_i hnext _ _ _ _ _ _ _ _ _ _ _ _ _; refine hnext _ _ ?_; clear hnext) | (rename_i hnext _ _ _ _ _ _ _ _ _ _ _ _ _ _; refine hnext _ _ ?_; clear hnext) | (rename_i hnext _ _ _ _ _ _ _ _ _ _ _ _ _ _ _; refine hnext _ _ ?_; clear hnext) | (rename_i hnext _ _ _ _ _ _ _ _ _ _ _ _ _ _ _ _; refine hnext _ _ ?_; clear hnext) | (rename_i hnext _ _ _ _ _ _ _ _ _ _ _ _ _ _ _ _ _; refine hnext _ _ ?_; clear hnext) | (rename_i hnext _ _ _ _ _ _ _ _ _ _ _ _ _ _ _ _ _ _; refine hnext _ _ ?_; clear hnext) | (rename_i hnext _ _ _ _ _ _ _ _ _ _ _ _ _ _ _ _ _ _ _; refine hnext _ _ ?_; clear hnext)
                        go_wp2
                        go_ret
                        exact ⟨ret_bool (by rw [HBB.out]; exact (check_out HG.out HU.out (.inr HW2.out)).symm), below_draws HB6.out 1⟩
                      · obtain ⟨p, hp⟩ : ∃ p : Nat, u.want = p := ⟨u.want.toNat, by omega⟩
                        have hpl : p < ws.length := by omega
                        have e1 : decide ((p : Int) < 0) = false := decide_eq_false (by omega)
                        have e2 : decide ((ws.length : Int) ≤ (p : Int)) = false := decide_eq_false (by omega)
                        have e2' : decide (ws.length ≤ p) = false := decide_eq_false (by omega)
                        obtain ⟨y, hy⟩ : ∃ y, ws[p]? = some y := ⟨_, List.getElem?_eq_getElem hpl⟩
                        obtain ⟨n, hn⟩ : ∃ n, nd[p]? = some n := ⟨_, List.getElem?_eq_getElem (by rw [HNL.out]; exact hpl)⟩
                        obtain ⟨ad1, ea, hb1, hsix⟩ := (HL1.out.below HB6.out).six HX.out
                        obtain ⟨ad2, eb, hb2, hrow⟩ := (HL2.out.below HB6.out).rowW hy
                        subst ea eb
                        have HP := Lib.hid hp
                        have HY := Lib.hid hy
                        have HNN0 := Lib.hid hn
                        have hql : (l.map (fun x => q x.id))[m]? = some (q x.id) := by rw [List.getElem?_map, HX.out]; rfl
                        have HFULL : Hid (∀ w', Below w6.heap.size w6 w' → UseAt w' bu u ∧ Six w' (ad1.add (m * 6)) x ∧ RowW w' (ad2.add (p * 3)) y ∧ w'.cell? ⟨g2, m, none⟩ = some (.int .i64 (q x.id)) ∧ w'.cell? ⟨g, p, none⟩ = some (.int .i64 n)) := Lib.hid (full_at HU6.out hz6 (HL1.out.below HB6.out) HB6.out.size HX.out (HL2.out.below HB6.out) hy HLF6.out hql HN6.out hn)
                        have hq1 := HQ.out x.id
                        have hn1 := HNN.out n (List.mem_of_getElem? hn)
                        clear hy hn hsix hrow hql hw1 hw2 hp
                        have HU6P : Hid (UseAt w6 bu u) := HU6
                        have hup : u.want = (p : Int) := HP.out
                        by_cases c3 : u.qty < 1
                        · have e3 : decide (u.qty < 1) = true := decide_eq_true c3
                          have HC3 := Lib.hid c3
                          clear c3 hup
                          go_wp2_with fail
                          refine wp_region_held_drew (S := fun w' => UseAt w' bu u ∧ Six w' (ad1.add (m * 6)) x ∧ RowW w' (ad2.add (p * 3)) y ∧ w'.cell? ⟨g2, m, none⟩ = some (.int .i64 (q x.id)) ∧ w'.cell? ⟨g, p, none⟩ = some (.int .i64 n)) (by kernel_rfl) (HFULL.out w6.drew (Below.refl _ _).drew) (fun hS => ?_)
                          refine wpAnyH_take (i := 0) (v := (.int .i64 (m : Int))) rfl (by kernel_rfl) (by kernel_rfl) (by kernel_rfl) (fun _ _ _ h => h) (Or.inl ⟨by kernel_rfl, fun w' hS' => by go_simp⟩) hS ?_
                          refine wpAnyH_take (i := 1) (v := (.bool false)) rfl (by kernel_rfl) (by kernel_rfl) (by kernel_rfl) (fun _ _ _ h => h) (Or.inl ⟨by kernel_rfl, fun w' hS' => by go_simp⟩) hS ?_
                          refine wpAnyH_take (i := 2) (v := (.bool false)) rfl (by kernel_rfl) (by kernel_rfl) (by kernel_rfl) (fun _ _ _ h => h) (Or.inl ⟨by kernel_rfl, fun w' hS' => by go_simp⟩) hS ?_
                          refine wpAnyH_take (i := 3) (v := (.pointer (some ⟨bu, 0, none⟩))) rfl (by kernel_rfl) (by kernel_rfl) (by kernel_rfl) (fun _ _ _ h => h) (Or.inl ⟨by kernel_rfl, fun w' hS' => by go_simp⟩) hS ?_
                          refine wpAnyH_take (i := 4) (v := (.int .i64 (p : Int))) rfl (by kernel_rfl) (by kernel_rfl) (by kernel_rfl) (fun _ _ _ h => h) (Or.inl ⟨by kernel_rfl, fun w' hS' => by obtain ⟨⟨d0, d1, d2⟩, ⟨s0, s1, s2, s3, s4, s5⟩, ⟨y0, y1, y2⟩, dl, dn⟩ := hS'; go_simp; try exact HP.out⟩) hS ?_
                          refine wpAnyH_take (i := 5) (v := (.bool false)) rfl (by kernel_rfl) (by kernel_rfl) (by kernel_rfl) (fun _ _ _ h => h) (Or.inl ⟨by kernel_rfl, fun w' hS' => by go_simp⟩) hS ?_
                          refine wpAnyH_take (i := 6) (v := (.bool false)) rfl (by kernel_rfl) (by kernel_rfl) (by kernel_rfl) (fun _ _ _ h => h) (Or.inl ⟨by kernel_rfl, fun w' hS' => by go_simp⟩) hS ?_
                          refine wpAnyH_take (i := 7) (v := (.bool false)) rfl (by kernel_rfl) (by kernel_rfl) (by kernel_rfl) (fun _ _ _ h => h) (Or.inl ⟨by kernel_rfl, fun w' hS' => by go_simp⟩) hS ?_
                          refine wpAnyH_take (i := 8) (v := (.pointer (some ⟨bu, 0, none⟩))) rfl (by kernel_rfl) (by kernel_rfl) (by kernel_rfl) (fun _ _ _ h => h) (Or.inl ⟨by kernel_rfl, fun w' hS' => by go_simp⟩) hS ?_
                          refine wpAnyH_take (i := 9) (v := (.int .i64 (p : Int))) rfl (by kernel_rfl) (by kernel_rfl) (by kernel_rfl) (fun _ _ _ h => h) (Or.inl ⟨by kernel_rfl, fun w' hS' => by obtain ⟨⟨d0, d1, d2⟩, ⟨s0, s1, s2, s3, s4, s5⟩, ⟨y0, y1, y2⟩, dl, dn⟩ := hS'; go_simp; try exact HP.out⟩) hS ?_
                          refine wpAnyH_take (i := 10) (v := (.slice (some ad2) ws.length c2)) rfl (by kernel_rfl) (by kernel_rfl) (by kernel_rfl) (fun _ _ _ h => h) (Or.inl ⟨by kernel_rfl, fun w' hS' => by go_simp⟩) hS ?_
                          refine wpAnyH_take (i := 11) (v := (.int .i64 (ws.length : Int))) rfl (by kernel_rfl) (by kernel_rfl) (by kernel_rfl) (fun _ _ _ h => h) (Or.inl ⟨by kernel_rfl, fun w' hS' => by go_simp⟩) hS ?_
                          refine wpAnyH_take (i := 12) (v := (.bool false)) rfl (by kernel_rfl) (by kernel_rfl) (by kernel_rfl) (fun _ _ _ h => h) (Or.inl ⟨by kernel_rfl, fun w' hS' => by go_simp⟩) hS ?_
                          refine wpAnyH_take (i := 13) (v := (.bool false)) rfl (by kernel_rfl) (by kernel_rfl) (by kernel_rfl) (fun _ _ _ h => h) (Or.inl ⟨by kernel_rfl, fun w' hS' => by go_simp⟩) hS ?_
                          refine wpAnyH_take (i := 14) (v := (.bool false)) rfl (by kernel_rfl) (by kernel_rfl) (by kernel_rfl) (fun _ _ _ h => h) (Or.inl ⟨by kernel_rfl, fun w' hS' => by go_simp⟩) hS ?_
                          refine wpAnyH_take (i := 15) (v := (.pointer (some ⟨bu, 2, none⟩))) rfl (by kernel_rfl) (by kernel_rfl) (by kernel_rfl) (fun _ _ _ h => h) (Or.inl ⟨by kernel_rfl, fun w' hS' => by go_simp⟩) hS ?_
                          refine wpAnyH_take (i := 16) (v := (.int .i64 u.qty)) rfl (by kernel_rfl) (by kernel_rfl) (by kernel_rfl) (fun _ _ _ h => h) (Or.inl ⟨by kernel_rfl, fun w' hS' => by obtain ⟨⟨d0, d1, d2⟩, ⟨s0, s1, s2, s3, s4, s5⟩, ⟨y0, y1, y2⟩, dl, dn⟩ := hS'; go_simp; try exact HP.out⟩) hS ?_
                          refine wpAnyH_take (i := 17) (v := (.bool true)) rfl (by kernel_rfl) (by kernel_rfl) (by kernel_rfl) (fun _ _ _ h => h) (Or.inl ⟨by kernel_rfl, fun w' hS' => by go_simp⟩) hS ?_
                          refine wpAnyH_take (i := 18) (v := (.bool true)) rfl (by kernel_rfl) (by kernel_rfl) (by kernel_rfl) (fun _ _ _ h => h) (Or.inl ⟨by kernel_rfl, fun w' hS' => by go_simp⟩) hS ?_
                          refine wpAnyH_take (i := 19) (v := (.bool true)) rfl (by kernel_rfl) (by kernel_rfl) (by kernel_rfl) (fun _ _ _ h => h) (Or.inl ⟨by kernel_rfl, fun w' hS' => by go_simp⟩) hS ?_
                          refine wpAnyH_take (i := 20) (v := (undef)) rfl (by kernel_rfl) (by kernel_rfl) (by kernel_rfl) (fun _ _ _ h => h) (Or.inr ⟨by kernel_rfl, rfl⟩) hS ?_
                          refine wpAnyH_take (i := 21) (v := (undef)) rfl (by kernel_rfl) (by kernel_rfl) (by kernel_rfl) (fun _ _ _ h => h) (Or.inr ⟨by kernel_rfl, rfl⟩) hS ?_
                          refine wpAnyH_take (i := 22) (v := (undef)) rfl (by kernel_rfl) (by kernel_rfl) (by kernel_rfl) (fun _ _ _ h => h) (Or.inr ⟨by kernel_rfl, rfl⟩) hS ?_
                          refine wpAnyH_take (i := 23) (v := (undef)) rfl (by kernel_rfl) (by kernel_rfl) (by kernel_rfl) (fun _ _ _ h => h) (Or.inr ⟨by kernel_rfl, rfl⟩) hS ?_
                          refine wpAnyH_take (i := 24) (v := (undef)) rfl (by kernel_rfl) (by kernel_rfl) (by kernel_rfl) (fun _ _ _ h => h) (Or.inr ⟨by kernel_rfl, rfl⟩) hS ?_
                          refine wpAnyH_take (i := 25) (v := (undef)) rfl (by kernel_rfl) (by kernel_rfl) (by kernel_rfl) (fun _ _ _ h => h) (Or.inr ⟨by kernel_rfl, rfl⟩) hS ?_
                          refine wpAnyH_take (i := 26) (v := (undef)) rfl (by kernel_rfl) (by kernel_rfl) (by kernel_rfl) (fun _ _ _ h => h) (Or.inr ⟨by kernel_rfl, rfl⟩) hS ?_
                          refine wpAnyH_take (i := 27) (v := (undef)) rfl (by kernel_rfl) (by kernel_rfl) (by kernel_rfl) (fun _ _ _ h => h) (Or.inr ⟨by kernel_rfl, rfl⟩) hS ?_
                          refine wpAnyH_take (i := 28) (v := (undef)) rfl (by kernel_rfl) (by kernel_rfl) (by kernel_rfl) (fun _ _ _ h => h) (Or.inr ⟨by kernel_rfl, rfl⟩) hS ?_
                          refine wpAnyH_take (i := 29) (v := (undef)) rfl (by kernel_rfl) (by kernel_rfl) (by kernel_rfl) (fun _ _ _ h => h) (Or.inr ⟨by kernel_rfl, rfl⟩) hS ?_
                          refine wpAnyH_take (i := 30) (v := (undef)) rfl (by kernel_rfl) (by kernel_rfl) (by kernel_rfl) (fun _ _ _ h => h) (Or.inr ⟨by kernel_rfl, rfl⟩) hS ?_
                          refine wpAnyH_take (i := 31) (v := (.bool true)) rfl (by kernel_rfl) (by kernel_rfl) (by kernel_rfl) (fun _ _ _ h => h) (Or.inl ⟨by kernel_rfl, fun w' hS' => by go_simp⟩) hS ?_
                          refine wpAnyH_take (i := 32) (v := (.bool true)) rfl (by kernel_rfl) (by kernel_rfl) (by kernel_rfl) (fun _ _ _ h => h) (Or.inl ⟨by kernel_rfl, fun w' hS' => by go_simp⟩) hS ?_
                          refine wpAnyH_take (i := 33) (v := (undef)) rfl (by kernel_rfl) (by kernel_rfl) (by kernel_rfl) (fun _ _ _ h => h) (Or.inr ⟨by kernel_rfl, rfl⟩) hS ?_
                          refine wpAnyH_take (i := 34) (v := (undef)) rfl (by kernel_rfl) (by kernel_rfl) (by kernel_rfl) (fun _ _ _ h => h) (Or.inr ⟨by kernel_rfl, rfl⟩) hS ?_
                          refine wpAnyH_take (i := 35) (v := (undef)) rfl (by kernel_rfl) (by kernel_rfl) (by kernel_rfl) (fun _ _ _ h => h) (Or.inr ⟨by kernel_rfl, rfl⟩) hS ?_
                          refine wpAnyH_take (i := 36) (v := (undef)) rfl (by kernel_rfl) (by kernel_rfl) (by kernel_rfl) (fun _ _ _ h => h) (Or.inr ⟨by kernel_rfl, rfl⟩) hS ?_
                          refine wpAnyH_take (i := 37) (v := (undef)) rfl (by kernel_rfl) (by kernel_rfl) (by kernel_rfl) (fun _ _ _ h => h) (Or.inr ⟨by kernel_rfl, rfl⟩) hS ?_
                          refine wpAnyH_take (i := 38) (v := (undef)) rfl (by kernel_rfl) (by kernel_rfl) (by kernel_rfl) (fun _ _ _ h => h) (Or.inr ⟨by kernel_rfl, rfl⟩) hS ?_
                          refine wpAnyH_take (i := 39) (v := (undef)) rfl (by kernel_rfl) (by kernel_rfl) (by kernel_rfl) (fun _ _ _ h => h) (Or.inr ⟨by kernel_rfl, rfl⟩) hS ?_
                          refine wpAnyH_take (i := 40) (v := (.bool true)) rfl (by kernel_rfl) (by kernel_rfl) (by kernel_rfl) (fun _ _ _ h => h) (Or.inl ⟨by kernel_rfl, fun w' hS' => by go_simp⟩) hS ?_
                          refine wpAnyH_take (i := 41) (v := (.bool true)) rfl (by kernel_rfl) (by kernel_rfl) (by kernel_rfl) (fun _ _ _ h => h) (Or.inl ⟨by kernel_rfl, fun w' hS' => by go_simp⟩) hS ?_
                          refine wpAnyH_take (i := 42) (v := (undef)) rfl (by kernel_rfl) (by kernel_rfl) (by kernel_rfl) (fun _ _ _ h => h) (Or.inr ⟨by kernel_rfl, rfl⟩) hS ?_
                          refine wpAnyH_take (i := 43) (v := (undef)) rfl (by kernel_rfl) (by kernel_rfl) (by kernel_rfl) (fun _ _ _ h => h) (Or.inr ⟨by kernel_rfl, rfl⟩) hS ?_
                          refine wpAnyH_take (i := 44) (v := (undef)) rfl (by kernel_rfl) (by kernel_rfl) (by kernel_rfl) (fun _ _ _ h => h) (Or.inr ⟨by kernel_rfl, rfl⟩) hS ?_
                          refine wpAnyH_take (i := 45) (v := (undef)) rfl (by kernel_rfl) (by kernel_rfl) (by kernel_rfl) (fun _ _ _ h => h) (Or.inr ⟨by kernel_rfl, rfl⟩) hS ?_
                          refine wpAnyH_take (i := 46) (v := (undef)) rfl (by kernel_rfl) (by kernel_rfl) (by kernel_rfl) (fun _ _ _ h => h) (Or.inr ⟨by kernel_rfl, rfl⟩) hS ?_
                          refine wpAnyH_take (i := 47) (v := (undef)) rfl (by kernel_rfl) (by kernel_rfl) (by kernel_rfl) (fun _ _ _ h => h) (Or.inr ⟨by kernel_rfl, rfl⟩) hS ?_
                          refine wpAnyH_take (i := 48) (v := (undef)) rfl (by kernel_rfl) (by kernel_rfl) (by kernel_rfl) (fun _ _ _ h => h) (Or.inr ⟨by kernel_rfl, rfl⟩) hS ?_
                          refine wpAnyH_take (i := 49) (v := (undef)) rfl (by kernel_rfl) (by kernel_rfl) (by kernel_rfl) (fun _ _ _ h => h) (Or.inr ⟨by kernel_rfl, rfl⟩) hS ?_
                          refine wpAnyH_take (i := 50) (v := (.bool true)) rfl (by kernel_rfl) (by kernel_rfl) (by kernel_rfl) (fun _ _ _ h => h) (Or.inl ⟨by kernel_rfl, fun w' hS' => by go_simp⟩) hS ?_
                          refine wpAnyH_done (by kernel_rfl) ?_ _
                          go_simp
                          first | (rename_i hnext; refine hnext _ _ ?_; clear hnext) | (rename_i hnext _; refine hnext _ _ ?_; clear hnext) | (rename_i hnext _ _; refine hnext _ _ ?_; clear hnext) | (rename_i hnext _ _ _; refine hnext _ _ ?_; clear hnext) | (rename_i hnext _ _ _ _; refine hnext _ _ ?_; clear hnext) | (rename_i hnext _ _ _ _ _; refine hnext _ _ ?_; clear hnext) | (rename_i hnext _ _ _ _ _ _; refine hnext _ _ ?_; clear hnext) | (rename_i hnext _ _ _ _ _ _ _; refine hnext _ _ ?_; clear hnext) | (rename_i hnext _ _ _ _ _ _ _ _; refine hnext _ _ ?_; clear hnext) | (rename_i hnext _ _ _ _ _ _ _ _ _; refine hnext _ _ ?_; clear hnext) | (rename_i hnext _ _ _ _ _ _ _ _ _ _; refine hnext _ _ ?_; clear hnext) | (rename_i hnext _ _ _ _ _ _ _ _ _ _ _; refine hnext _ _ ?_; clear hnext) | (rename_i hnext _ _ _ _ _ _ _ _ _ _ _ _; refine hnext _ _ ?_; clear hnext) | (rename_i hnext _ _ _ _ _ _ _ _ _ _ _ _ _; refine hnext _ _ ?_; clear hnext) | (rename_i hnext _ _ _ _ _ _ _ _ _ _ _ _ _ _; refine hnext _ _ ?_; clear hnext) | (rename_i hnext _ _ _ _ _ _ _ _ _ _ _ _ _ _ _; refine hnext _ _ ?_; clear hnext) | (rename_i hnext _ _ _ _ _ _ _ _ _ _ _ _ _ _ _ _; refine hnext _ _ ?_; clear hnext) | (rename_i hnext _ _ _ _ _ _ _ _ _ _ _ _ _ _ _ _ _; refine hnext _ _ ?_; clear hnext) | (rename_i hnext _ _ _ _ _ _ _ _ _ _ _ _ _ _ _ _ _ _; refine hnext _ _ ?_; clear hnext) | (rename_i hnext _ _ _ _ _ _ _ _ _ _ _ _ _ _ _ _ _ _ _; refine hnext _ _ ?_; clear hnext)
                          go_wp2
                          go_ret
                          exact ⟨ret_bool (by rw [HBB.out]; exact (check_bad HG.out HU.out HP.out HY.out HNN0.out (by unfold useOk; rw [HFL.out]; have := HC3.out; simp [this])).symm), below_draws HB6.out 1⟩
                        · have e3 : decide (u.qty < 1) = false := decide_eq_false c3
                          cases hsb : servesB x y with
                          | false =>
                            have HSB := Lib.hid hsb
                            clear hsb hup
                            go_wp2_with fail
                            refine wp_region_held_drew (S := fun w' => UseAt w' bu u ∧ Six w' (ad1.add (m * 6)) x ∧ RowW w' (ad2.add (p * 3)) y ∧ w'.cell? ⟨g2, m, none⟩ = some (.int .i64 (q x.id)) ∧ w'.cell? ⟨g, p, none⟩ = some (.int .i64 n)) (by kernel_rfl) (HFULL.out w6.drew (Below.refl _ _).drew) (fun hS => ?_)
                            refine wpAnyH_take (i := 0) (v := (.int .i64 (m : Int))) rfl (by kernel_rfl) (by kernel_rfl) (by kernel_rfl) (fun _ _ _ h => h) (Or.inl ⟨by kernel_rfl, fun w' hS' => by go_simp⟩) hS ?_
                            refine wpAnyH_take (i := 1) (v := (.bool false)) rfl (by kernel_rfl) (by kernel_rfl) (by kernel_rfl) (fun _ _ _ h => h) (Or.inl ⟨by kernel_rfl, fun w' hS' => by go_simp⟩) hS ?_
                            refine wpAnyH_take (i := 2) (v := (.bool false)) rfl (by kernel_rfl) (by kernel_rfl) (by kernel_rfl) (fun _ _ _ h => h) (Or.inl ⟨by kernel_rfl, fun w' hS' => by go_simp⟩) hS ?_
                            refine wpAnyH_take (i := 3) (v := (.pointer (some ⟨bu, 0, none⟩))) rfl (by kernel_rfl) (by kernel_rfl) (by kernel_rfl) (fun _ _ _ h => h) (Or.inl ⟨by kernel_rfl, fun w' hS' => by go_simp⟩) hS ?_
                            refine wpAnyH_take (i := 4) (v := (.int .i64 (p : Int))) rfl (by kernel_rfl) (by kernel_rfl) (by kernel_rfl) (fun _ _ _ h => h) (Or.inl ⟨by kernel_rfl, fun w' hS' => by obtain ⟨⟨d0, d1, d2⟩, ⟨s0, s1, s2, s3, s4, s5⟩, ⟨y0, y1, y2⟩, dl, dn⟩ := hS'; go_simp; try exact HP.out⟩) hS ?_
                            refine wpAnyH_take (i := 5) (v := (.bool false)) rfl (by kernel_rfl) (by kernel_rfl) (by kernel_rfl) (fun _ _ _ h => h) (Or.inl ⟨by kernel_rfl, fun w' hS' => by go_simp⟩) hS ?_
                            refine wpAnyH_take (i := 6) (v := (.bool false)) rfl (by kernel_rfl) (by kernel_rfl) (by kernel_rfl) (fun _ _ _ h => h) (Or.inl ⟨by kernel_rfl, fun w' hS' => by go_simp⟩) hS ?_
                            refine wpAnyH_take (i := 7) (v := (.bool false)) rfl (by kernel_rfl) (by kernel_rfl) (by kernel_rfl) (fun _ _ _ h => h) (Or.inl ⟨by kernel_rfl, fun w' hS' => by go_simp⟩) hS ?_
                            refine wpAnyH_take (i := 8) (v := (.pointer (some ⟨bu, 0, none⟩))) rfl (by kernel_rfl) (by kernel_rfl) (by kernel_rfl) (fun _ _ _ h => h) (Or.inl ⟨by kernel_rfl, fun w' hS' => by go_simp⟩) hS ?_
                            refine wpAnyH_take (i := 9) (v := (.int .i64 (p : Int))) rfl (by kernel_rfl) (by kernel_rfl) (by kernel_rfl) (fun _ _ _ h => h) (Or.inl ⟨by kernel_rfl, fun w' hS' => by obtain ⟨⟨d0, d1, d2⟩, ⟨s0, s1, s2, s3, s4, s5⟩, ⟨y0, y1, y2⟩, dl, dn⟩ := hS'; go_simp; try exact HP.out⟩) hS ?_
                            refine wpAnyH_take (i := 10) (v := (.slice (some ad2) ws.length c2)) rfl (by kernel_rfl) (by kernel_rfl) (by kernel_rfl) (fun _ _ _ h => h) (Or.inl ⟨by kernel_rfl, fun w' hS' => by go_simp⟩) hS ?_
                            refine wpAnyH_take (i := 11) (v := (.int .i64 (ws.length : Int))) rfl (by kernel_rfl) (by kernel_rfl) (by kernel_rfl) (fun _ _ _ h => h) (Or.inl ⟨by kernel_rfl, fun w' hS' => by go_simp⟩) hS ?_
                            refine wpAnyH_take (i := 12) (v := (.bool false)) rfl (by kernel_rfl) (by kernel_rfl) (by kernel_rfl) (fun _ _ _ h => h) (Or.inl ⟨by kernel_rfl, fun w' hS' => by go_simp⟩) hS ?_
                            refine wpAnyH_take (i := 13) (v := (.bool false)) rfl (by kernel_rfl) (by kernel_rfl) (by kernel_rfl) (fun _ _ _ h => h) (Or.inl ⟨by kernel_rfl, fun w' hS' => by go_simp⟩) hS ?_
                            refine wpAnyH_take (i := 14) (v := (.bool false)) rfl (by kernel_rfl) (by kernel_rfl) (by kernel_rfl) (fun _ _ _ h => h) (Or.inl ⟨by kernel_rfl, fun w' hS' => by go_simp⟩) hS ?_
                            refine wpAnyH_take (i := 15) (v := (.pointer (some ⟨bu, 2, none⟩))) rfl (by kernel_rfl) (by kernel_rfl) (by kernel_rfl) (fun _ _ _ h => h) (Or.inl ⟨by kernel_rfl, fun w' hS' => by go_simp⟩) hS ?_
                            refine wpAnyH_take (i := 16) (v := (.int .i64 u.qty)) rfl (by kernel_rfl) (by kernel_rfl) (by kernel_rfl) (fun _ _ _ h => h) (Or.inl ⟨by kernel_rfl, fun w' hS' => by obtain ⟨⟨d0, d1, d2⟩, ⟨s0, s1, s2, s3, s4, s5⟩, ⟨y0, y1, y2⟩, dl, dn⟩ := hS'; go_simp; try exact HP.out⟩) hS ?_
                            refine wpAnyH_take (i := 17) (v := (.bool false)) rfl (by kernel_rfl) (by kernel_rfl) (by kernel_rfl) (fun _ _ _ h => h) (Or.inl ⟨by kernel_rfl, fun w' hS' => by go_simp⟩) hS ?_
                            refine wpAnyH_take (i := 18) (v := (.bool false)) rfl (by kernel_rfl) (by kernel_rfl) (by kernel_rfl) (fun _ _ _ h => h) (Or.inl ⟨by kernel_rfl, fun w' hS' => by go_simp⟩) hS ?_
                            refine wpAnyH_take (i := 19) (v := (.bool false)) rfl (by kernel_rfl) (by kernel_rfl) (by kernel_rfl) (fun _ _ _ h => h) (Or.inl ⟨by kernel_rfl, fun w' hS' => by go_simp⟩) hS ?_
                            refine wpAnyH_take (i := 20) (v := (.slice (some ad1) l.length c)) rfl (by kernel_rfl) (by kernel_rfl) (by kernel_rfl) (fun _ _ _ h => h) (Or.inl ⟨by kernel_rfl, fun w' hS' => by go_simp⟩) hS ?_
                            refine wpAnyH_take (i := 21) (v := (.int .i64 (m : Int))) rfl (by kernel_rfl) (by kernel_rfl) (by kernel_rfl) (fun _ _ _ h => h) (Or.inl ⟨by kernel_rfl, fun w' hS' => by go_simp⟩) hS ?_
                            refine wpAnyH_take (i := 22) (v := (.pointer (some (ad1.add (m * 6))))) rfl (by kernel_rfl) (by kernel_rfl) (by kernel_rfl) (fun _ _ _ h => h) (Or.inl ⟨by kernel_rfl, fun w' hS' => by go_simp⟩) hS ?_
                            refine wpAnyH_take (i := 23) (v := (.agg #[.int .i64 x.id, .string ⟨x.item.toArray⟩, .int .i64 x.fr, .int .i64 x.un, .int .i64 x.qty, .bool x.arr])) rfl (by kernel_rfl) (by kernel_rfl) (by kernel_rfl) (fun _ _ _ h => h) (Or.inl ⟨by kernel_rfl, fun w' hS' => by obtain ⟨⟨d0, d1, d2⟩, ⟨s0, s1, s2, s3, s4, s5⟩, ⟨y0, y1, y2⟩, dl, dn⟩ := hS'; go_simp; try exact HP.out⟩) hS ?_
                            refine wpAnyH_take (i := 24) (v := (.slice (some ad2) ws.length c2)) rfl (by kernel_rfl) (by kernel_rfl) (by kernel_rfl) (fun _ _ _ h => h) (Or.inl ⟨by kernel_rfl, fun w' hS' => by go_simp⟩) hS ?_
                            refine wpAnyH_take (i := 25) (v := (.pointer (some ⟨bu, 0, none⟩))) rfl (by kernel_rfl) (by kernel_rfl) (by kernel_rfl) (fun _ _ _ h => h) (Or.inl ⟨by kernel_rfl, fun w' hS' => by go_simp⟩) hS ?_
                            refine wpAnyH_take (i := 26) (v := (.int .i64 (p : Int))) rfl (by kernel_rfl) (by kernel_rfl) (by kernel_rfl) (fun _ _ _ h => h) (Or.inl ⟨by kernel_rfl, fun w' hS' => by obtain ⟨⟨d0, d1, d2⟩, ⟨s0, s1, s2, s3, s4, s5⟩, ⟨y0, y1, y2⟩, dl, dn⟩ := hS'; go_simp; try exact HP.out⟩) hS ?_
                            refine wpAnyH_take (i := 27) (v := (.pointer (some (ad2.add (p * 3))))) rfl (by kernel_rfl) (by kernel_rfl) (by kernel_rfl) (fun _ _ _ h => h) (Or.inl ⟨by kernel_rfl, fun w' hS' => by go_simp⟩) hS ?_
                            refine wpAnyH_take (i := 28) (v := (.agg #[.string ⟨y.item.toArray⟩, .int .i64 y.day, .int .i64 y.qty])) rfl (by kernel_rfl) (by kernel_rfl) (by kernel_rfl) (fun _ _ _ h => h) (Or.inl ⟨by kernel_rfl, fun w' hS' => by obtain ⟨⟨d0, d1, d2⟩, ⟨s0, s1, s2, s3, s4, s5⟩, ⟨y0, y1, y2⟩, dl, dn⟩ := hS'; go_simp; try exact HP.out⟩) hS ?_
                            refine wpAnyH_ready (rs := [29]) (by kernel_rfl) (by simp) ?_
                            refine AllReadyH.cons rfl (fun K hK => ?_) AllReadyH.nil
                            go_simp
                            refine (rserves_b false x y _ HSB.out).mono ?_
                            rintro e w9 ⟨rfl, hb9'⟩
                            have hb9 := Lib.hid hb9'
                            clear hb9'
                            refine hK.out _ _ (HFULL.out w9 ((Below.refl w6.heap.size w6).drew.trans hb9.out)) (fun hS => ?_)
                            clear hK K
                            refine wpAnyH_take (i := 30) (v := (.bool true)) rfl (by kernel_rfl) (by kernel_rfl) (by kernel_rfl) (fun _ _ _ h => h) (Or.inl ⟨by kernel_rfl, fun w' hS' => by go_simp⟩) hS ?_
                            refine wpAnyH_take (i := 31) (v := (.bool true)) rfl (by kernel_rfl) (by kernel_rfl) (by kernel_rfl) (fun _ _ _ h => h) (Or.inl ⟨by kernel_rfl, fun w' hS' => by go_simp⟩) hS ?_
                            refine wpAnyH_take (i := 32) (v := (.bool true)) rfl (by kernel_rfl) (by kernel_rfl) (by kernel_rfl) (fun _ _ _ h => h) (Or.inl ⟨by kernel_rfl, fun w' hS' => by go_simp⟩) hS ?_
                            refine wpAnyH_take (i := 33) (v := (undef)) rfl (by kernel_rfl) (by kernel_rfl) (by kernel_rfl) (fun _ _ _ h => h) (Or.inr ⟨by kernel_rfl, rfl⟩) hS ?_
                            refine wpAnyH_take (i := 34) (v := (undef)) rfl (by kernel_rfl) (by kernel_rfl) (by kernel_rfl) (fun _ _ _ h => h) (Or.inr ⟨by kernel_rfl, rfl⟩) hS ?_
                            refine wpAnyH_take (i := 35) (v := (undef)) rfl (by kernel_rfl) (by kernel_rfl) (by kernel_rfl) (fun _ _ _ h => h) (Or.inr ⟨by kernel_rfl, rfl⟩) hS ?_
                            refine wpAnyH_take (i := 36) (v := (undef)) rfl (by kernel_rfl) (by kernel_rfl) (by kernel_rfl) (fun _ _ _ h => h) (Or.inr ⟨by kernel_rfl, rfl⟩) hS ?_
                            refine wpAnyH_take (i := 37) (v := (undef)) rfl (by kernel_rfl) (by kernel_rfl) (by kernel_rfl) (fun _ _ _ h => h) (Or.inr ⟨by kernel_rfl, rfl⟩) hS ?_
                            refine wpAnyH_take (i := 38) (v := (undef)) rfl (by kernel_rfl) (by kernel_rfl) (by kernel_rfl) (fun _ _ _ h => h) (Or.inr ⟨by kernel_rfl, rfl⟩) hS ?_
                            refine wpAnyH_take (i := 39) (v := (undef)) rfl (by kernel_rfl) (by kernel_rfl) (by kernel_rfl) (fun _ _ _ h => h) (Or.inr ⟨by kernel_rfl, rfl⟩) hS ?_
                            refine wpAnyH_take (i := 40) (v := (.bool true)) rfl (by kernel_rfl) (by kernel_rfl) (by kernel_rfl) (fun _ _ _ h => h) (Or.inl ⟨by kernel_rfl, fun w' hS' => by go_simp⟩) hS ?_
                            refine wpAnyH_take (i := 41) (v := (.bool true)) rfl (by kernel_rfl) (by kernel_rfl) (by kernel_rfl) (fun _ _ _ h => h) (Or.inl ⟨by kernel_rfl, fun w' hS' => by go_simp⟩) hS ?_
                            refine wpAnyH_take (i := 42) (v := (undef)) rfl (by kernel_rfl) (by kernel_rfl) (by kernel_rfl) (fun _ _ _ h => h) (Or.inr ⟨by kernel_rfl, rfl⟩) hS ?_
                            refine wpAnyH_take (i := 43) (v := (undef)) rfl (by kernel_rfl) (by kernel_rfl) (by kernel_rfl) (fun _ _ _ h => h) (Or.inr ⟨by kernel_rfl, rfl⟩) hS ?_
                            refine wpAnyH_take (i := 44) (v := (undef)) rfl (by kernel_rfl) (by kernel_rfl) (by kernel_rfl) (fun _ _ _ h => h) (Or.inr ⟨by kernel_rfl, rfl⟩) hS ?_
                            refine wpAnyH_take (i := 45) (v := (undef)) rfl (by kernel_rfl) (by kernel_rfl) (by kernel_rfl) (fun _ _ _ h => h) (Or.inr ⟨by kernel_rfl, rfl⟩) hS ?_
                            refine wpAnyH_take (i := 46) (v := (undef)) rfl (by kernel_rfl) (by kernel_rfl) (by kernel_rfl) (fun _ _ _ h => h) (Or.inr ⟨by kernel_rfl, rfl⟩) hS ?_
                            refine wpAnyH_take (i := 47) (v := (undef)) rfl (by kernel_rfl) (by kernel_rfl) (by kernel_rfl) (fun _ _ _ h => h) (Or.inr ⟨by kernel_rfl, rfl⟩) hS ?_
                            refine wpAnyH_take (i := 48) (v := (undef)) rfl (by kernel_rfl) (by kernel_rfl) (by kernel_rfl) (fun _ _ _ h => h) (Or.inr ⟨by kernel_rfl, rfl⟩) hS ?_
                            refine wpAnyH_take (i := 49) (v := (undef)) rfl (by kernel_rfl) (by kernel_rfl) (by kernel_rfl) (fun _ _ _ h => h) (Or.inr ⟨by kernel_rfl, rfl⟩) hS ?_
                            refine wpAnyH_take (i := 50) (v := (.bool true)) rfl (by kernel_rfl) (by kernel_rfl) (by kernel_rfl) (fun _ _ _ h => h) (Or.inl ⟨by kernel_rfl, fun w' hS' => by go_simp⟩) hS ?_
                            refine wpAnyH_done (by kernel_rfl) ?_ _
                            go_simp
                            first | (rename_i hnext; refine hnext _ _ ?_; clear hnext) | (rename_i hnext _; refine hnext _ _ ?_; clear hnext) | (rename_i hnext _ _; refine hnext _ _ ?_; clear hnext) | (rename_i hnext _ _ _; refine hnext _ _ ?_; clear hnext) | (rename_i hnext _ _ _ _; refine hnext _ _ ?_; clear hnext) | (rename_i hnext _ _ _ _ _; refine hnext _ _ ?_; clear hnext) | (rename_i hnext _ _ _ _ _ _; refine hnext _ _ ?_; clear hnext) | (rename_i hnext _ _ _ _ _ _ _; refine hnext _ _ ?_; clear hnext) | (rename_i hnext _ _ _ _ _ _ _ _; refine hnext _ _ ?_; clear hnext) | (rename_i hnext _ _ _ _ _ _ _ _ _; refine hnext _ _ ?_; clear hnext) | (rename_i hnext _ _ _ _ _ _ _ _ _ _; refine hnext _ _ ?_; clear hnext) | (rename_i hnext _ _ _ _ _ _ _ _ _ _ _; refine hnext _ _ ?_; clear hnext) | (rename_i hnext _ _ _ _ _ _ _ _ _ _ _ _; refine hnext _ _ ?_; clear hnext) | (rename_i hnext _ _ _ _ _ _ _ _ _ _ _ _ _; refine hnext _ _ ?_; clear hnext) | (rename_i hnext _ _ _ _ _ _ _ _ _ _ _ _ _ _; refine hnext _ _ ?_; clear hnext) | (rename_i hnext _ _ _ _ _ _ _ _ _ _ _ _ _ _ _; refine hnext _ _ ?_; clear hnext) | (rename_i hnext _ _ _ _ _ _ _ _ _ _ _ _ _ _ _ _; refine hnext _ _ ?_; clear hnext) | (rename_i hnext _ _ _ _ _ _ _ _ _ _ _ _ _ _ _ _ _; refine hnext _ _ ?_; clear hnext) | (rename_i hnext _ _ _ _ _ _ _ _ _ _ _ _ _ _ _ _ _ _; refine hnext _ _ ?_; clear hnext) | (rename_i hnext _ _ _ _ _ _ _ _ _ _ _ _ _ _ _ _ _ _ _; refine hnext _ _ ?_; clear hnext)
                            go_wp2
                            go_ret
                            exact ⟨ret_bool (by rw [HBB.out]; exact (check_bad HG.out HU.out HP.out HY.out HNN0.out (by unfold useOk; rw [HFL.out]; rw [HSB.out]; rfl)).symm), HB6.out.drew.trans (hb9.out.mono HB6.out.size)⟩
                          | true =>
                            have HSB := Lib.hid hsb
                            clear hsb
                            by_cases c5 : q x.id < u.qty
                            · have e5 : decide (q x.id < u.qty) = true := decide_eq_true c5
                              have HC5 := Lib.hid c5
                              clear c5 hup
                              go_wp2_with fail
                              refine wp_region_held_drew (S := fun w' => UseAt w' bu u ∧ Six w' (ad1.add (m * 6)) x ∧ RowW w' (ad2.add (p * 3)) y ∧ w'.cell? ⟨g2, m, none⟩ = some (.int .i64 (q x.id)) ∧ w'.cell? ⟨g, p, none⟩ = some (.int .i64 n)) (by kernel_rfl) (HFULL.out w6.drew (Below.refl _ _).drew) (fun hS => ?_)
                              refine wpAnyH_take (i := 0) (v := (.int .i64 (m : Int))) rfl (by kernel_rfl) (by kernel_rfl) (by kernel_rfl) (fun _ _ _ h => h) (Or.inl ⟨by kernel_rfl, fun w' hS' => by go_simp⟩) hS ?_
                              refine wpAnyH_take (i := 1) (v := (.bool false)) rfl (by kernel_rfl) (by kernel_rfl) (by kernel_rfl) (fun _ _ _ h => h) (Or.inl ⟨by kernel_rfl, fun w' hS' => by go_simp⟩) hS ?_
                              refine wpAnyH_take (i := 2) (v := (.bool false)) rfl (by kernel_rfl) (by kernel_rfl) (by kernel_rfl) (fun _ _ _ h => h) (Or.inl ⟨by kernel_rfl, fun w' hS' => by go_simp⟩) hS ?_
                              refine wpAnyH_take (i := 3) (v := (.pointer (some ⟨bu, 0, none⟩))) rfl (by kernel_rfl) (by kernel_rfl) (by kernel_rfl) (fun _ _ _ h => h) (Or.inl ⟨by kernel_rfl, fun w' hS' => by go_simp⟩) hS ?_
                              refine wpAnyH_take (i := 4) (v := (.int .i64 (p : Int))) rfl (by kernel_rfl) (by kernel_rfl) (by kernel_rfl) (fun _ _ _ h => h) (Or.inl ⟨by kernel_rfl, fun w' hS' => by obtain ⟨⟨d0, d1, d2⟩, ⟨s0, s1, s2, s3, s4, s5⟩, ⟨y0, y1, y2⟩, dl, dn⟩ := hS'; go_simp; try exact HP.out⟩) hS ?_
                              refine wpAnyH_take (i := 5) (v := (.bool false)) rfl (by kernel_rfl) (by kernel_rfl) (by kernel_rfl) (fun _ _ _ h => h) (Or.inl ⟨by kernel_rfl, fun w' hS' => by go_simp⟩) hS ?_
                              refine wpAnyH_take (i := 6) (v := (.bool false)) rfl (by kernel_rfl) (by kernel_rfl) (by kernel_rfl) (fun _ _ _ h => h) (Or.inl ⟨by kernel_rfl, fun w' hS' => by go_simp⟩) hS ?_
                              refine wpAnyH_take (i := 7) (v := (.bool false)) rfl (by kernel_rfl) (by kernel_rfl) (by kernel_rfl) (fun _ _ _ h => h) (Or.inl ⟨by kernel_rfl, fun w' hS' => by go_simp⟩) hS ?_
                              refine wpAnyH_take (i := 8) (v := (.pointer (some ⟨bu, 0, none⟩))) rfl (by kernel_rfl) (by kernel_rfl) (by kernel_rfl) (fun _ _ _ h => h) (Or.inl ⟨by kernel_rfl, fun w' hS' => by go_simp⟩) hS ?_
                              refine wpAnyH_take (i := 9) (v := (.int .i64 (p : Int))) rfl (by kernel_rfl) (by kernel_rfl) (by kernel_rfl) (fun _ _ _ h => h) (Or.inl ⟨by kernel_rfl, fun w' hS' => by obtain ⟨⟨d0, d1, d2⟩, ⟨s0, s1, s2, s3, s4, s5⟩, ⟨y0, y1, y2⟩, dl, dn⟩ := hS'; go_simp; try exact HP.out⟩) hS ?_
                              refine wpAnyH_take (i := 10) (v := (.slice (some ad2) ws.length c2)) rfl (by kernel_rfl) (by kernel_rfl) (by kernel_rfl) (fun _ _ _ h => h) (Or.inl ⟨by kernel_rfl, fun w' hS' => by go_simp⟩) hS ?_
                              refine wpAnyH_take (i := 11) (v := (.int .i64 (ws.length : Int))) rfl (by kernel_rfl) (by kernel_rfl) (by kernel_rfl) (fun _ _ _ h => h) (Or.inl ⟨by kernel_rfl, fun w' hS' => by go_simp⟩) hS ?_
                              refine wpAnyH_take (i := 12) (v := (.bool false)) rfl (by kernel_rfl) (by kernel_rfl) (by kernel_rfl) (fun _ _ _ h => h) (Or.inl ⟨by kernel_rfl, fun w' hS' => by go_simp⟩) hS ?_
                              refine wpAnyH_take (i := 13) (v := (.bool false)) rfl (by kernel_rfl) (by kernel_rfl) (by kernel_rfl) (fun _ _ _ h => h) (Or.inl ⟨by kernel_rfl, fun w' hS' => by go_simp⟩) hS ?_
                              refine wpAnyH_take (i := 14) (v := (.bool false)) rfl (by kernel_rfl) (by kernel_rfl) (by kernel_rfl) (fun _ _ _ h => h) (Or.inl ⟨by kernel_rfl, fun w' hS' => by go_simp⟩) hS ?_
                              refine wpAnyH_take (i := 15) (v := (.pointer (some ⟨bu, 2, none⟩))) rfl (by kernel_rfl) (by kernel_rfl) (by kernel_rfl) (fun _ _ _ h => h) (Or.inl ⟨by kernel_rfl, fun w' hS' => by go_simp⟩) hS ?_
                              refine wpAnyH_take (i := 16) (v := (.int .i64 u.qty)) rfl (by kernel_rfl) (by kernel_rfl) (by kernel_rfl) (fun _ _ _ h => h) (Or.inl ⟨by kernel_rfl, fun w' hS' => by obtain ⟨⟨d0, d1, d2⟩, ⟨s0, s1, s2, s3, s4, s5⟩, ⟨y0, y1, y2⟩, dl, dn⟩ := hS'; go_simp; try exact HP.out⟩) hS ?_
                              refine wpAnyH_take (i := 17) (v := (.bool false)) rfl (by kernel_rfl) (by kernel_rfl) (by kernel_rfl) (fun _ _ _ h => h) (Or.inl ⟨by kernel_rfl, fun w' hS' => by go_simp⟩) hS ?_
                              refine wpAnyH_take (i := 18) (v := (.bool false)) rfl (by kernel_rfl) (by kernel_rfl) (by kernel_rfl) (fun _ _ _ h => h) (Or.inl ⟨by kernel_rfl, fun w' hS' => by go_simp⟩) hS ?_
                              refine wpAnyH_take (i := 19) (v := (.bool false)) rfl (by kernel_rfl) (by kernel_rfl) (by kernel_rfl) (fun _ _ _ h => h) (Or.inl ⟨by kernel_rfl, fun w' hS' => by go_simp⟩) hS ?_
                              refine wpAnyH_take (i := 20) (v := (.slice (some ad1) l.length c)) rfl (by kernel_rfl) (by kernel_rfl) (by kernel_rfl) (fun _ _ _ h => h) (Or.inl ⟨by kernel_rfl, fun w' hS' => by go_simp⟩) hS ?_
                              refine wpAnyH_take (i := 21) (v := (.int .i64 (m : Int))) rfl (by kernel_rfl) (by kernel_rfl) (by kernel_rfl) (fun _ _ _ h => h) (Or.inl ⟨by kernel_rfl, fun w' hS' => by go_simp⟩) hS ?_
                              refine wpAnyH_take (i := 22) (v := (.pointer (some (ad1.add (m * 6))))) rfl (by kernel_rfl) (by kernel_rfl) (by kernel_rfl) (fun _ _ _ h => h) (Or.inl ⟨by kernel_rfl, fun w' hS' => by go_simp⟩) hS ?_
                              refine wpAnyH_take (i := 23) (v := (.agg #[.int .i64 x.id, .string ⟨x.item.toArray⟩, .int .i64 x.fr, .int .i64 x.un, .int .i64 x.qty, .bool x.arr])) rfl (by kernel_rfl) (by kernel_rfl) (by kernel_rfl) (fun _ _ _ h => h) (Or.inl ⟨by kernel_rfl, fun w' hS' => by obtain ⟨⟨d0, d1, d2⟩, ⟨s0, s1, s2, s3, s4, s5⟩, ⟨y0, y1, y2⟩, dl, dn⟩ := hS'; go_simp; try exact HP.out⟩) hS ?_
                              refine wpAnyH_take (i := 24) (v := (.slice (some ad2) ws.length c2)) rfl (by kernel_rfl) (by kernel_rfl) (by kernel_rfl) (fun _ _ _ h => h) (Or.inl ⟨by kernel_rfl, fun w' hS' => by go_simp⟩) hS ?_
                              refine wpAnyH_take (i := 25) (v := (.pointer (some ⟨bu, 0, none⟩))) rfl (by kernel_rfl) (by kernel_rfl) (by kernel_rfl) (fun _ _ _ h => h) (Or.inl ⟨by kernel_rfl, fun w' hS' => by go_simp⟩) hS ?_
                              refine wpAnyH_take (i := 26) (v := (.int .i64 (p : Int))) rfl (by kernel_rfl) (by kernel_rfl) (by kernel_rfl) (fun _ _ _ h => h) (Or.inl ⟨by kernel_rfl, fun w' hS' => by obtain ⟨⟨d0, d1, d2⟩, ⟨s0, s1, s2, s3, s4, s5⟩, ⟨y0, y1, y2⟩, dl, dn⟩ := hS'; go_simp; try exact HP.out⟩) hS ?_
                              refine wpAnyH_take (i := 27) (v := (.pointer (some (ad2.add (p * 3))))) rfl (by kernel_rfl) (by kernel_rfl) (by kernel_rfl) (fun _ _ _ h => h) (Or.inl ⟨by kernel_rfl, fun w' hS' => by go_simp⟩) hS ?_
                              refine wpAnyH_take (i := 28) (v := (.agg #[.string ⟨y.item.toArray⟩, .int .i64 y.day, .int .i64 y.qty])) rfl (by kernel_rfl) (by kernel_rfl) (by kernel_rfl) (fun _ _ _ h => h) (Or.inl ⟨by kernel_rfl, fun w' hS' => by obtain ⟨⟨d0, d1, d2⟩, ⟨s0, s1, s2, s3, s4, s5⟩, ⟨y0, y1, y2⟩, dl, dn⟩ := hS'; go_simp; try exact HP.out⟩) hS ?_
                              refine wpAnyH_ready (rs := [29]) (by kernel_rfl) (by simp) ?_
                              refine AllReadyH.cons rfl (fun K hK => ?_) AllReadyH.nil
                              go_simp
                              refine (rserves_b true x y _ HSB.out).mono ?_
                              rintro e w9 ⟨rfl, hb9'⟩
                              have hb9 := Lib.hid hb9'
                              clear hb9'
                              refine hK.out _ _ (HFULL.out w9 ((Below.refl w6.heap.size w6).drew.trans hb9.out)) (fun hS => ?_)
                              clear hK K
                              refine wpAnyH_take (i := 30) (v := (.bool false)) rfl (by kernel_rfl) (by kernel_rfl) (by kernel_rfl) (fun _ _ _ h => h) (Or.inl ⟨by kernel_rfl, fun w' hS' => by go_simp⟩) hS ?_
                              refine wpAnyH_take (i := 31) (v := (.bool false)) rfl (by kernel_rfl) (by kernel_rfl) (by kernel_rfl) (fun _ _ _ h => h) (Or.inl ⟨by kernel_rfl, fun w' hS' => by go_simp⟩) hS ?_
                              refine wpAnyH_take (i := 32) (v := (.bool false)) rfl (by kernel_rfl) (by kernel_rfl) (by kernel_rfl) (fun _ _ _ h => h) (Or.inl ⟨by kernel_rfl, fun w' hS' => by go_simp⟩) hS ?_
                              refine wpAnyH_take (i := 33) (v := (.pointer (some ⟨bu, 2, none⟩))) rfl (by kernel_rfl) (by kernel_rfl) (by kernel_rfl) (fun _ _ _ h => h) (Or.inl ⟨by kernel_rfl, fun w' hS' => by go_simp⟩) hS ?_
                              refine wpAnyH_take (i := 34) (v := (.int .i64 u.qty)) rfl (by kernel_rfl) (by kernel_rfl) (by kernel_rfl) (fun _ _ _ h => h) (Or.inl ⟨by kernel_rfl, fun w' hS' => by obtain ⟨⟨d0, d1, d2⟩, ⟨s0, s1, s2, s3, s4, s5⟩, ⟨y0, y1, y2⟩, dl, dn⟩ := hS'; go_simp; try exact HP.out⟩) hS ?_
                              refine wpAnyH_take (i := 35) (v := (.slice (some ⟨g2, 0, none⟩) l.length l.length)) rfl (by kernel_rfl) (by kernel_rfl) (by kernel_rfl) (fun _ _ _ h => h) (Or.inl ⟨by kernel_rfl, fun w' hS' => by go_simp⟩) hS ?_
                              refine wpAnyH_take (i := 36) (v := (.int .i64 (m : Int))) rfl (by kernel_rfl) (by kernel_rfl) (by kernel_rfl) (fun _ _ _ h => h) (Or.inl ⟨by kernel_rfl, fun w' hS' => by go_simp⟩) hS ?_
                              refine wpAnyH_take (i := 37) (v := (.pointer (some ⟨g2, m, none⟩))) rfl (by kernel_rfl) (by kernel_rfl) (by kernel_rfl) (fun _ _ _ h => h) (Or.inl ⟨by kernel_rfl, fun w' hS' => by go_simp⟩) hS ?_
                              refine wpAnyH_take (i := 38) (v := (.int .i64 (q x.id))) rfl (by kernel_rfl) (by kernel_rfl) (by kernel_rfl) (fun _ _ _ h => h) (Or.inl ⟨by kernel_rfl, fun w' hS' => by obtain ⟨⟨d0, d1, d2⟩, ⟨s0, s1, s2, s3, s4, s5⟩, ⟨y0, y1, y2⟩, dl, dn⟩ := hS'; go_simp; try exact HP.out⟩) hS ?_
                              refine wpAnyH_take (i := 39) (v := (.bool true)) rfl (by kernel_rfl) (by kernel_rfl) (by kernel_rfl) (fun _ _ _ h => h) (Or.inl ⟨by kernel_rfl, fun w' hS' => by go_simp⟩) hS ?_
                              refine wpAnyH_take (i := 40) (v := (.bool true)) rfl (by kernel_rfl) (by kernel_rfl) (by kernel_rfl) (fun _ _ _ h => h) (Or.inl ⟨by kernel_rfl, fun w' hS' => by go_simp⟩) hS ?_
                              refine wpAnyH_take (i := 41) (v := (.bool true)) rfl (by kernel_rfl) (by kernel_rfl) (by kernel_rfl) (fun _ _ _ h => h) (Or.inl ⟨by kernel_rfl, fun w' hS' => by go_simp⟩) hS ?_
                              refine wpAnyH_take (i := 42) (v := (undef)) rfl (by kernel_rfl) (by kernel_rfl) (by kernel_rfl) (fun _ _ _ h => h) (Or.inr ⟨by kernel_rfl, rfl⟩) hS ?_
                              refine wpAnyH_take (i := 43) (v := (undef)) rfl (by kernel_rfl) (by kernel_rfl) (by kernel_rfl) (fun _ _ _ h => h) (Or.inr ⟨by kernel_rfl, rfl⟩) hS ?_
                              refine wpAnyH_take (i := 44) (v := (undef)) rfl (by kernel_rfl) (by kernel_rfl) (by kernel_rfl) (fun _ _ _ h => h) (Or.inr ⟨by kernel_rfl, rfl⟩) hS ?_
                              refine wpAnyH_take (i := 45) (v := (undef)) rfl (by kernel_rfl) (by kernel_rfl) (by kernel_rfl) (fun _ _ _ h => h) (Or.inr ⟨by kernel_rfl, rfl⟩) hS ?_
                              refine wpAnyH_take (i := 46) (v := (undef)) rfl (by kernel_rfl) (by kernel_rfl) (by kernel_rfl) (fun _ _ _ h => h) (Or.inr ⟨by kernel_rfl, rfl⟩) hS ?_
                              refine wpAnyH_take (i := 47) (v := (undef)) rfl (by kernel_rfl) (by kernel_rfl) (by kernel_rfl) (fun _ _ _ h => h) (Or.inr ⟨by kernel_rfl, rfl⟩) hS ?_
                              refine wpAnyH_take (i := 48) (v := (undef)) rfl (by kernel_rfl) (by kernel_rfl) (by kernel_rfl) (fun _ _ _ h => h) (Or.inr ⟨by kernel_rfl, rfl⟩) hS ?_
                              refine wpAnyH_take (i := 49) (v := (undef)) rfl (by kernel_rfl) (by kernel_rfl) (by kernel_rfl) (fun _ _ _ h => h) (Or.inr ⟨by kernel_rfl, rfl⟩) hS ?_
                              refine wpAnyH_take (i := 50) (v := (.bool true)) rfl (by kernel_rfl) (by kernel_rfl) (by kernel_rfl) (fun _ _ _ h => h) (Or.inl ⟨by kernel_rfl, fun w' hS' => by go_simp⟩) hS ?_
                              refine wpAnyH_done (by kernel_rfl) ?_ _
                              go_simp
                              first | (rename_i hnext; refine hnext _ _ ?_; clear hnext) | (rename_i hnext _; refine hnext _ _ ?_; clear hnext) | (rename_i hnext _ _; refine hnext _ _ ?_; clear hnext) | (rename_i hnext _ _ _; refine hnext _ _ ?_; clear hnext) | (rename_i hnext _ _ _ _; refine hnext _ _ ?_; clear hnext) | (rename_i hnext _ _ _ _ _; refine hnext _ _ ?_; clear hnext) | (rename_i hnext _ _ _ _ _ _; refine hnext _ _ ?_; clear hnext) | (rename_i hnext _ _ _ _ _ _ _; refine hnext _ _ ?_; clear hnext) | (rename_i hnext _ _ _ _ _ _ _ _; refine hnext _ _ ?_; clear hnext) | (rename_i hnext _ _ _ _ _ _ _ _ _; refine hnext _ _ ?_; clear hnext) | (rename_i hnext _ _ _ _ _ _ _ _ _ _; refine hnext _ _ ?_; clear hnext) | (rename_i hnext _ _ _ _ _ _ _ _ _ _ _; refine hnext _ _ ?_; clear hnext) | (rename_i hnext _ _ _ _ _ _ _ _ _ _ _ _; refine hnext _ _ ?_; clear hnext) | (rename_i hnext _ _ _ _ _ _ _ _ _ _ _ _ _; refine hnext _ _ ?_; clear hnext) | (rename_i hnext _ _ _ _ _ _ _ _ _ _ _ _ _ _; refine hnext _ _ ?_; clear hnext) | (rename_i hnext _ _ _ _ _ _ _ _ _ _ _ _ _ _ _; refine hnext _ _ ?_; clear hnext) | (rename_i hnext _ _ _ _ _ _ _ _ _ _ _ _ _ _ _ _; refine hnext _ _ ?_; clear hnext) | (rename_i hnext _ _ _ _ _ _ _ _ _ _ _ _ _ _ _ _ _; refine hnext _ _ ?_; clear hnext) | (rename_i hnext _ _ _ _ _ _ _ _ _ _ _ _ _ _ _ _ _ _; refine hnext _ _ ?_; clear hnext) | (rename_i hnext _ _ _ _ _ _ _ _ _ _ _ _ _ _ _ _ _ _ _; refine hnext _ _ ?_; clear hnext)
                              go_wp2
                              go_ret
                              exact ⟨ret_bool (by rw [HBB.out]; exact (check_bad HG.out HU.out HP.out HY.out HNN0.out (by unfold useOk; rw [HFL.out]; have := HC5.out; rw [← HID.out]; simp [this])).symm), HB6.out.drew.trans (hb9.out.mono HB6.out.size)⟩
                            · have e5 : decide (q x.id < u.qty) = false := decide_eq_false c5
                              by_cases c6 : n < u.qty
                              · have e6 : decide (n < u.qty) = true := decide_eq_true c6
                                have HC6 := Lib.hid c6
                                clear c6 hup
                                go_wp2_with fail
                                refine wp_region_held_drew (S := fun w' => UseAt w' bu u ∧ Six w' (ad1.add (m * 6)) x ∧ RowW w' (ad2.add (p * 3)) y ∧ w'.cell? ⟨g2, m, none⟩ = some (.int .i64 (q x.id)) ∧ w'.cell? ⟨g, p, none⟩ = some (.int .i64 n)) (by kernel_rfl) (HFULL.out w6.drew (Below.refl _ _).drew) (fun hS => ?_)
                                refine wpAnyH_take (i := 0) (v := (.int .i64 (m : Int))) rfl (by kernel_rfl) (by kernel_rfl) (by kernel_rfl) (fun _ _ _ h => h) (Or.inl ⟨by kernel_rfl, fun w' hS' => by go_simp⟩) hS ?_
                                refine wpAnyH_take (i := 1) (v := (.bool false)) rfl (by kernel_rfl) (by kernel_rfl) (by kernel_rfl) (fun _ _ _ h => h) (Or.inl ⟨by kernel_rfl, fun w' hS' => by go_simp⟩) hS ?_
                                refine wpAnyH_take (i := 2) (v := (.bool false)) rfl (by kernel_rfl) (by kernel_rfl) (by kernel_rfl) (fun _ _ _ h => h) (Or.inl ⟨by kernel_rfl, fun w' hS' => by go_simp⟩) hS ?_
                                refine wpAnyH_take (i := 3) (v := (.pointer (some ⟨bu, 0, none⟩))) rfl (by kernel_rfl) (by kernel_rfl) (by kernel_rfl) (fun _ _ _ h => h) (Or.inl ⟨by kernel_rfl, fun w' hS' => by go_simp⟩) hS ?_
                                refine wpAnyH_take (i := 4) (v := (.int .i64 (p : Int))) rfl (by kernel_rfl) (by kernel_rfl) (by kernel_rfl) (fun _ _ _ h => h) (Or.inl ⟨by kernel_rfl, fun w' hS' => by obtain ⟨⟨d0, d1, d2⟩, ⟨s0, s1, s2, s3, s4, s5⟩, ⟨y0, y1, y2⟩, dl, dn⟩ := hS'; go_simp; try exact HP.out⟩) hS ?_
                                refine wpAnyH_take (i := 5) (v := (.bool false)) rfl (by kernel_rfl) (by kernel_rfl) (by kernel_rfl) (fun _ _ _ h => h) (Or.inl ⟨by kernel_rfl, fun w' hS' => by go_simp⟩) hS ?_
                                refine wpAnyH_take (i := 6) (v := (.bool false)) rfl (by kernel_rfl) (by kernel_rfl) (by kernel_rfl) (fun _ _ _ h => h) (Or.inl ⟨by kernel_rfl, fun w' hS' => by go_simp⟩) hS ?_
                                refine wpAnyH_take (i := 7) (v := (.bool false)) rfl (by kernel_rfl) (by kernel_rfl) (by kernel_rfl) (fun _ _ _ h => h) (Or.inl ⟨by kernel_rfl, fun w' hS' => by go_simp⟩) hS ?_
                                refine wpAnyH_take (i := 8) (v := (.pointer (some ⟨bu, 0, none⟩))) rfl (by kernel_rfl) (by kernel_rfl) (by kernel_rfl) (fun _ _ _ h => h) (Or.inl ⟨by kernel_rfl, fun w' hS' => by go_simp⟩) hS ?_
                                refine wpAnyH_take (i := 9) (v := (.int .i64 (p : Int))) rfl (by kernel_rfl) (by kernel_rfl) (by kernel_rfl) (fun _ _ _ h => h) (Or.inl ⟨by kernel_rfl, fun w' hS' => by obtain ⟨⟨d0, d1, d2⟩, ⟨s0, s1, s2, s3, s4, s5⟩, ⟨y0, y1, y2⟩, dl, dn⟩ := hS'; go_simp; try exact HP.out⟩) hS ?_
                                refine wpAnyH_take (i := 10) (v := (.slice (some ad2) ws.length c2)) rfl (by kernel_rfl) (by kernel_rfl) (by kernel_rfl) (fun _ _ _ h => h) (Or.inl ⟨by kernel_rfl, fun w' hS' => by go_simp⟩) hS ?_
                                refine wpAnyH_take (i := 11) (v := (.int .i64 (ws.length : Int))) rfl (by kernel_rfl) (by kernel_rfl) (by kernel_rfl) (fun _ _ _ h => h) (Or.inl ⟨by kernel_rfl, fun w' hS' => by go_simp⟩) hS ?_
                                refine wpAnyH_take (i := 12) (v := (.bool false)) rfl (by kernel_rfl) (by kernel_rfl) (by kernel_rfl) (fun _ _ _ h => h) (Or.inl ⟨by kernel_rfl, fun w' hS' => by go_simp⟩) hS ?_
                                refine wpAnyH_take (i := 13) (v := (.bool false)) rfl (by kernel_rfl) (by kernel_rfl) (by kernel_rfl) (fun _ _ _ h => h) (Or.inl ⟨by kernel_rfl, fun w' hS' => by go_simp⟩) hS ?_
                                refine wpAnyH_take (i := 14) (v := (.bool false)) rfl (by kernel_rfl) (by kernel_rfl) (by kernel_rfl) (fun _ _ _ h => h) (Or.inl ⟨by kernel_rfl, fun w' hS' => by go_simp⟩) hS ?_
                                refine wpAnyH_take (i := 15) (v := (.pointer (some ⟨bu, 2, none⟩))) rfl (by kernel_rfl) (by kernel_rfl) (by kernel_rfl) (fun _ _ _ h => h) (Or.inl ⟨by kernel_rfl, fun w' hS' => by go_simp⟩) hS ?_
                                refine wpAnyH_take (i := 16) (v := (.int .i64 u.qty)) rfl (by kernel_rfl) (by kernel_rfl) (by kernel_rfl) (fun _ _ _ h => h) (Or.inl ⟨by kernel_rfl, fun w' hS' => by obtain ⟨⟨d0, d1, d2⟩, ⟨s0, s1, s2, s3, s4, s5⟩, ⟨y0, y1, y2⟩, dl, dn⟩ := hS'; go_simp; try exact HP.out⟩) hS ?_
                                refine wpAnyH_take (i := 17) (v := (.bool false)) rfl (by kernel_rfl) (by kernel_rfl) (by kernel_rfl) (fun _ _ _ h => h) (Or.inl ⟨by kernel_rfl, fun w' hS' => by go_simp⟩) hS ?_
                                refine wpAnyH_take (i := 18) (v := (.bool false)) rfl (by kernel_rfl) (by kernel_rfl) (by kernel_rfl) (fun _ _ _ h => h) (Or.inl ⟨by kernel_rfl, fun w' hS' => by go_simp⟩) hS ?_
                                refine wpAnyH_take (i := 19) (v := (.bool false)) rfl (by kernel_rfl) (by kernel_rfl) (by kernel_rfl) (fun _ _ _ h => h) (Or.inl ⟨by kernel_rfl, fun w' hS' => by go_simp⟩) hS ?_
                                refine wpAnyH_take (i := 20) (v := (.slice (some ad1) l.length c)) rfl (by kernel_rfl) (by kernel_rfl) (by kernel_rfl) (fun _ _ _ h => h) (Or.inl ⟨by kernel_rfl, fun w' hS' => by go_simp⟩) hS ?_
                                refine wpAnyH_take (i := 21) (v := (.int .i64 (m : Int))) rfl (by kernel_rfl) (by kernel_rfl) (by kernel_rfl) (fun _ _ _ h => h) (Or.inl ⟨by kernel_rfl, fun w' hS' => by go_simp⟩) hS ?_
                                refine wpAnyH_take (i := 22) (v := (.pointer (some (ad1.add (m * 6))))) rfl (by kernel_rfl) (by kernel_rfl) (by kernel_rfl) (fun _ _ _ h => h) (Or.inl ⟨by kernel_rfl, fun w' hS' => by go_simp⟩) hS ?_
                                refine wpAnyH_take (i := 23) (v := (.agg #[.int .i64 x.id, .string ⟨x.item.toArray⟩, .int .i64 x.fr, .int .i64 x.un, .int .i64 x.qty, .bool x.arr])) rfl (by kernel_rfl) (by kernel_rfl) (by kernel_rfl) (fun _ _ _ h => h) (Or.inl ⟨by kernel_rfl, fun w' hS' => by obtain ⟨⟨d0, d1, d2⟩, ⟨s0, s1, s2, s3, s4, s5⟩, ⟨y0, y1, y2⟩, dl, dn⟩ := hS'; go_simp; try exact HP.out⟩) hS ?_
                                refine wpAnyH_take (i := 24) (v := (.slice (some ad2) ws.length c2)) rfl (by kernel_rfl) (by kernel_rfl) (by kernel_rfl) (fun _ _ _ h => h) (Or.inl ⟨by kernel_rfl, fun w' hS' => by go_simp⟩) hS ?_
                                refine wpAnyH_take (i := 25) (v := (.pointer (some ⟨bu, 0, none⟩))) rfl (by kernel_rfl) (by kernel_rfl) (by kernel_rfl) (fun _ _ _ h => h) (Or.inl ⟨by kernel_rfl, fun w' hS' => by go_simp⟩) hS ?_
                                refine wpAnyH_take (i := 26) (v := (.int .i64 (p : Int))) rfl (by kernel_rfl) (by kernel_rfl) (by kernel_rfl) (fun _ _ _ h => h) (Or.inl ⟨by kernel_rfl, fun w' hS' => by obtain ⟨⟨d0, d1, d2⟩, ⟨s0, s1, s2, s3, s4, s5⟩, ⟨y0, y1, y2⟩, dl, dn⟩ := hS'; go_simp; try exact HP.out⟩) hS ?_
                                refine wpAnyH_take (i := 27) (v := (.pointer (some (ad2.add (p * 3))))) rfl (by kernel_rfl) (by kernel_rfl) (by kernel_rfl) (fun _ _ _ h => h) (Or.inl ⟨by kernel_rfl, fun w' hS' => by go_simp⟩) hS ?_
                                refine wpAnyH_take (i := 28) (v := (.agg #[.string ⟨y.item.toArray⟩, .int .i64 y.day, .int .i64 y.qty])) rfl (by kernel_rfl) (by kernel_rfl) (by kernel_rfl) (fun _ _ _ h => h) (Or.inl ⟨by kernel_rfl, fun w' hS' => by obtain ⟨⟨d0, d1, d2⟩, ⟨s0, s1, s2, s3, s4, s5⟩, ⟨y0, y1, y2⟩, dl, dn⟩ := hS'; go_simp; try exact HP.out⟩) hS ?_
                                refine wpAnyH_ready (rs := [29]) (by kernel_rfl) (by simp) ?_
                                refine AllReadyH.cons rfl (fun K hK => ?_) AllReadyH.nil
                                go_simp
                                refine (rserves_b true x y _ HSB.out).mono ?_
                                rintro e w9 ⟨rfl, hb9'⟩
                                have hb9 := Lib.hid hb9'
                                clear hb9'
                                refine hK.out _ _ (HFULL.out w9 ((Below.refl w6.heap.size w6).drew.trans hb9.out)) (fun hS => ?_)
                                clear hK K
                                refine wpAnyH_take (i := 30) (v := (.bool false)) rfl (by kernel_rfl) (by kernel_rfl) (by kernel_rfl) (fun _ _ _ h => h) (Or.inl ⟨by kernel_rfl, fun w' hS' => by go_simp⟩) hS ?_
                                refine wpAnyH_take (i := 31) (v := (.bool false)) rfl (by kernel_rfl) (by kernel_rfl) (by kernel_rfl) (fun _ _ _ h => h) (Or.inl ⟨by kernel_rfl, fun w' hS' => by go_simp⟩) hS ?_
                                refine wpAnyH_take (i := 32) (v := (.bool false)) rfl (by kernel_rfl) (by kernel_rfl) (by kernel_rfl) (fun _ _ _ h => h) (Or.inl ⟨by kernel_rfl, fun w' hS' => by go_simp⟩) hS ?_
                                refine wpAnyH_take (i := 33) (v := (.pointer (some ⟨bu, 2, none⟩))) rfl (by kernel_rfl) (by kernel_rfl) (by kernel_rfl) (fun _ _ _ h => h) (Or.inl ⟨by kernel_rfl, fun w' hS' => by go_simp⟩) hS ?_
                                refine wpAnyH_take (i := 34) (v := (.int .i64 u.qty)) rfl (by kernel_rfl) (by kernel_rfl) (by kernel_rfl) (fun _ _ _ h => h) (Or.inl ⟨by kernel_rfl, fun w' hS' => by obtain ⟨⟨d0, d1, d2⟩, ⟨s0, s1, s2, s3, s4, s5⟩, ⟨y0, y1, y2⟩, dl, dn⟩ := hS'; go_simp; try exact HP.out⟩) hS ?_
                                refine wpAnyH_take (i := 35) (v := (.slice (some ⟨g2, 0, none⟩) l.length l.length)) rfl (by kernel_rfl) (by kernel_rfl) (by kernel_rfl) (fun _ _ _ h => h) (Or.inl ⟨by kernel_rfl, fun w' hS' => by go_simp⟩) hS ?_
                                refine wpAnyH_take (i := 36) (v := (.int .i64 (m : Int))) rfl (by kernel_rfl) (by kernel_rfl) (by kernel_rfl) (fun _ _ _ h => h) (Or.inl ⟨by kernel_rfl, fun w' hS' => by go_simp⟩) hS ?_
                                refine wpAnyH_take (i := 37) (v := (.pointer (some ⟨g2, m, none⟩))) rfl (by kernel_rfl) (by kernel_rfl) (by kernel_rfl) (fun _ _ _ h => h) (Or.inl ⟨by kernel_rfl, fun w' hS' => by go_simp⟩) hS ?_
                                refine wpAnyH_take (i := 38) (v := (.int .i64 (q x.id))) rfl (by kernel_rfl) (by kernel_rfl) (by kernel_rfl) (fun _ _ _ h => h) (Or.inl ⟨by kernel_rfl, fun w' hS' => by obtain ⟨⟨d0, d1, d2⟩, ⟨s0, s1, s2, s3, s4, s5⟩, ⟨y0, y1, y2⟩, dl, dn⟩ := hS'; go_simp; try exact HP.out⟩) hS ?_
                                refine wpAnyH_take (i := 39) (v := (.bool false)) rfl (by kernel_rfl) (by kernel_rfl) (by kernel_rfl) (fun _ _ _ h => h) (Or.inl ⟨by kernel_rfl, fun w' hS' => by go_simp⟩) hS ?_
                                refine wpAnyH_take (i := 40) (v := (.bool false)) rfl (by kernel_rfl) (by kernel_rfl) (by kernel_rfl) (fun _ _ _ h => h) (Or.inl ⟨by kernel_rfl, fun w' hS' => by go_simp⟩) hS ?_
                                refine wpAnyH_take (i := 41) (v := (.bool false)) rfl (by kernel_rfl) (by kernel_rfl) (by kernel_rfl) (fun _ _ _ h => h) (Or.inl ⟨by kernel_rfl, fun w' hS' => by go_simp⟩) hS ?_
                                refine wpAnyH_take (i := 42) (v := (.pointer (some ⟨bu, 2, none⟩))) rfl (by kernel_rfl) (by kernel_rfl) (by kernel_rfl) (fun _ _ _ h => h) (Or.inl ⟨by kernel_rfl, fun w' hS' => by go_simp⟩) hS ?_
                                refine wpAnyH_take (i := 43) (v := (.int .i64 u.qty)) rfl (by kernel_rfl) (by kernel_rfl) (by kernel_rfl) (fun _ _ _ h => h) (Or.inl ⟨by kernel_rfl, fun w' hS' => by obtain ⟨⟨d0, d1, d2⟩, ⟨s0, s1, s2, s3, s4, s5⟩, ⟨y0, y1, y2⟩, dl, dn⟩ := hS'; go_simp; try exact HP.out⟩) hS ?_
                                refine wpAnyH_take (i := 44) (v := (.slice (some ⟨g, 0, none⟩) ws.length ws.length)) rfl (by kernel_rfl) (by kernel_rfl) (by kernel_rfl) (fun _ _ _ h => h) (Or.inl ⟨by kernel_rfl, fun w' hS' => by go_simp⟩) hS ?_
                                refine wpAnyH_take (i := 45) (v := (.pointer (some ⟨bu, 0, none⟩))) rfl (by kernel_rfl) (by kernel_rfl) (by kernel_rfl) (fun _ _ _ h => h) (Or.inl ⟨by kernel_rfl, fun w' hS' => by go_simp⟩) hS ?_
                                refine wpAnyH_take (i := 46) (v := (.int .i64 (p : Int))) rfl (by kernel_rfl) (by kernel_rfl) (by kernel_rfl) (fun _ _ _ h => h) (Or.inl ⟨by kernel_rfl, fun w' hS' => by obtain ⟨⟨d0, d1, d2⟩, ⟨s0, s1, s2, s3, s4, s5⟩, ⟨y0, y1, y2⟩, dl, dn⟩ := hS'; go_simp; try exact HP.out⟩) hS ?_
                                refine wpAnyH_take (i := 47) (v := (.pointer (some ⟨g, p, none⟩))) rfl (by kernel_rfl) (by kernel_rfl) (by kernel_rfl) (fun _ _ _ h => h) (Or.inl ⟨by kernel_rfl, fun w' hS' => by go_simp⟩) hS ?_
                                refine wpAnyH_take (i := 48) (v := (.int .i64 n)) rfl (by kernel_rfl) (by kernel_rfl) (by kernel_rfl) (fun _ _ _ h => h) (Or.inl ⟨by kernel_rfl, fun w' hS' => by obtain ⟨⟨d0, d1, d2⟩, ⟨s0, s1, s2, s3, s4, s5⟩, ⟨y0, y1, y2⟩, dl, dn⟩ := hS'; go_simp; try exact HP.out⟩) hS ?_
                                refine wpAnyH_take (i := 49) (v := (.bool true)) rfl (by kernel_rfl) (by kernel_rfl) (by kernel_rfl) (fun _ _ _ h => h) (Or.inl ⟨by kernel_rfl, fun w' hS' => by go_simp⟩) hS ?_
                                refine wpAnyH_take (i := 50) (v := (.bool true)) rfl (by kernel_rfl) (by kernel_rfl) (by kernel_rfl) (fun _ _ _ h => h) (Or.inl ⟨by kernel_rfl, fun w' hS' => by go_simp⟩) hS ?_
                                refine wpAnyH_done (by kernel_rfl) ?_ _
                                go_simp
                                first | (rename_i hnext; refine hnext _ _ ?_; clear hnext) | (rename_i hnext _; refine hnext _ _ ?_; clear hnext) | (rename_i hnext _ _; refine hnext _ _ ?_; clear hnext) | (rename_i hnext _ _ _; refine hnext _ _ ?_; clear hnext) | (rename_i hnext _ _ _ _; refine hnext _ _ ?_; clear hnext) | (rename_i hnext _ _ _ _ _; refine hnext _ _ ?_; clear hnext) | (rename_i hnext _ _ _ _ _ _; refine hnext _ _ ?_; clear hnext) | (rename_i hnext _ _ _ _ _ _ _; refine hnext _ _ ?_; clear hnext) | (rename_i hnext _ _ _ _ _ _ _ _; refine hnext _ _ ?_; clear hnext) | (rename_i hnext _ _ _ _ _ _ _ _ _; refine hnext _ _ ?_; clear hnext) | (rename_i hnext _ _ _ _ _ _ _ _ _ _; refine hnext _ _ ?_; clear hnext) | (rename_i hnext _ _ _ _ _ _ _ _ _ _ _; refine hnext _ _ ?_; clear hnext) | (rename_i hnext _ _ _ _ _ _ _ _ _ _ _ _; refine hnext _ _ ?_; clear hnext) | (rename_i hnext _ _ _ _ _ _ _ _ _ _ _ _ _; refine hnext _ _ ?_; clear hnext) | (rename_i hnext _ _ _ _ _ _ _ _ _ _ _ _ _ _; refine hnext _ _ ?_; clear hnext) | (rename_i hnext _ _ _ _ _ _ _ _ _ _ _ _ _ _ _; refine hnext _ _ ?_; clear hnext) | (rename_i hnext _ _ _ _ _ _ _ _ _ _ _ _ _ _ _ _; refine hnext _ _ ?_; clear hnext) | (rename_i hnext _ _ _ _ _ _ _ _ _ _ _ _ _ _ _ _ _; refine hnext _ _ ?_; clear hnext) | (rename_i hnext _ _ _ _ _ _ _ _ _ _ _ _ _ _ _ _ _ _; refine hnext _ _ ?_; clear hnext) | (rename_i hnext _ _ _ _ _ _ _ _ _ _ _ _ _ _ _ _ _ _ _; refine hnext _ _ ?_; clear hnext)
                                go_wp2
                                go_ret
                                exact ⟨ret_bool (by rw [HBB.out]; exact (check_bad HG.out HU.out HP.out HY.out HNN0.out (by unfold useOk; rw [HFL.out]; have := HC6.out; simp [this])).symm), HB6.out.drew.trans (hb9.out.mono HB6.out.size)⟩
                              · have e6 : decide (n < u.qty) = false := decide_eq_false c6
                                have HOK : Hid (1 ≤ u.qty ∧ u.qty ≤ q x.id ∧ u.qty ≤ n) := Lib.hid (by omega)
                                clear hup
                                go_wp2_with fail
                                refine wp_region_held_drew (S := fun w' => UseAt w' bu u ∧ Six w' (ad1.add (m * 6)) x ∧ RowW w' (ad2.add (p * 3)) y ∧ w'.cell? ⟨g2, m, none⟩ = some (.int .i64 (q x.id)) ∧ w'.cell? ⟨g, p, none⟩ = some (.int .i64 n)) (by kernel_rfl) (HFULL.out w6.drew (Below.refl _ _).drew) (fun hS => ?_)
                                refine wpAnyH_take (i := 0) (v := (.int .i64 (m : Int))) rfl (by kernel_rfl) (by kernel_rfl) (by kernel_rfl) (fun _ _ _ h => h) (Or.inl ⟨by kernel_rfl, fun w' hS' => by go_simp⟩) hS ?_
                                refine wpAnyH_take (i := 1) (v := (.bool false)) rfl (by kernel_rfl) (by kernel_rfl) (by kernel_rfl) (fun _ _ _ h => h) (Or.inl ⟨by kernel_rfl, fun w' hS' => by go_simp⟩) hS ?_
                                refine wpAnyH_take (i := 2) (v := (.bool false)) rfl (by kernel_rfl) (by kernel_rfl) (by kernel_rfl) (fun _ _ _ h => h) (Or.inl ⟨by kernel_rfl, fun w' hS' => by go_simp⟩) hS ?_
                                refine wpAnyH_take (i := 3) (v := (.pointer (some ⟨bu, 0, none⟩))) rfl (by kernel_rfl) (by kernel_rfl) (by kernel_rfl) (fun _ _ _ h => h) (Or.inl ⟨by kernel_rfl, fun w' hS' => by go_simp⟩) hS ?_
                                refine wpAnyH_take (i := 4) (v := (.int .i64 (p : Int))) rfl (by kernel_rfl) (by kernel_rfl) (by kernel_rfl) (fun _ _ _ h => h) (Or.inl ⟨by kernel_rfl, fun w' hS' => by obtain ⟨⟨d0, d1, d2⟩, ⟨s0, s1, s2, s3, s4, s5⟩, ⟨y0, y1, y2⟩, dl, dn⟩ := hS'; go_simp; try exact HP.out⟩) hS ?_
                                refine wpAnyH_take (i := 5) (v := (.bool false)) rfl (by kernel_rfl) (by kernel_rfl) (by kernel_rfl) (fun _ _ _ h => h) (Or.inl ⟨by kernel_rfl, fun w' hS' => by go_simp⟩) hS ?_
                                refine wpAnyH_take (i := 6) (v := (.bool false)) rfl (by kernel_rfl) (by kernel_rfl) (by kernel_rfl) (fun _ _ _ h => h) (Or.inl ⟨by kernel_rfl, fun w' hS' => by go_simp⟩) hS ?_
                                refine wpAnyH_take (i := 7) (v := (.bool false)) rfl (by kernel_rfl) (by kernel_rfl) (by kernel_rfl) (fun _ _ _ h => h) (Or.inl ⟨by kernel_rfl, fun w' hS' => by go_simp⟩) hS ?_
                                refine wpAnyH_take (i := 8) (v := (.pointer (some ⟨bu, 0, none⟩))) rfl (by kernel_rfl) (by kernel_rfl) (by kernel_rfl) (fun _ _ _ h => h) (Or.inl ⟨by kernel_rfl, fun w' hS' => by go_simp⟩) hS ?_
                                refine wpAnyH_take (i := 9) (v := (.int .i64 (p : Int))) rfl (by kernel_rfl) (by kernel_rfl) (by kernel_rfl) (fun _ _ _ h => h) (Or.inl ⟨by kernel_rfl, fun w' hS' => by obtain ⟨⟨d0, d1, d2⟩, ⟨s0, s1, s2, s3, s4, s5⟩, ⟨y0, y1, y2⟩, dl, dn⟩ := hS'; go_simp; try exact HP.out⟩) hS ?_
                                refine wpAnyH_take (i := 10) (v := (.slice (some ad2) ws.length c2)) rfl (by kernel_rfl) (by kernel_rfl) (by kernel_rfl) (fun _ _ _ h => h) (Or.inl ⟨by kernel_rfl, fun w' hS' => by go_simp⟩) hS ?_
                                refine wpAnyH_take (i := 11) (v := (.int .i64 (ws.length : Int))) rfl (by kernel_rfl) (by kernel_rfl) (by kernel_rfl) (fun _ _ _ h => h) (Or.inl ⟨by kernel_rfl, fun w' hS' => by go_simp⟩) hS ?_
                                refine wpAnyH_take (i := 12) (v := (.bool false)) rfl (by kernel_rfl) (by kernel_rfl) (by kernel_rfl) (fun _ _ _ h => h) (Or.inl ⟨by kernel_rfl, fun w' hS' => by go_simp⟩) hS ?_
                                refine wpAnyH_take (i := 13) (v := (.bool false)) rfl (by kernel_rfl) (by kernel_rfl) (by kernel_rfl) (fun _ _ _ h => h) (Or.inl ⟨by kernel_rfl, fun w' hS' => by go_simp⟩) hS ?_
                                refine wpAnyH_take (i := 14) (v := (.bool false)) rfl (by kernel_rfl) (by kernel_rfl) (by kernel_rfl) (fun _ _ _ h => h) (Or.inl ⟨by kernel_rfl, fun w' hS' => by go_simp⟩) hS ?_
                                refine wpAnyH_take (i := 15) (v := (.pointer (some ⟨bu, 2, none⟩))) rfl (by kernel_rfl) (by kernel_rfl) (by kernel_rfl) (fun _ _ _ h => h) (Or.inl ⟨by kernel_rfl, fun w' hS' => by go_simp⟩) hS ?_
                                refine wpAnyH_take (i := 16) (v := (.int .i64 u.qty)) rfl (by kernel_rfl) (by kernel_rfl) (by kernel_rfl) (fun _ _ _ h => h) (Or.inl ⟨by kernel_rfl, fun w' hS' => by obtain ⟨⟨d0, d1, d2⟩, ⟨s0, s1, s2, s3, s4, s5⟩, ⟨y0, y1, y2⟩, dl, dn⟩ := hS'; go_simp; try exact HP.out⟩) hS ?_
                                refine wpAnyH_take (i := 17) (v := (.bool false)) rfl (by kernel_rfl) (by kernel_rfl) (by kernel_rfl) (fun _ _ _ h => h) (Or.inl ⟨by kernel_rfl, fun w' hS' => by go_simp⟩) hS ?_
                                refine wpAnyH_take (i := 18) (v := (.bool false)) rfl (by kernel_rfl) (by kernel_rfl) (by kernel_rfl) (fun _ _ _ h => h) (Or.inl ⟨by kernel_rfl, fun w' hS' => by go_simp⟩) hS ?_
                                refine wpAnyH_take (i := 19) (v := (.bool false)) rfl (by kernel_rfl) (by kernel_rfl) (by kernel_rfl) (fun _ _ _ h => h) (Or.inl ⟨by kernel_rfl, fun w' hS' => by go_simp⟩) hS ?_
                                refine wpAnyH_take (i := 20) (v := (.slice (some ad1) l.length c)) rfl (by kernel_rfl) (by kernel_rfl) (by kernel_rfl) (fun _ _ _ h => h) (Or.inl ⟨by kernel_rfl, fun w' hS' => by go_simp⟩) hS ?_
                                refine wpAnyH_take (i := 21) (v := (.int .i64 (m : Int))) rfl (by kernel_rfl) (by kernel_rfl) (by kernel_rfl) (fun _ _ _ h => h) (Or.inl ⟨by kernel_rfl, fun w' hS' => by go_simp⟩) hS ?_
                                refine wpAnyH_take (i := 22) (v := (.pointer (some (ad1.add (m * 6))))) rfl (by kernel_rfl) (by kernel_rfl) (by kernel_rfl) (fun _ _ _ h => h) (Or.inl ⟨by kernel_rfl, fun w' hS' => by go_simp⟩) hS ?_
                                refine wpAnyH_take (i := 23) (v := (.agg #[.int .i64 x.id, .string ⟨x.item.toArray⟩, .int .i64 x.fr, .int .i64 x.un, .int .i64 x.qty, .bool x.arr])) rfl (by kernel_rfl) (by kernel_rfl) (by kernel_rfl) (fun _ _ _ h => h) (Or.inl ⟨by kernel_rfl, fun w' hS' => by obtain ⟨⟨d0, d1, d2⟩, ⟨s0, s1, s2, s3, s4, s5⟩, ⟨y0, y1, y2⟩, dl, dn⟩ := hS'; go_simp; try exact HP.out⟩) hS ?_
                                refine wpAnyH_take (i := 24) (v := (.slice (some ad2) ws.length c2)) rfl (by kernel_rfl) (by kernel_rfl) (by kernel_rfl) (fun _ _ _ h => h) (Or.inl ⟨by kernel_rfl, fun w' hS' => by go_simp⟩) hS ?_
                                refine wpAnyH_take (i := 25) (v := (.pointer (some ⟨bu, 0, none⟩))) rfl (by kernel_rfl) (by kernel_rfl) (by kernel_rfl) (fun _ _ _ h => h) (Or.inl ⟨by kernel_rfl, fun w' hS' => by go_simp⟩) hS ?_
                                refine wpAnyH_take (i := 26) (v := (.int .i64 (p : Int))) rfl (by kernel_rfl) (by kernel_rfl) (by kernel_rfl) (fun _ _ _ h => h) (Or.inl ⟨by kernel_rfl, fun w' hS' => by obtain ⟨⟨d0, d1, d2⟩, ⟨s0, s1, s2, s3, s4, s5⟩, ⟨y0, y1, y2⟩, dl, dn⟩ := hS'; go_simp; try exact HP.out⟩) hS ?_
                                refine wpAnyH_take (i := 27) (v := (.pointer (some (ad2.add (p * 3))))) rfl (by kernel_rfl) (by kernel_rfl) (by kernel_rfl) (fun _ _ _ h => h) (Or.inl ⟨by kernel_rfl, fun w' hS' => by go_simp⟩) hS ?_
                                refine wpAnyH_take (i := 28) (v := (.agg #[.string ⟨y.item.toArray⟩, .int .i64 y.day, .int .i64 y.qty])) rfl (by kernel_rfl) (by kernel_rfl) (by kernel_rfl) (fun _ _ _ h => h) (Or.inl ⟨by kernel_rfl, fun w' hS' => by obtain ⟨⟨d0, d1, d2⟩, ⟨s0, s1, s2, s3, s4, s5⟩, ⟨y0, y1, y2⟩, dl, dn⟩ := hS'; go_simp; try exact HP.out⟩) hS ?_
                                refine wpAnyH_ready (rs := [29]) (by kernel_rfl) (by simp) ?_
                                refine AllReadyH.cons rfl (fun K hK => ?_) AllReadyH.nil
                                go_simp
                                refine (rserves_b true x y _ HSB.out).mono ?_
                                rintro e w9 ⟨rfl, hb9'⟩
                                have hb9 := Lib.hid hb9'
                                clear hb9'
                                refine hK.out _ _ (HFULL.out w9 ((Below.refl w6.heap.size w6).drew.trans hb9.out)) (fun hS => ?_)
                                clear hK K
                                refine wpAnyH_take (i := 30) (v := (.bool false)) rfl (by kernel_rfl) (by kernel_rfl) (by kernel_rfl) (fun _ _ _ h => h) (Or.inl ⟨by kernel_rfl, fun w' hS' => by go_simp⟩) hS ?_
                                refine wpAnyH_take (i := 31) (v := (.bool false)) rfl (by kernel_rfl) (by kernel_rfl) (by kernel_rfl) (fun _ _ _ h => h) (Or.inl ⟨by kernel_rfl, fun w' hS' => by go_simp⟩) hS ?_
                                refine wpAnyH_take (i := 32) (v := (.bool false)) rfl (by kernel_rfl) (by kernel_rfl) (by kernel_rfl) (fun _ _ _ h => h) (Or.inl ⟨by kernel_rfl, fun w' hS' => by go_simp⟩) hS ?_
                                refine wpAnyH_take (i := 33) (v := (.pointer (some ⟨bu, 2, none⟩))) rfl (by kernel_rfl) (by kernel_rfl) (by kernel_rfl) (fun _ _ _ h => h) (Or.inl ⟨by kernel_rfl, fun w' hS' => by go_simp⟩) hS ?_
                                refine wpAnyH_take (i := 34) (v := (.int .i64 u.qty)) rfl (by kernel_rfl) (by kernel_rfl) (by kernel_rfl) (fun _ _ _ h => h) (Or.inl ⟨by kernel_rfl, fun w' hS' => by obtain ⟨⟨d0, d1, d2⟩, ⟨s0, s1, s2, s3, s4, s5⟩, ⟨y0, y1, y2⟩, dl, dn⟩ := hS'; go_simp; try exact HP.out⟩) hS ?_
                                refine wpAnyH_take (i := 35) (v := (.slice (some ⟨g2, 0, none⟩) l.length l.length)) rfl (by kernel_rfl) (by kernel_rfl) (by kernel_rfl) (fun _ _ _ h => h) (Or.inl ⟨by kernel_rfl, fun w' hS' => by go_simp⟩) hS ?_
                                refine wpAnyH_take (i := 36) (v := (.int .i64 (m : Int))) rfl (by kernel_rfl) (by kernel_rfl) (by kernel_rfl) (fun _ _ _ h => h) (Or.inl ⟨by kernel_rfl, fun w' hS' => by go_simp⟩) hS ?_
                                refine wpAnyH_take (i := 37) (v := (.pointer (some ⟨g2, m, none⟩))) rfl (by kernel_rfl) (by kernel_rfl) (by kernel_rfl) (fun _ _ _ h => h) (Or.inl ⟨by kernel_rfl, fun w' hS' => by go_simp⟩) hS ?_
                                refine wpAnyH_take (i := 38) (v := (.int .i64 (q x.id))) rfl (by kernel_rfl) (by kernel_rfl) (by kernel_rfl) (fun _ _ _ h => h) (Or.inl ⟨by kernel_rfl, fun w' hS' => by obtain ⟨⟨d0, d1, d2⟩, ⟨s0, s1, s2, s3, s4, s5⟩, ⟨y0, y1, y2⟩, dl, dn⟩ := hS'; go_simp; try exact HP.out⟩) hS ?_
                                refine wpAnyH_take (i := 39) (v := (.bool false)) rfl (by kernel_rfl) (by kernel_rfl) (by kernel_rfl) (fun _ _ _ h => h) (Or.inl ⟨by kernel_rfl, fun w' hS' => by go_simp⟩) hS ?_
                                refine wpAnyH_take (i := 40) (v := (.bool false)) rfl (by kernel_rfl) (by kernel_rfl) (by kernel_rfl) (fun _ _ _ h => h) (Or.inl ⟨by kernel_rfl, fun w' hS' => by go_simp⟩) hS ?_
                                refine wpAnyH_take (i := 41) (v := (.bool false)) rfl (by kernel_rfl) (by kernel_rfl) (by kernel_rfl) (fun _ _ _ h => h) (Or.inl ⟨by kernel_rfl, fun w' hS' => by go_simp⟩) hS ?_
                                refine wpAnyH_take (i := 42) (v := (.pointer (some ⟨bu, 2, none⟩))) rfl (by kernel_rfl) (by kernel_rfl) (by kernel_rfl) (fun _ _ _ h => h) (Or.inl ⟨by kernel_rfl, fun w' hS' => by go_simp⟩) hS ?_
                                refine wpAnyH_take (i := 43) (v := (.int .i64 u.qty)) rfl (by kernel_rfl) (by kernel_rfl) (by kernel_rfl) (fun _ _ _ h => h) (Or.inl ⟨by kernel_rfl, fun w' hS' => by obtain ⟨⟨d0, d1, d2⟩, ⟨s0, s1, s2, s3, s4, s5⟩, ⟨y0, y1, y2⟩, dl, dn⟩ := hS'; go_simp; try exact HP.out⟩) hS ?_
                                refine wpAnyH_take (i := 44) (v := (.slice (some ⟨g, 0, none⟩) ws.length ws.length)) rfl (by kernel_rfl) (by kernel_rfl) (by kernel_rfl) (fun _ _ _ h => h) (Or.inl ⟨by kernel_rfl, fun w' hS' => by go_simp⟩) hS ?_
                                refine wpAnyH_take (i := 45) (v := (.pointer (some ⟨bu, 0, none⟩))) rfl (by kernel_rfl) (by kernel_rfl) (by kernel_rfl) (fun _ _ _ h => h) (Or.inl ⟨by kernel_rfl, fun w' hS' => by go_simp⟩) hS ?_
                                refine wpAnyH_take (i := 46) (v := (.int .i64 (p : Int))) rfl (by kernel_rfl) (by kernel_rfl) (by kernel_rfl) (fun _ _ _ h => h) (Or.inl ⟨by kernel_rfl, fun w' hS' => by obtain ⟨⟨d0, d1, d2⟩, ⟨s0, s1, s2, s3, s4, s5⟩, ⟨y0, y1, y2⟩, dl, dn⟩ := hS'; go_simp; try exact HP.out⟩) hS ?_
                                refine wpAnyH_take (i := 47) (v := (.pointer (some ⟨g, p, none⟩))) rfl (by kernel_rfl) (by kernel_rfl) (by kernel_rfl) (fun _ _ _ h => h) (Or.inl ⟨by kernel_rfl, fun w' hS' => by go_simp⟩) hS ?_
                                refine wpAnyH_take (i := 48) (v := (.int .i64 n)) rfl (by kernel_rfl) (by kernel_rfl) (by kernel_rfl) (fun _ _ _ h => h) (Or.inl ⟨by kernel_rfl, fun w' hS' => by obtain ⟨⟨d0, d1, d2⟩, ⟨s0, s1, s2, s3, s4, s5⟩, ⟨y0, y1, y2⟩, dl, dn⟩ := hS'; go_simp; try exact HP.out⟩) hS ?_
                                refine wpAnyH_take (i := 49) (v := (.bool false)) rfl (by kernel_rfl) (by kernel_rfl) (by kernel_rfl) (fun _ _ _ h => h) (Or.inl ⟨by kernel_rfl, fun w' hS' => by go_simp⟩) hS ?_
                                refine wpAnyH_take (i := 50) (v := (.bool false)) rfl (by kernel_rfl) (by kernel_rfl) (by kernel_rfl) (fun _ _ _ h => h) (Or.inl ⟨by kernel_rfl, fun w' hS' => by go_simp⟩) hS ?_
                                refine wpAnyH_done (by kernel_rfl) ?_ _
                                go_simp
                                first | (rename_i hnext; refine hnext _ _ ?_; clear hnext) | (rename_i hnext _; refine hnext _ _ ?_; clear hnext) | (rename_i hnext _ _; refine hnext _ _ ?_; clear hnext) | (rename_i hnext _ _ _; refine hnext _ _ ?_; clear hnext) | (rename_i hnext _ _ _ _; refine hnext _ _ ?_; clear hnext) | (rename_i hnext _ _ _ _ _; refine hnext _ _ ?_; clear hnext) | (rename_i hnext _ _ _ _ _ _; refine hnext _ _ ?_; clear hnext) | (rename_i hnext _ _ _ _ _ _ _; refine hnext _ _ ?_; clear hnext) | (rename_i hnext _ _ _ _ _ _ _ _; refine hnext _ _ ?_; clear hnext) | (rename_i hnext _ _ _ _ _ _ _ _ _; refine hnext _ _ ?_; clear hnext) | (rename_i hnext _ _ _ _ _ _ _ _ _ _; refine hnext _ _ ?_; clear hnext) | (rename_i hnext _ _ _ _ _ _ _ _ _ _ _; refine hnext _ _ ?_; clear hnext) | (rename_i hnext _ _ _ _ _ _ _ _ _ _ _ _; refine hnext _ _ ?_; clear hnext) | (rename_i hnext _ _ _ _ _ _ _ _ _ _ _ _ _; refine hnext _ _ ?_; clear hnext) | (rename_i hnext _ _ _ _ _ _ _ _ _ _ _ _ _ _; refine hnext _ _ ?_; clear hnext) | (rename_i hnext _ _ _ _ _ _ _ _ _ _ _ _ _ _ _; refine hnext _ _ ?_; clear hnext) | (rename_i hnext _ _ _ _ _ _ _ _ _ _ _ _ _ _ _ _; refine hnext _ _ ?_; clear hnext) | (rename_i hnext _ _ _ _ _ _ _ _ _ _ _ _ _ _ _ _ _; refine hnext _ _ ?_; clear hnext) | (rename_i hnext _ _ _ _ _ _ _ _ _ _ _ _ _ _ _ _ _ _; refine hnext _ _ ?_; clear hnext) | (rename_i hnext _ _ _ _ _ _ _ _ _ _ _ _ _ _ _ _ _ _ _; refine hnext _ _ ?_; clear hnext)
                                have HU9 : Hid (UseAt w9 bu u) := Lib.hid hS.1
                                have HN9 : Hid (NRow w9 g g nd) := Lib.hid (NRow.below (w := w6.drew) HN6.out hb9.out)
                                have HLF9 : Hid (NRow w9 g2 g2 (l.map (fun x => q x.id))) := Lib.hid (NRow.below (w := w6.drew) HLF6.out hb9.out)
                                have HB9 : Hid (Below w.heap.size w w9) := Lib.hid (HB6.out.drew.trans (hb9.out.mono HB6.out.size))
                                have hcl : w9.cell? ⟨g2, m, none⟩ = some (.int .i64 (q x.id)) := hS.2.2.2.1
                                have hfl : w9.frozen? ⟨g2, m, none⟩ = false := HLF9.out.frozen m
                                have HSUB : Hid (IntKind.i64.wrap (q x.id - u.qty) = q x.id - u.qty) := Lib.hid (by have := HOK.out; rw [IntKind.wrap_i64]; omega)
                                have HSUB2 : Hid (IntKind.i64.wrap (n - u.qty) = n - u.qty) := Lib.hid (by have := HOK.out; rw [IntKind.wrap_i64]; omega)
                                have hml : m < l.length := hm
                                have hz9 : bu < w9.heap.size := by have := hb9.out.size; simp only [World.size_drew] at this; omega
                                clear hS HU6 HN6 HLF6 HB6 HU6P HFULL hb9 hz6
                                go_wp2_with fail
                                refine wp_region_held_drew (S := fun w' => UseAt w' bu u) (by kernel_rfl) ((HU9.out : UseAt w9.drew bu u)) (fun hS => ?_)
                                refine wpAnyH_take (i := 0) (v := (.slice (some ⟨g2, 0, none⟩) l.length l.length)) rfl (by kernel_rfl) (by kernel_rfl) (by kernel_rfl) (fun _ _ _ h => h) (Or.inl ⟨by kernel_rfl, fun w' hS' => by go_simp⟩) hS ?_
                                refine wpAnyH_take (i := 1) (v := (.int .i64 (m : Int))) rfl (by kernel_rfl) (by kernel_rfl) (by kernel_rfl) (fun _ _ _ h => h) (Or.inl ⟨by kernel_rfl, fun w' hS' => by go_simp⟩) hS ?_
                                refine wpAnyH_take (i := 2) (v := (.slice (some ⟨g2, 0, none⟩) l.length l.length)) rfl (by kernel_rfl) (by kernel_rfl) (by kernel_rfl) (fun _ _ _ h => h) (Or.inl ⟨by kernel_rfl, fun w' hS' => by go_simp⟩) hS ?_
                                refine wpAnyH_take (i := 3) (v := (.int .i64 (m : Int))) rfl (by kernel_rfl) (by kernel_rfl) (by kernel_rfl) (fun _ _ _ h => h) (Or.inl ⟨by kernel_rfl, fun w' hS' => by go_simp⟩) hS ?_
                                refine wpAnyH_take (i := 4) (v := (.pointer (some ⟨g2, m, none⟩))) rfl (by kernel_rfl) (by kernel_rfl) (by kernel_rfl) (fun _ _ _ h => h) (Or.inl ⟨by kernel_rfl, fun w' hS' => by go_simp⟩) hS ?_
                                refine wpAnyH_take (i := 6) (v := (.pointer (some ⟨bu, 2, none⟩))) rfl (by kernel_rfl) (by kernel_rfl) (by kernel_rfl) (fun _ _ _ h => h) (Or.inl ⟨by kernel_rfl, fun w' hS' => by go_simp⟩) hS ?_
                                refine wpAnyH_take (i := 7) (v := (.int .i64 u.qty)) rfl (by kernel_rfl) (by kernel_rfl) (by kernel_rfl) (fun _ _ _ h => h) (Or.inl ⟨by kernel_rfl, fun w' hS' => by obtain ⟨d0, d1, d2⟩ := hS'; go_simp⟩) hS ?_
                                refine wpAnyH_ready (rs := [5]) (by kernel_rfl) (by simp) ?_
                                refine AllReadyH.cons rfl (fun K hK => ?_) AllReadyH.nil
                                go_simp
                                skip
                                refine hK.out _ _ (hS) (fun hS => ?_)
                                clear hK K
                                refine wpAnyH_take (i := 8) (v := (.int .i64 (q x.id - u.qty))) rfl (by kernel_rfl) (by kernel_rfl) (by kernel_rfl) (fun _ _ _ h => h) (Or.inl ⟨by kernel_rfl, fun w' hS' => by have hsub := HSUB.out; go_simp⟩) hS ?_
                                refine wpAnyH_take (i := 9) (v := (.pointer (some ⟨g2, m, none⟩))) rfl (by kernel_rfl) (by kernel_rfl) (by kernel_rfl) (fun _ _ _ h => h) (Or.inl ⟨by kernel_rfl, fun w' hS' => by go_simp⟩) hS ?_
                                refine wpAnyH_ready (rs := [10]) (by kernel_rfl) (by simp) ?_
                                refine AllReadyH.cons rfl (fun K hK => ?_) AllReadyH.nil
                                go_simp
                                skip
                                refine hK.out _ _ (hS.kept (fun o => World.cell?_setCell_other _ _ _ _ (by intro e; simp only [Addr.mk.injEq] at e; omega))) (fun hS => ?_)
                                clear hK K
                                refine wpAnyH_done (by kernel_rfl) ?_ _
                                go_simp
                                first | (rename_i hnext; refine hnext _ _ ?_; clear hnext) | (rename_i hnext _; refine hnext _ _ ?_; clear hnext) | (rename_i hnext _ _; refine hnext _ _ ?_; clear hnext) | (rename_i hnext _ _ _; refine hnext _ _ ?_; clear hnext) | (rename_i hnext _ _ _ _; refine hnext _ _ ?_; clear hnext) | (rename_i hnext _ _ _ _ _; refine hnext _ _ ?_; clear hnext) | (rename_i hnext _ _ _ _ _ _; refine hnext _ _ ?_; clear hnext) | (rename_i hnext _ _ _ _ _ _ _; refine hnext _ _ ?_; clear hnext) | (rename_i hnext _ _ _ _ _ _ _ _; refine hnext _ _ ?_; clear hnext) | (rename_i hnext _ _ _ _ _ _ _ _ _; refine hnext _ _ ?_; clear hnext) | (rename_i hnext _ _ _ _ _ _ _ _ _ _; refine hnext _ _ ?_; clear hnext) | (rename_i hnext _ _ _ _ _ _ _ _ _ _ _; refine hnext _ _ ?_; clear hnext) | (rename_i hnext _ _ _ _ _ _ _ _ _ _ _ _; refine hnext _ _ ?_; clear hnext) | (rename_i hnext _ _ _ _ _ _ _ _ _ _ _ _ _; refine hnext _ _ ?_; clear hnext) | (rename_i hnext _ _ _ _ _ _ _ _ _ _ _ _ _ _; refine hnext _ _ ?_; clear hnext) | (rename_i hnext _ _ _ _ _ _ _ _ _ _ _ _ _ _ _; refine hnext _ _ ?_; clear hnext) | (rename_i hnext _ _ _ _ _ _ _ _ _ _ _ _ _ _ _ _; refine hnext _ _ ?_; clear hnext) | (rename_i hnext _ _ _ _ _ _ _ _ _ _ _ _ _ _ _ _ _; refine hnext _ _ ?_; clear hnext) | (rename_i hnext _ _ _ _ _ _ _ _ _ _ _ _ _ _ _ _ _ _; refine hnext _ _ ?_; clear hnext) | (rename_i hnext _ _ _ _ _ _ _ _ _ _ _ _ _ _ _ _ _ _ _; refine hnext _ _ ?_; clear hnext)
                                have HU10 := Lib.hid hS
                                have HN10 : Hid (NRow (w9.setCell ⟨g2, m, none⟩ (.int .i64 (q x.id - u.qty))).drew g g nd) := Lib.hid (HN9.out.other (p := ⟨g2, m, none⟩) (by simp; omega) _)
                                have HLF10 : Hid (NRow (w9.setCell ⟨g2, m, none⟩ (.int .i64 (q x.id - u.qty))).drew g2 g2 (l.map (fun z => Fl.bmp q x.id (-u.qty) z.id))) := Lib.hid (by have h := HLF9.out.set_ m (q x.id - u.qty); rw [set_bmp HND.out HX.out] at h; exact h)
                                have HB10 : Hid (Below w.heap.size w (w9.setCell ⟨g2, m, none⟩ (.int .i64 (q x.id - u.qty))).drew) := Lib.hid ((HB9.out.setCell (p := ⟨g2, m, none⟩) hgw2 _).drew)
                                have hz10 : bu < (w9.setCell ⟨g2, m, none⟩ (.int .i64 (q x.id - u.qty))).drew.heap.size := by simpa using hz9
                                obtain ⟨w10, hw10⟩ : ∃ W, W = (w9.setCell ⟨g2, m, none⟩ (.int .i64 (q x.id - u.qty))).drew := ⟨_, rfl⟩
                                rw [← hw10] at HU10 HN10 HLF10 HB10 hz10 ⊢
                                clear hw10 hcl hfl hS HU9 HN9 HLF9 HB9 hz9
                                have hcl : w10.cell? ⟨g, p, none⟩ = some (.int .i64 n) := HN10.out.cellAt HNN0.out
                                have hfl : w10.frozen? ⟨g, p, none⟩ = false := HN10.out.frozen p
                                go_wp2_with fail
                                refine wp_region_held_drew (S := fun w' => UseAt w' bu u) (by kernel_rfl) ((HU10.out : UseAt w10.drew bu u)) (fun hS => ?_)
                                refine wpAnyH_take (i := 0) (v := (.slice (some ⟨g, 0, none⟩) ws.length ws.length)) rfl (by kernel_rfl) (by kernel_rfl) (by kernel_rfl) (fun _ _ _ h => h) (Or.inl ⟨by kernel_rfl, fun w' hS' => by go_simp⟩) hS ?_
                                refine wpAnyH_take (i := 1) (v := (.pointer (some ⟨bu, 0, none⟩))) rfl (by kernel_rfl) (by kernel_rfl) (by kernel_rfl) (fun _ _ _ h => h) (Or.inl ⟨by kernel_rfl, fun w' hS' => by go_simp⟩) hS ?_
                                refine wpAnyH_take (i := 2) (v := (.int .i64 (p : Int))) rfl (by kernel_rfl) (by kernel_rfl) (by kernel_rfl) (fun _ _ _ h => h) (Or.inl ⟨by kernel_rfl, fun w' hS' => by obtain ⟨d0, d1, d2⟩ := hS'; go_simp; try exact HP.out⟩) hS ?_
                                refine wpAnyH_take (i := 3) (v := (.slice (some ⟨g, 0, none⟩) ws.length ws.length)) rfl (by kernel_rfl) (by kernel_rfl) (by kernel_rfl) (fun _ _ _ h => h) (Or.inl ⟨by kernel_rfl, fun w' hS' => by go_simp⟩) hS ?_
                                refine wpAnyH_take (i := 4) (v := (.pointer (some ⟨bu, 0, none⟩))) rfl (by kernel_rfl) (by kernel_rfl) (by kernel_rfl) (fun _ _ _ h => h) (Or.inl ⟨by kernel_rfl, fun w' hS' => by go_simp⟩) hS ?_
                                refine wpAnyH_take (i := 5) (v := (.int .i64 (p : Int))) rfl (by kernel_rfl) (by kernel_rfl) (by kernel_rfl) (fun _ _ _ h => h) (Or.inl ⟨by kernel_rfl, fun w' hS' => by obtain ⟨d0, d1, d2⟩ := hS'; go_simp; try exact HP.out⟩) hS ?_
                                refine wpAnyH_take (i := 6) (v := (.pointer (some ⟨g, p, none⟩))) rfl (by kernel_rfl) (by kernel_rfl) (by kernel_rfl) (fun _ _ _ h => h) (Or.inl ⟨by kernel_rfl, fun w' hS' => by go_simp⟩) hS ?_
                                refine wpAnyH_take (i := 8) (v := (.pointer (some ⟨bu, 2, none⟩))) rfl (by kernel_rfl) (by kernel_rfl) (by kernel_rfl) (fun _ _ _ h => h) (Or.inl ⟨by kernel_rfl, fun w' hS' => by go_simp⟩) hS ?_
                                refine wpAnyH_take (i := 9) (v := (.int .i64 u.qty)) rfl (by kernel_rfl) (by kernel_rfl) (by kernel_rfl) (fun _ _ _ h => h) (Or.inl ⟨by kernel_rfl, fun w' hS' => by obtain ⟨d0, d1, d2⟩ := hS'; go_simp; try exact HP.out⟩) hS ?_
                                refine wpAnyH_ready (rs := [7]) (by kernel_rfl) (by simp) ?_
                                refine AllReadyH.cons rfl (fun K hK => ?_) AllReadyH.nil
                                go_simp
                                skip
                                refine hK.out _ _ (hS) (fun hS => ?_)
                                clear hK K
                                refine wpAnyH_take (i := 10) (v := (.int .i64 (n - u.qty))) rfl (by kernel_rfl) (by kernel_rfl) (by kernel_rfl) (fun _ _ _ h => h) (Or.inl ⟨by kernel_rfl, fun w' hS' => by have hsub := HSUB2.out; go_simp⟩) hS ?_
                                refine wpAnyH_take (i := 11) (v := (.pointer (some ⟨g, p, none⟩))) rfl (by kernel_rfl) (by kernel_rfl) (by kernel_rfl) (fun _ _ _ h => h) (Or.inl ⟨by kernel_rfl, fun w' hS' => by go_simp⟩) hS ?_
                                refine wpAnyH_ready (rs := [12]) (by kernel_rfl) (by simp) ?_
                                refine AllReadyH.cons rfl (fun K hK => ?_) AllReadyH.nil
                                go_simp
                                skip
                                refine hK.out _ _ (hS.kept (fun o => World.cell?_setCell_other _ _ _ _ (by intro e; simp only [Addr.mk.injEq] at e; omega))) (fun hS => ?_)
                                clear hK K
                                refine wpAnyH_done (by kernel_rfl) ?_ _
                                go_simp
                                first | (rename_i hnext; refine hnext _ _ ?_; clear hnext) | (rename_i hnext _; refine hnext _ _ ?_; clear hnext) | (rename_i hnext _ _; refine hnext _ _ ?_; clear hnext) | (rename_i hnext _ _ _; refine hnext _ _ ?_; clear hnext) | (rename_i hnext _ _ _ _; refine hnext _ _ ?_; clear hnext) | (rename_i hnext _ _ _ _ _; refine hnext _ _ ?_; clear hnext) | (rename_i hnext _ _ _ _ _ _; refine hnext _ _ ?_; clear hnext) | (rename_i hnext _ _ _ _ _ _ _; refine hnext _ _ ?_; clear hnext) | (rename_i hnext _ _ _ _ _ _ _ _; refine hnext _ _ ?_; clear hnext) | (rename_i hnext _ _ _ _ _ _ _ _ _; refine hnext _ _ ?_; clear hnext) | (rename_i hnext _ _ _ _ _ _ _ _ _ _; refine hnext _ _ ?_; clear hnext) | (rename_i hnext _ _ _ _ _ _ _ _ _ _ _; refine hnext _ _ ?_; clear hnext) | (rename_i hnext _ _ _ _ _ _ _ _ _ _ _ _; refine hnext _ _ ?_; clear hnext) | (rename_i hnext _ _ _ _ _ _ _ _ _ _ _ _ _; refine hnext _ _ ?_; clear hnext) | (rename_i hnext _ _ _ _ _ _ _ _ _ _ _ _ _ _; refine hnext _ _ ?_; clear hnext) | (rename_i hnext _ _ _ _ _ _ _ _ _ _ _ _ _ _ _; refine hnext _ _ ?_; clear hnext) | (rename_i hnext _ _ _ _ _ _ _ _ _ _ _ _ _ _ _ _; refine hnext _ _ ?_; clear hnext) | (rename_i hnext _ _ _ _ _ _ _ _ _ _ _ _ _ _ _ _ _; refine hnext _ _ ?_; clear hnext) | (rename_i hnext _ _ _ _ _ _ _ _ _ _ _ _ _ _ _ _ _ _; refine hnext _ _ ?_; clear hnext) | (rename_i hnext _ _ _ _ _ _ _ _ _ _ _ _ _ _ _ _ _ _ _; refine hnext _ _ ?_; clear hnext)
                                clear hcl hfl
                                have hlt := HLT.out
                                go_wp2
                                go_roundw
                                case rel => exact ⟨k + 1, Fl.bmp q x.id (-u.qty), nd.set p (n - u.qty), HLT.out, by go_num, Lib.hid (by have h := check_step HG.out HU.out HP.out HY.out HNN0.out (by rw [show useOk l y u q n = true from useOk_of (by rw [HFL.out]; exact HSB.out) HOK.out.1 (by rw [← HID.out]; exact HOK.out.2.1) HOK.out.2.2]); rw [HID.out]; exact h), Lib.hid (by rw [List.length_set]; exact HNL.out), Lib.hid (HN10.out.set_ p (n - u.qty)), Lib.hid (HLF10.out.other (p := ⟨g, p, none⟩) (by simp; omega) _), Lib.hid ((HB10.out.setCell (p := ⟨g, p, none⟩) hgw _).drew), Lib.hid (fun i => by have h1 := HQ.out i; have h2 := HOK.out; unfold Fl.bmp; split; (rename_i e; subst e; omega); exact h1), Lib.hid (fun z hz => by rcases List.mem_or_eq_of_mem_set hz with h | h; exact HNN.out z h; have h2 := HOK.out; omega), Lib.hid (fun i => by have h1 := HQQ.out i; have h2 := HOK.out; unfold Fl.bmp; split; omega; exact h1)⟩
                                case measure => have := HLT.out; simp [intOf]; omega

            · obtain rfl : k = us.length := by omega
              have HE : Hid (nd.all (fun n => !decide (0 < n)) = bb) := Lib.hid (by have h := HG.out; rw [List.drop_length] at h; unfold checkGo at h; exact h)
              obtain ⟨w5b, rfl⟩ : ∃ W, W = wr := ⟨_, rfl⟩
              clear HG
              go_wp2_with fail
              go_loopw [15] (fun i wr => ∃ j : Nat, j ≤ ws.length ∧ i = .int .i64 j ∧ Hid (∀ m n, m < j → nd[m]? = some n → n = 0) ∧ Hid (Below w5b.heap.size w5b wr)) (fun i _ => ws.length - (intOf i).toNat)
              case atStart => exact ⟨0, Nat.zero_le _, rfl, Lib.hid (fun m n h => absurd h (by omega)), Lib.hid (Below.refl _ _)⟩
              case round =>
                obtain ⟨j, hj, rfl, HJ, HBi⟩ := hrel
                by_cases hjl : j < ws.length
                · obtain ⟨n, hn⟩ : ∃ n, nd[j]? = some n := ⟨_, List.getElem?_eq_getElem (by rw [HNL.out]; exact hjl)⟩
                  have hcn := (HN.out.below HBi.out).cellAt hn
                  have hn0 := HNN.out n (List.mem_of_getElem? hn)
                  have HNJ := Lib.hid hn
                  clear hn
                  by_cases hz : n = 0
                  · have hd : (n == 0) = true := by simp [hz]
                    have hd' : (n != 0) = false := by simp [hz]
                    have HZ := Lib.hid hz
                    clear hz
                    go_wp2
                    go_roundw
                    case rel => exact ⟨j + 1, by omega, by go_num, Lib.hid (fun m z hm hz => by
                      rcases Nat.lt_succ_iff_lt_or_eq.1 hm with h | h
                      · exact HJ.out m z h hz
                      · subst h; rw [HNJ.out] at hz; cases hz; exact HZ.out), HBi⟩
                    case measure => simp [intOf]; omega
                  · have hd : (n == 0) = false := by simp [hz]
                    have hd' : (n != 0) = true := by simp [hz]
                    have hbf : bb = false := by
                      rw [← HE.out, List.all_eq_false]
                      exact ⟨n, List.mem_of_getElem? HNJ.out, by simp; omega⟩
                    clear hz
                    go_wp2
                    go_ret
                    exact ⟨ret_bool (by rw [HBB.out, hbf]), HBr.out.trans (HBi.out.mono HBr.out.size)⟩
                · obtain rfl : j = ws.length := by omega
                  have hbt : bb = true := by
                    rw [← HE.out, List.all_eq_true]
                    intro n hn
                    obtain ⟨m, hm⟩ := List.getElem?_of_mem hn
                    have hml := (List.getElem?_eq_some_iff.1 hm).1
                    have := HJ.out m n (by rw [← HNL.out]; exact hml) hm
                    subst this; rfl
                  go_wp2
                  go_ret
                  exact ⟨ret_bool (by rw [HBB.out, hbt]), HBr.out.trans (HBi.out.mono HBr.out.size)⟩


set_option maxRecDepth 100000 in
theorem rcheck_any (v1 v2 v3 : Value) (l : List Lt) (ws : List Wt) (us : List Us) (w : World) (h1 : LSl w w.heap.size v1 l) (h2 : WSl w w.heap.size v2 ws) (h3 : USl w w.heap.size v3 us) (hs : Sized l) (hsu : SizedU us) (hub : us.length ≤ 1099511627776) :
    Calls Try.prog 24 #[v1, v2, v3] w fun e w' => e = .returned (.bool (checkB l ws us)) ∧ Below w.heap.size w w' := by
  by_cases hb : mayB l ws = true
  · exact rcheck_may v1 v2 v3 l ws us w h1 h2 h3 hs hsu hub hb
  · have hb : mayB l ws = false := by simpa using hb
    have HB := Lib.hid hb
    have HV1 := Lib.hid h1
    have HV2 := Lib.hid h2
    have HC : Hid (checkB l ws us = false) := Lib.hid (by unfold checkB; rw [hb]; rfl)
    rw [HC.out]
    clear hb h1 h2 h3 hs hsu
    go_enter Try.func24, Try.ntmps24
    go_wp2_with (go_at_call 33; ((with_reducible refine (may_any _ _ l ws _ HV1.out HV2.out).mono ?_); rintro e w1 ⟨rfl, hb1'⟩; rw [HB.out]; have hb1 := Lib.hid hb1'; clear hb1'))
    go_ret
    exact ⟨rfl, hb1.out⟩
end Go.Proofs.Ytddnfikjfmfhfaa
