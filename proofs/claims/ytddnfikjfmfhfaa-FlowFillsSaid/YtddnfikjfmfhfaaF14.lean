/- The reference's Fill. Written by gen_frfill.py. -/
import Derived.Deep.QuietTactic
import Derived.BigQuiet
import Derived.Test.YtddnfikjfmfhfaaF13
namespace Go.Proofs.Ytddnfikjfmfhfaa
open Go.ChangeShapes Go.WideShapes Go.ChangeAt Go.RowKit Go.Maps
set_option linter.unusedVariables false
theorem infoB : (Try.prog.info? 4).map (fun i => (i.zero, i.size, i.bytes)) = some (some (.bool false), 1, 1) := by kernel_rfl
/-- Yes and no in a row of their own. -/
def BRow (w : World) (base g : Nat) (l : List Bool) : Prop := w.ownsRow base 4 1 (.slice (some ⟨g, 0, none⟩) l.length l.length) l.length (l.map Value.bool)
theorem BRow.kept {w w' : World} {base g : Nat} {l : List Bool} {row : Option Nat} (h : BRow w base g l) (hg : w.grownBy w' row) (hne : row ≠ some g) : BRow w' base g l := World.ownsRow.kept h hg (.inr (fun e => hne (by rw [← e]; rfl)))
theorem BRow.cellAt {w : World} {base g : Nat} {l : List Bool} (h : BRow w base g l) {k : Nat} {b : Bool} (hk : l[k]? = some b) : w.cell? ⟨g, k, none⟩ = some (.bool b) := by
  have hlt := (List.getElem?_eq_some_iff.1 hk).1
  have := World.ownsRow.cellAt h k (by omega)
  rw [this]
  simp [hk]
theorem BRow.frozen {w : World} {base g : Nat} {l : List Bool} (h : BRow w base g l) (k : Nat) : w.frozen? ⟨g, k, none⟩ = false := World.ownsRow.frozenAt h k
theorem BRow.lt {w : World} {base g : Nat} {l : List Bool} (h : BRow w base g l) : base ≤ g ∧ g < w.heap.size := World.ownsRow.lt h g rfl
theorem BRow.set_ {w : World} {base g : Nat} {l : List Bool} (h : BRow w base g l) (k : Nat) (b : Bool) : BRow (w.setCell ⟨g, k, none⟩ (.bool b)) base g (l.set k b) := by
  have := (World.ownsRow.stored h k (.bool b)).1
  unfold BRow
  rw [List.length_set, show (l.set k b).map Value.bool = (l.map Value.bool).set k (.bool b) from by simp [List.map_set]]
  exact this
theorem BRow.other {w : World} {base g : Nat} {l : List Bool} (h : BRow w base g l) {p : Addr} (hne : p.block ≠ g) (v : Value) : BRow (w.setCell p v) base g l := h.kept (set_grown w p v) (by simpa using hne)
theorem BRow.below {w w' : World} {base g : Nat} {l : List Bool} (h : BRow w base g l) (hb : Below w.heap.size w w') : BRow w' base g l := own_at h hb
theorem doneL_len (n : Nat) (D : List Nat) : (doneL n D).length = n := by unfold doneL; simp
theorem doneL_nil (n : Nat) : (doneL n []).map Value.bool = List.replicate n (Value.bool false) := by
  apply List.ext_getElem?
  intro i
  unfold doneL
  rw [List.getElem?_map, List.getElem?_map, List.getElem?_replicate]
  by_cases h : i < n
  · rw [List.getElem?_range h, if_pos h]; rfl
  · rw [List.getElem?_eq_none (by simpa using h), if_neg h]; rfl
theorem places_len {ws : List Wt} {P : List Nat} (h : Days ws P) : P.length = ws.length := by have := h.perm.length_eq; simpa using this
theorem place_lt {ws : List Wt} {P : List Nat} (h : Days ws P) {p : Nat} (hp : p ∈ P) : p < ws.length := by have := h.perm.mem_iff.1 hp; simpa using this
theorem dayAt_of {ws : List Wt} {p : Nat} {x : Wt} (hx : ws[p]? = some x) : dayAt ws p = x.day := by unfold dayAt; rw [List.getD_eq_getElem?_getD, hx]; rfl
theorem taking_len {S : List Lt} {p : Int} {w : Wt} {n0 n : Int} {q0 q : Int → Int} {V : List Us} (h : Taking S p w n0 q0 n q V) : V.length ≤ S.length := by
  have h1 := takeG_len p w S n0 q0
  unfold Taking at h
  rw [h] at h1
  simp only [List.length_append, List.length_map] at h1
  omega
set_option maxHeartbeats 8000000 in
set_option maxRecDepth 100000 in
theorem rfill_may (v1 v2 : Value) (l S : List Lt) (ws : List Wt) (P : List Nat) (w : World) (h1 : LSl w w.heap.size v1 l) (h2 : WSl w w.heap.size v2 ws) (hs : Sized l) (hb : mayB l ws = true) (hS : Stab l S) (hP : Days ws P) (h40 : l.length ≤ 40) (h60 : ws.length ≤ 60) :
    Calls Try.prog 14 #[v1, v2] w fun e w' => Below w.heap.size w w' ∧ (((serveRun S ws P (qtyOf l)).2.1 = false ∧ e = .returned (.tuple #[.slice none 0 0, .bool false])) ∨
      ((serveRun S ws P (qtyOf l)).2.1 = true ∧ ∃ uv U, e = .returned (.tuple #[uv, .bool true]) ∧ (serveRun S ws P (qtyOf l)).1 = List.map useT U ∧ w'.ownsRow w.heap.size 44 3 uv U.length (ucells U))) := by
  obtain ⟨hl3, hw3, hlr, hwr, hnd⟩ := mayB_true hb
  obtain ⟨i0, hi, hz0, hz1, hz2⟩ := info_parts infoI64
  have H1 := Lib.hid hi
  have H2 := Lib.hid hz0
  have H3 := Lib.hid hz1
  have H4 := Lib.hid hz2
  clear hi hz0 hz1 hz2
  obtain ⟨iu, hi, hz0, hz1, hz2⟩ := info_parts infoUse
  have J1 := Lib.hid hi
  have J2 := Lib.hid hz0
  have J3 := Lib.hid hz1
  have J4 := Lib.hid hz2
  clear hi hz0 hz1 hz2
  obtain ⟨ib, hi, hz0, hz1, hz2⟩ := info_parts infoB
  have B1 := Lib.hid hi
  have B2 := Lib.hid hz0
  have B3 := Lib.hid hz1
  have B4 := Lib.hid hz2
  clear hi hz0 hz1 hz2
  have HV1 := Lib.hid h1
  have HV2 := Lib.hid h2
  have HSZ := Lib.hid hs
  obtain ⟨A, c, rfl, hc1, hc2, hcz, hl1⟩ := id h1
  obtain ⟨A2, c2, rfl, hc3, hc4, hcz2, hl2⟩ := id h2
  have HL1 := Lib.hid hl1
  have HL2 := Lib.hid hl2
  have HB := Lib.hid hb
  have HQ0 : Hid (∀ i, 0 ≤ qtyOf l i ∧ qtyOf l i ≤ 1073741824) := Lib.hid (fun i => qtyOf_range hlr i)
  have HWR : Hid (∀ x ∈ ws, 1 ≤ x.qty ∧ x.qty ≤ 1125899906842624) := Lib.hid (fun x hx => (wantB_parts (hwr x hx)).2)
  have HND := Lib.hid hnd
  have HST := Lib.hid hS
  have HPD := Lib.hid hP
  have HSN : Hid ((S.map Lt.id).Nodup) := Lib.hid ((hS.perm.map Lt.id).nodup_iff.2 hnd)
  have hSl : S.length ≤ 40 := by rw [hS.perm.length_eq]; exact h40
  have HLQ : Hid (l.map Lt.qty = l.map (fun x => qtyOf l x.id)) := Lib.hid (List.map_congr_left (fun x hx => (qtyOf_mem hnd hx).symm))
  clear h1 h2 hs hb hlr hwr hnd hl1 hl2 hS hP
  go_enter Try.func14, Try.ntmps14
  go_wp2_with fail
  refine (may_any _ _ l ws w HV1.out HV2.out).mono ?_
  rintro e w1 ⟨rfl, hb1'⟩
  rw [HB.out]
  have HB1 := Lib.hid hb1'
  clear hb1'
  go_wp2_with (at_make; refine wpList_make_full _ rfl _ _ 59 rfl w1.heap.size 2 i0 (.int .i64 0) 1 Try.underlying59 H1.out H2.out H3.out .i64 .i64 _ _ l.length rfl rfl rfl rfl (by rw [H4.out]; omega) (by unfold maxLen; omega) (Nat.le_refl _) ?_; intro w2 hgm' hg2'; have hgm := Lib.hid hgm'; have HB2 := Lib.hid (HB1.out.grown hg2' HB1.out.size (fun j hj => by cases hj)); clear hgm' hg2')
  generalize hY : (madeCells (Value.int .i64 0).cells (l.length * 1)).toList = Y0 at hgm
  clear hY
  obtain ⟨g, hgE, hgw⟩ : ∃ g, w1.heap.size = g ∧ w.heap.size ≤ g := ⟨_, rfl, HB1.out.size⟩
  rw [hgE] at hgm ⊢
  clear hgE
  go_loopw [7] (fun i wr => ∃ (k : Nat) (Y : List Value), k ≤ l.length ∧ i = .int .i64 k ∧ Hid (Y.take k = ncells ((l.take k).map Lt.qty)) ∧ Hid (wr.ownsRow g 2 1 (.slice (some ⟨g, 0, none⟩) l.length l.length) l.length Y) ∧ Hid (Below w.heap.size w wr)) (fun i _ => l.length - (intOf i).toNat)
  case atStart => exact ⟨0, Y0, Nat.zero_le _, rfl, Lib.hid (by simp [ncells]), hgm, HB2⟩
  case round =>
    clear hgm HB2
    obtain ⟨k, Y, hk, rfl, HY, HR, HBr⟩ := hrel
    by_cases hlt : k < l.length
    · obtain ⟨x, hx⟩ : ∃ x, l[k]? = some x := ⟨_, List.getElem?_eq_getElem hlt⟩
      obtain ⟨ad, rfl, hab, hx0, hx1, hx2, hx3, hx4, hx5⟩ := (HL1.out.below HBr.out).six hx
      have hYl := HR.out.1
      obtain ⟨y, hy⟩ : ∃ y, Y[k]? = some y := ⟨_, List.getElem?_eq_getElem (by omega)⟩
      have hcy := (HR.out.cellAt k (by omega)).trans hy
      have hfy := HR.out.frozenAt k
      have hgl := (HR.out.lt g rfl).2
      have hst : Hid ((Y.set k (.int .i64 x.qty)).take (k + 1) = ncells ((l.take (k + 1)).map Lt.qty)) := Lib.hid (by
        rw [take_set HY.out (by omega), List.take_add_one, hx]; simp [ncells])
      have HR2 := Lib.hid ((HR.out.stored k (.int .i64 x.qty)).1)
      have HBr2 := Lib.hid (HBr.out.setCell (p := ⟨g, k, none⟩) hgw (.int .i64 x.qty))
      clear hx hy hYl
      go_wp2
      go_roundw
      case rel => exact ⟨k + 1, _, by omega, by go_num, hst, HR2, HBr2⟩
      case measure => simp [intOf]; omega
    · obtain rfl : k = l.length := by omega
      have hYl := HR.out.1
      have HLF : Hid (NRow wr g g (l.map (fun x => qtyOf l x.id))) := Lib.hid (by
        have h1 := HY.out
        rw [List.take_of_length_le (by omega), List.take_of_length_le (Nat.le_refl _), HLQ.out] at h1
        have h := HR.out
        rw [h1] at h
        unfold NRow
        rw [List.length_map]
        exact h)
      obtain ⟨w3, rfl⟩ : ∃ W, W = wr := ⟨_, rfl⟩
      have hg3 : g < w3.heap.size := HLF.out.lt.2
      clear HY HR hYl H1 H2 H3 H4
      go_wp2_with (at_make; refine wpList_make_full _ rfl _ _ 60 rfl w3.heap.size 4 ib (.bool false) 1 Try.underlying60 B1.out B2.out B3.out .i64 .i64 _ _ ws.length rfl rfl rfl rfl (by rw [B4.out]; omega) (by unfold maxLen; omega) (Nat.le_refl _) ?_; intro w4 hgm' hg4'; have HDN : Hid (BRow w4 w3.heap.size w3.heap.size (doneL ws.length [])) := Lib.hid (by unfold BRow; rw [doneL_len, doneL_nil, ← toList_madeCells_one]; have h := hgm'; rw [Nat.mul_one] at h; exact h); have HB4 := Lib.hid (HBr.out.grown hg4' HBr.out.size (fun j hj => by cases hj)); have HLF4 := Lib.hid (HLF.out.kept hg4' (by simp)); clear hgm' hg4')
      obtain ⟨g2, hgE, hgg, hgw2⟩ : ∃ g2, w3.heap.size = g2 ∧ g < g2 ∧ w.heap.size ≤ g2 := ⟨_, rfl, hg3, HBr.out.size⟩
      rw [hgE] at HDN ⊢
      clear hgE HBr HLF hg3 B1 B2 B3 B4
      go_loopw [9, 10] (fun ov i wr => ∃ (D R : List Nat) (U : List Us) (q : Int → Int), P = D ++ R ∧ i = .int .i64 D.length ∧ Hid (Far S ws P (qtyOf l) R q U) ∧ Hid (NRow wr g g (l.map (fun x => q x.id))) ∧ Hid (BRow wr g2 g2 (doneL ws.length D)) ∧ Hid (wr.ownsRow (g2 + 1) 44 3 ov U.length (ucells U)) ∧ Hid (Below w.heap.size w wr) ∧ Hid (∀ i, 0 ≤ q i ∧ q i ≤ 1073741824) ∧ U.length ≤ D.length * 41 ∧ g2 < wr.heap.size) (fun _ i _ => ws.length - (intOf i).toNat)
      case atStart => exact ⟨[], P, [], qtyOf l, rfl, rfl, Lib.hid (far_start _ _ _ _), HLF4, HDN, Lib.hid (World.ownsRow_nil _ _ _ _), HB4, HQ0, by simp, HDN.out.lt.2⟩
      case round =>
        clear HDN HLF4 HB4
        obtain ⟨D, R, U, q, hPD, rfl, HFar, HLF, HDN, HO, HBr, HQ, hUl, hg2l⟩ := hrel
        have hPl : P.length = ws.length := places_len HPD.out
        cases R with
        | nil =>
          have hDl : D.length = ws.length := by rw [← hPl, hPD]; simp
          have HE := Lib.hid (HFar.out.end_)
          have HOw := Lib.hid (base_less HO.out (show w.heap.size ≤ g2 + 1 by omega))
          clear hPD HFar HLF HDN hPl
          obtain ⟨Ao, co, rfl, _, _, _⟩ := own_form HO.out
          go_wp2
          go_ret2
          exact ⟨HBr.out, .inr ⟨by rw [HE.out], _, U, rfl, by rw [HE.out], HOw.out⟩⟩
        | cons p R' =>
          have hDl : D.length < ws.length := by rw [← hPl, hPD]; simp
          have hpl : p < ws.length := place_lt HPD.out (by rw [hPD]; simp)
          have HPE := Lib.hid hPD
          obtain ⟨x, hx⟩ : ∃ x, ws[p]? = some x := ⟨_, List.getElem?_eq_getElem hpl⟩
          have HX := Lib.hid hx
          clear hPD hPl hx
          obtain ⟨w5, rfl⟩ : ∃ W, W = wr := ⟨_, rfl⟩
          go_wp2_with fail
          go_loopw [11, 12] (fun s i wr => ∃ (j : Nat) (kk : Int), j ≤ ws.length ∧ i = .int .i64 j ∧ s = .int .i64 kk ∧ Hid (NextAt ws D j kk) ∧ Hid (Below w5.heap.size w5 wr)) (fun _ i _ => ws.length - (intOf i).toNat)
          case atStart => exact ⟨0, -1, Nat.zero_le _, rfl, rfl, Lib.hid (.inl ⟨rfl, fun j h => absurd h (by omega)⟩), Lib.hid (Below.refl _ _)⟩
          case round =>
            obtain ⟨j, kk, hj, rfl, rfl, HNX, HBi⟩ := hrel
            by_cases hjl : j < ws.length
            · have hcd := (HDN.out.below HBi.out).cellAt (doneL_get (D := D) hjl)
              obtain ⟨y, hy⟩ : ∃ y, ws[j]? = some y := ⟨_, List.getElem?_eq_getElem hjl⟩
              obtain ⟨ad, ea, _, y0, y1, y2⟩ := (HL2.out.below (HBr.out.trans (HBi.out.mono HBr.out.size))).rowW hy
              subst ea
              have HY := Lib.hid hy
              clear hy
              by_cases hjD : j ∈ D
              · rw [decide_eq_true hjD] at hcd
                have HJD := Lib.hid hjD
                clear hjD
                go_wp2
                go_quiet (fail)
                go_wp2
                go_roundw
                case rel => exact ⟨j + 1, kk, by omega, by go_num, rfl, Lib.hid (next_done HNX.out HJD.out), Lib.hid (below_draws HBi.out _)⟩
                case measure => simp [intOf]; omega
              · rw [decide_eq_false hjD] at hcd
                have HJD := Lib.hid hjD
                clear hjD
                rcases HNX.out with ⟨rfl, _⟩ | ⟨m, rfl, hmj, hmD, _⟩
                · go_wp2
                  go_quiet (fail)
                  go_wp2
                  go_roundw
                  case rel => exact ⟨j + 1, j, by omega, by go_num, rfl, Lib.hid (next_first HNX.out HJD.out), Lib.hid (below_draws HBi.out _)⟩
                  case measure => simp [intOf]; omega
                · have hml : m < ws.length := by omega
                  obtain ⟨z, hz⟩ : ∃ z, ws[m]? = some z := ⟨_, List.getElem?_eq_getElem hml⟩
                  obtain ⟨ad', ea, _, z0, z1, z2⟩ := (HL2.out.below (HBr.out.trans (HBi.out.mono HBr.out.size))).rowW hz
                  cases ea
                  have HZ := Lib.hid hz
                  have hm0 : decide ((m : Int) < 0) = false := decide_eq_false (by omega)
                  clear hz hmD
                  by_cases hd : y.day < z.day
                  · have hdd : decide (y.day < z.day) = true := decide_eq_true hd
                    have HD' := Lib.hid hd
                    clear hd
                    go_wp2
                    go_quiet (fail)
                    go_wp2
                    go_roundw
                    case rel => exact ⟨j + 1, j, by omega, by go_num, rfl, Lib.hid (next_less HNX.out HJD.out (by rw [dayAt_of HY.out, dayAt_of HZ.out]; exact HD'.out)), Lib.hid (below_draws HBi.out _)⟩
                    case measure => simp [intOf]; omega
                  · have hdd : decide (y.day < z.day) = false := decide_eq_false hd
                    have HD' := Lib.hid hd
                    clear hd
                    go_wp2
                    go_quiet (fail)
                    go_wp2
                    go_roundw
                    case rel => exact ⟨j + 1, m, by omega, by go_num, rfl, Lib.hid (next_same HNX.out (by rw [dayAt_of HY.out, dayAt_of HZ.out]; have := HD'.out; omega)), Lib.hid (below_draws HBi.out _)⟩
                    case measure => simp [intOf]; omega
            · obtain rfl : j = ws.length := by omega
              obtain rfl : kk = (p : Int) := next_end HPD.out HPE.out HNX.out
              have HLF6 := Lib.hid (HLF.out.below HBi.out)
              have HDN6 := Lib.hid (HDN.out.below HBi.out)
              have HO6 := Lib.hid (own_at HO.out HBi.out)
              have HB6 : Hid (Below w.heap.size w wr) := Lib.hid (HBr.out.trans (HBi.out.mono HBr.out.size))
              have hg6 : g2 < wr.heap.size := by have := HBi.out.size; omega
              have hcd := HDN6.out.cellAt (doneL_get (D := D) hpl)
              have hfd := HDN6.out.frozen p
              have hxq := HWR.out x (List.mem_of_getElem? HX.out)
              obtain ⟨w6, rfl⟩ : ∃ W, W = wr := ⟨_, rfl⟩
              clear HLF HDN HO HBr HBi HNX hg2l
              go_upto_region 20 with (fail)
              have HLF7 : Hid (NRow (w6.setCell ⟨g2, p, none⟩ (.bool true)) g g (l.map (fun x => q x.id))) := Lib.hid (HLF6.out.other (p := ⟨g2, p, none⟩) (by simp; omega) _)
              have HDN7 : Hid (BRow (w6.setCell ⟨g2, p, none⟩ (.bool true)) g2 g2 (doneL ws.length (D ++ [p]))) := Lib.hid (by rw [← doneL_set hpl]; exact HDN6.out.set_ p true)
              have HO7 : Hid ((w6.setCell ⟨g2, p, none⟩ (.bool true)).ownsRow (g2 + 1) 44 3 _ U.length (ucells U)) := Lib.hid (ownsRow_setCell_below HO6.out (a := ⟨g2, p, none⟩) (Nat.lt_succ_self _) _)
              have HB7 : Hid (Below w.heap.size w (w6.setCell ⟨g2, p, none⟩ (.bool true))) := Lib.hid (HB6.out.setCell (p := ⟨g2, p, none⟩) hgw2 _)
              have hg7 : g2 < (w6.setCell ⟨g2, p, none⟩ (.bool true)).heap.size := by simpa using hg6
              obtain ⟨w7, hw7⟩ : ∃ W, W = w6.setCell ⟨g2, p, none⟩ (.bool true) := ⟨_, rfl⟩
              rw [← hw7] at HLF7 HDN7 HO7 HB7 hg7 ⊢
              clear hw7 HLF6 HDN6 HO6 HB6 hcd hfd hg6
              obtain ⟨ad, ea, _, x0, x1, x2⟩ := (HL2.out.below HB7.out).rowW HX.out
              subst ea
              go_wp2_with fail
              go_loopw [9, 13] (fun ov nv wr => ∃ (V : List Us) (n : Int) (q1 : Int → Int), nv = .int .i64 n ∧ Hid (Taking S (p : Int) x x.qty q n q1 V) ∧ Hid (NRow wr g g (l.map (fun x => q1 x.id))) ∧ Hid (BRow wr g2 g2 (doneL ws.length (D ++ [p]))) ∧ Hid (wr.ownsRow (g2 + 1) 44 3 ov (U ++ V).length (ucells (U ++ V))) ∧ Hid (Below w.heap.size w wr) ∧ Hid (∀ i, 0 ≤ q1 i ∧ q1 i ≤ 1073741824) ∧ 0 ≤ n ∧ n ≤ 1125899906842624 ∧ g2 < wr.heap.size) (fun _ nv _ => (intOf nv).toNat)
              case atStart => exact ⟨[], x.qty, q, rfl, Lib.hid (taking_start _ _ _ _ _), HLF7, HDN7, by rw [List.append_nil]; exact HO7, HB7, HQ, by omega, hxq.2, hg7⟩
              case round =>
                clear HLF7 HDN7 HO7 HB7 hg7 x0 x1 x2
                obtain ⟨V, n, q1, rfl, HTK, HLF7, HDN7, HO7, HB7, HQ1, hn0, hn1, hg7⟩ := hrel
                by_cases hnp : 0 < n
                · obtain ⟨w7, rfl⟩ : ∃ W, W = wr := ⟨_, rfl⟩
                  have hdn : decide (0 < n) = true := decide_eq_true hnp
                  go_wp2_with fail
                  clear hdn
                  go_loopw [14, 15] (fun s i wr => ∃ (j : Nat) (kk : Int), j ≤ l.length ∧ i = .int .i64 j ∧ s = .int .i64 kk ∧ Hid (LeastAt l q1 x j kk) ∧ Hid (Below w7.heap.size w7 wr)) (fun _ i _ => l.length - (intOf i).toNat)
                  case atStart => exact ⟨0, -1, Nat.zero_le _, rfl, rfl, Lib.hid (.inl ⟨rfl, fun i x h => absurd h (by omega)⟩), Lib.hid (Below.refl _ _)⟩
                  case round =>
                    obtain ⟨j, kk, hj, rfl, rfl, HLS, HBi⟩ := hrel
                    by_cases hjl : j < l.length
                    · obtain ⟨y, hy⟩ : ∃ y, l[j]? = some y := ⟨_, List.getElem?_eq_getElem hjl⟩
                      obtain ⟨ad1, ea, _, _, _, _, _, _, _⟩ := (HL1.out.below HB7.out).six hy
                      subst ea
                      have hq1y := HQ1.out y.id
                      have HALL : Hid (∀ w', Below w7.heap.size w7 w' → w'.cell? ⟨g, j, none⟩ = some (.int .i64 (q1 y.id)) ∧ Six w' (ad1.add (j * 6)) y ∧ RowW w' (ad.add (p * 3)) x ∧ True) := Lib.hid (fun w' h => by
                        have hb := HB7.out.trans (h.mono HB7.out.size)
                        obtain ⟨a2, e2, _, hr⟩ := (HL2.out.below hb).rowW HX.out
                        obtain ⟨a1, e1, _, h6⟩ := (HL1.out.below hb).six hy
                        cases e1; cases e2
                        exact ⟨(HLF7.out.below h).cellAt (by rw [List.getElem?_map, hy]; rfl), h6, hr, trivial⟩)
                      have HY := Lib.hid hy
                      clear hy
                      obtain ⟨bb, hbb⟩ : ∃ bb : Bool, ((bb = true → LeastAt l q1 x (j + 1) (j : Int)) ∧ (bb = false → LeastAt l q1 x (j + 1) kk)) ∧ ((bb = false ∧ ¬ 0 < q1 y.id) ∨ (bb = false ∧ 0 < q1 y.id ∧ servesB y x = false) ∨ (bb = true ∧ 0 < q1 y.id ∧ servesB y x = true ∧ kk = -1) ∨ (∃ m z, kk = ((m : Nat) : Int) ∧ m < j ∧ l[m]? = some z ∧ 0 < q1 y.id ∧ servesB y x = true ∧ bb = decide (cmpL y z < 0))) := by
                        by_cases h1 : 0 < q1 y.id
                        · cases h2 : servesB y x with
                          | false => exact ⟨false, ⟨(fun h => by cases h), fun _ => least_no HLS.out HY.out (fun h => by rw [h.2] at h2; cases h2)⟩, .inr (.inl ⟨rfl, h1, rfl⟩)⟩
                          | true =>
                            rcases HLS.out with ⟨hk1, _⟩ | ⟨m, z, hk1, hm, hz, he, _⟩
                            · exact ⟨true, ⟨fun _ => least_first (by rw [← hk1]; exact HLS.out) HY.out ⟨h1, h2⟩, fun h => by cases h⟩, .inr (.inr (.inl ⟨rfl, h1, rfl, hk1⟩))⟩
                            · refine ⟨decide (cmpL y z < 0), ⟨fun hc => least_less (m := m) (by rw [← hk1]; exact HLS.out) hz HY.out ⟨h1, h2⟩ (of_decide_eq_true hc), fun hc => ?_⟩, .inr (.inr (.inr ⟨m, z, hk1, hm, hz, h1, rfl, rfl⟩))⟩
                              rw [hk1]
                              exact least_same (by rw [← hk1]; exact HLS.out) hz HY.out (of_decide_eq_false hc)
                        · exact ⟨false, ⟨(fun h => by cases h), fun _ => least_no HLS.out HY.out (fun h => h1 h.1)⟩, .inl ⟨rfl, h1⟩⟩
                      obtain ⟨hbr, hbc⟩ := hbb
                      have HBRT := Lib.hid hbr
                      have HBC := Lib.hid hbc
                      clear hbr hbc
                      go_upto_region 26 with (fail)
                      go_cut [123] (fun v wx => v = .bool bb ∧ Hid (Below w7.heap.size w7 wx))
                      case first =>
                        rcases HBC.out with ⟨rfl, h1⟩ | ⟨rfl, h1, h2⟩ | ⟨rfl, h1, h2, rfl⟩ | ⟨m, z, rfl, hm, hz, h1, h2, h3⟩
                        · have e1 : decide (0 < q1 y.id) = false := decide_eq_false h1
                          clear h1
                          refine wp_region_held_drew (S := fun w' => Below w7.heap.size w7 w') (by kernel_rfl) ((below_draws HBi.out 1 : Below w7.heap.size w7 wr.drew)) (fun hS => ?_)
                          refine wpAnyH_take (i := 0) (v := (.slice (some ⟨g, 0, none⟩) l.length l.length)) rfl (by kernel_rfl) (by kernel_rfl) (by kernel_rfl) (fun _ _ _ h => h) (Or.inl ⟨by kernel_rfl, fun w' hS' => by go_simp⟩) hS ?_
                          refine wpAnyH_take (i := 1) (v := (.int .i64 (j : Int))) rfl (by kernel_rfl) (by kernel_rfl) (by kernel_rfl) (fun _ _ _ h => h) (Or.inl ⟨by kernel_rfl, fun w' hS' => by go_simp⟩) hS ?_
                          refine wpAnyH_take (i := 2) (v := (.pointer (some ⟨g, j, none⟩))) rfl (by kernel_rfl) (by kernel_rfl) (by kernel_rfl) (fun _ _ _ h => h) (Or.inl ⟨by kernel_rfl, fun w' hS' => by go_simp⟩) hS ?_
                          refine wpAnyH_take (i := 3) (v := (.int .i64 (q1 y.id))) rfl (by kernel_rfl) (by kernel_rfl) (by kernel_rfl) (fun _ _ _ h => h) (Or.inl ⟨by kernel_rfl, fun w' hS' => by obtain ⟨cl, ⟨s0, s1, s2, s3, s4, s5⟩, ⟨d0, d1, d2⟩, hzz⟩ := HALL.out w' hS'; go_simp⟩) hS ?_
                          refine wpAnyH_take (i := 4) (v := (.bool false)) rfl (by kernel_rfl) (by kernel_rfl) (by kernel_rfl) (fun _ _ _ h => h) (Or.inl ⟨by kernel_rfl, fun w' hS' => by go_simp⟩) hS ?_
                          refine wpAnyH_take (i := 5) (v := (.bool false)) rfl (by kernel_rfl) (by kernel_rfl) (by kernel_rfl) (fun _ _ _ h => h) (Or.inl ⟨by kernel_rfl, fun w' hS' => by go_simp⟩) hS ?_
                          refine wpAnyH_take (i := 6) (v := (undef)) rfl (by kernel_rfl) (by kernel_rfl) (by kernel_rfl) (fun _ _ _ h => h) (Or.inr ⟨by kernel_rfl, rfl⟩) hS ?_
                          refine wpAnyH_take (i := 7) (v := (undef)) rfl (by kernel_rfl) (by kernel_rfl) (by kernel_rfl) (fun _ _ _ h => h) (Or.inr ⟨by kernel_rfl, rfl⟩) hS ?_
                          refine wpAnyH_take (i := 8) (v := (undef)) rfl (by kernel_rfl) (by kernel_rfl) (by kernel_rfl) (fun _ _ _ h => h) (Or.inr ⟨by kernel_rfl, rfl⟩) hS ?_
                          refine wpAnyH_take (i := 9) (v := (undef)) rfl (by kernel_rfl) (by kernel_rfl) (by kernel_rfl) (fun _ _ _ h => h) (Or.inr ⟨by kernel_rfl, rfl⟩) hS ?_
                          refine wpAnyH_take (i := 10) (v := (undef)) rfl (by kernel_rfl) (by kernel_rfl) (by kernel_rfl) (fun _ _ _ h => h) (Or.inr ⟨by kernel_rfl, rfl⟩) hS ?_
                          refine wpAnyH_take (i := 11) (v := (undef)) rfl (by kernel_rfl) (by kernel_rfl) (by kernel_rfl) (fun _ _ _ h => h) (Or.inr ⟨by kernel_rfl, rfl⟩) hS ?_
                          refine wpAnyH_take (i := 12) (v := (undef)) rfl (by kernel_rfl) (by kernel_rfl) (by kernel_rfl) (fun _ _ _ h => h) (Or.inr ⟨by kernel_rfl, rfl⟩) hS ?_
                          refine wpAnyH_take (i := 13) (v := (undef)) rfl (by kernel_rfl) (by kernel_rfl) (by kernel_rfl) (fun _ _ _ h => h) (Or.inr ⟨by kernel_rfl, rfl⟩) hS ?_
                          refine wpAnyH_take (i := 14) (v := (undef)) rfl (by kernel_rfl) (by kernel_rfl) (by kernel_rfl) (fun _ _ _ h => h) (Or.inr ⟨by kernel_rfl, rfl⟩) hS ?_
                          refine wpAnyH_take (i := 15) (v := (.bool false)) rfl (by kernel_rfl) (by kernel_rfl) (by kernel_rfl) (fun _ _ _ h => h) (Or.inl ⟨by kernel_rfl, fun w' hS' => by go_simp⟩) hS ?_
                          refine wpAnyH_take (i := 16) (v := (.bool false)) rfl (by kernel_rfl) (by kernel_rfl) (by kernel_rfl) (fun _ _ _ h => h) (Or.inl ⟨by kernel_rfl, fun w' hS' => by go_simp⟩) hS ?_
                          refine wpAnyH_take (i := 17) (v := (undef)) rfl (by kernel_rfl) (by kernel_rfl) (by kernel_rfl) (fun _ _ _ h => h) (Or.inr ⟨by kernel_rfl, rfl⟩) hS ?_
                          refine wpAnyH_take (i := 18) (v := (undef)) rfl (by kernel_rfl) (by kernel_rfl) (by kernel_rfl) (fun _ _ _ h => h) (Or.inr ⟨by kernel_rfl, rfl⟩) hS ?_
                          refine wpAnyH_take (i := 19) (v := (undef)) rfl (by kernel_rfl) (by kernel_rfl) (by kernel_rfl) (fun _ _ _ h => h) (Or.inr ⟨by kernel_rfl, rfl⟩) hS ?_
                          refine wpAnyH_take (i := 20) (v := (undef)) rfl (by kernel_rfl) (by kernel_rfl) (by kernel_rfl) (fun _ _ _ h => h) (Or.inr ⟨by kernel_rfl, rfl⟩) hS ?_
                          refine wpAnyH_take (i := 21) (v := (undef)) rfl (by kernel_rfl) (by kernel_rfl) (by kernel_rfl) (fun _ _ _ h => h) (Or.inr ⟨by kernel_rfl, rfl⟩) hS ?_
                          refine wpAnyH_take (i := 22) (v := (undef)) rfl (by kernel_rfl) (by kernel_rfl) (by kernel_rfl) (fun _ _ _ h => h) (Or.inr ⟨by kernel_rfl, rfl⟩) hS ?_
                          refine wpAnyH_take (i := 23) (v := (undef)) rfl (by kernel_rfl) (by kernel_rfl) (by kernel_rfl) (fun _ _ _ h => h) (Or.inr ⟨by kernel_rfl, rfl⟩) hS ?_
                          refine wpAnyH_take (i := 24) (v := (undef)) rfl (by kernel_rfl) (by kernel_rfl) (by kernel_rfl) (fun _ _ _ h => h) (Or.inr ⟨by kernel_rfl, rfl⟩) hS ?_
                          refine wpAnyH_take (i := 25) (v := (undef)) rfl (by kernel_rfl) (by kernel_rfl) (by kernel_rfl) (fun _ _ _ h => h) (Or.inr ⟨by kernel_rfl, rfl⟩) hS ?_
                          refine wpAnyH_take (i := 26) (v := (undef)) rfl (by kernel_rfl) (by kernel_rfl) (by kernel_rfl) (fun _ _ _ h => h) (Or.inr ⟨by kernel_rfl, rfl⟩) hS ?_
                          refine wpAnyH_take (i := 27) (v := (undef)) rfl (by kernel_rfl) (by kernel_rfl) (by kernel_rfl) (fun _ _ _ h => h) (Or.inr ⟨by kernel_rfl, rfl⟩) hS ?_
                          refine wpAnyH_take (i := 28) (v := (undef)) rfl (by kernel_rfl) (by kernel_rfl) (by kernel_rfl) (fun _ _ _ h => h) (Or.inr ⟨by kernel_rfl, rfl⟩) hS ?_
                          refine wpAnyH_take (i := 29) (v := (undef)) rfl (by kernel_rfl) (by kernel_rfl) (by kernel_rfl) (fun _ _ _ h => h) (Or.inr ⟨by kernel_rfl, rfl⟩) hS ?_
                          refine wpAnyH_take (i := 30) (v := (undef)) rfl (by kernel_rfl) (by kernel_rfl) (by kernel_rfl) (fun _ _ _ h => h) (Or.inr ⟨by kernel_rfl, rfl⟩) hS ?_
                          refine wpAnyH_take (i := 31) (v := (.bool false)) rfl (by kernel_rfl) (by kernel_rfl) (by kernel_rfl) (fun _ _ _ h => h) (Or.inl ⟨by kernel_rfl, fun w' hS' => by go_simp⟩) hS ?_
                          refine wpAnyH_done (by kernel_rfl) ?_ _
                          go_simp
                          go_wp2_with fail
                          go_meet
                          exact ⟨rfl, Lib.hid hS⟩
                        · have e1 : decide (0 < q1 y.id) = true := decide_eq_true h1
                          have HSB := Lib.hid h2
                          clear h1 h2
                          refine wp_region_held_drew (S := fun w' => Below w7.heap.size w7 w') (by kernel_rfl) ((below_draws HBi.out 1 : Below w7.heap.size w7 wr.drew)) (fun hS => ?_)
                          refine wpAnyH_take (i := 0) (v := (.slice (some ⟨g, 0, none⟩) l.length l.length)) rfl (by kernel_rfl) (by kernel_rfl) (by kernel_rfl) (fun _ _ _ h => h) (Or.inl ⟨by kernel_rfl, fun w' hS' => by go_simp⟩) hS ?_
                          refine wpAnyH_take (i := 1) (v := (.int .i64 (j : Int))) rfl (by kernel_rfl) (by kernel_rfl) (by kernel_rfl) (fun _ _ _ h => h) (Or.inl ⟨by kernel_rfl, fun w' hS' => by go_simp⟩) hS ?_
                          refine wpAnyH_take (i := 2) (v := (.pointer (some ⟨g, j, none⟩))) rfl (by kernel_rfl) (by kernel_rfl) (by kernel_rfl) (fun _ _ _ h => h) (Or.inl ⟨by kernel_rfl, fun w' hS' => by go_simp⟩) hS ?_
                          refine wpAnyH_take (i := 3) (v := (.int .i64 (q1 y.id))) rfl (by kernel_rfl) (by kernel_rfl) (by kernel_rfl) (fun _ _ _ h => h) (Or.inl ⟨by kernel_rfl, fun w' hS' => by obtain ⟨cl, ⟨s0, s1, s2, s3, s4, s5⟩, ⟨d0, d1, d2⟩, hzz⟩ := HALL.out w' hS'; go_simp⟩) hS ?_
                          refine wpAnyH_take (i := 4) (v := (.bool true)) rfl (by kernel_rfl) (by kernel_rfl) (by kernel_rfl) (fun _ _ _ h => h) (Or.inl ⟨by kernel_rfl, fun w' hS' => by go_simp⟩) hS ?_
                          refine wpAnyH_take (i := 5) (v := (.bool true)) rfl (by kernel_rfl) (by kernel_rfl) (by kernel_rfl) (fun _ _ _ h => h) (Or.inl ⟨by kernel_rfl, fun w' hS' => by go_simp⟩) hS ?_
                          refine wpAnyH_take (i := 6) (v := (.slice (some ad1) l.length c)) rfl (by kernel_rfl) (by kernel_rfl) (by kernel_rfl) (fun _ _ _ h => h) (Or.inl ⟨by kernel_rfl, fun w' hS' => by go_simp⟩) hS ?_
                          refine wpAnyH_take (i := 7) (v := (.int .i64 (j : Int))) rfl (by kernel_rfl) (by kernel_rfl) (by kernel_rfl) (fun _ _ _ h => h) (Or.inl ⟨by kernel_rfl, fun w' hS' => by go_simp⟩) hS ?_
                          refine wpAnyH_take (i := 8) (v := (.pointer (some (ad1.add (j * 6))))) rfl (by kernel_rfl) (by kernel_rfl) (by kernel_rfl) (fun _ _ _ h => h) (Or.inl ⟨by kernel_rfl, fun w' hS' => by go_simp⟩) hS ?_
                          refine wpAnyH_take (i := 9) (v := (.agg #[.int .i64 y.id, .string ⟨y.item.toArray⟩, .int .i64 y.fr, .int .i64 y.un, .int .i64 y.qty, .bool y.arr])) rfl (by kernel_rfl) (by kernel_rfl) (by kernel_rfl) (fun _ _ _ h => h) (Or.inl ⟨by kernel_rfl, fun w' hS' => by obtain ⟨cl, ⟨s0, s1, s2, s3, s4, s5⟩, ⟨d0, d1, d2⟩, hzz⟩ := HALL.out w' hS'; go_simp⟩) hS ?_
                          refine wpAnyH_take (i := 10) (v := (.slice (some ad) ws.length c2)) rfl (by kernel_rfl) (by kernel_rfl) (by kernel_rfl) (fun _ _ _ h => h) (Or.inl ⟨by kernel_rfl, fun w' hS' => by go_simp⟩) hS ?_
                          refine wpAnyH_take (i := 11) (v := (.int .i64 (p : Int))) rfl (by kernel_rfl) (by kernel_rfl) (by kernel_rfl) (fun _ _ _ h => h) (Or.inl ⟨by kernel_rfl, fun w' hS' => by go_simp⟩) hS ?_
                          refine wpAnyH_take (i := 12) (v := (.pointer (some (ad.add (p * 3))))) rfl (by kernel_rfl) (by kernel_rfl) (by kernel_rfl) (fun _ _ _ h => h) (Or.inl ⟨by kernel_rfl, fun w' hS' => by go_simp⟩) hS ?_
                          refine wpAnyH_take (i := 13) (v := (.agg #[.string ⟨x.item.toArray⟩, .int .i64 x.day, .int .i64 x.qty])) rfl (by kernel_rfl) (by kernel_rfl) (by kernel_rfl) (fun _ _ _ h => h) (Or.inl ⟨by kernel_rfl, fun w' hS' => by obtain ⟨cl, ⟨s0, s1, s2, s3, s4, s5⟩, ⟨d0, d1, d2⟩, hzz⟩ := HALL.out w' hS'; go_simp⟩) hS ?_
                          refine wpAnyH_ready (rs := [14]) (by kernel_rfl) (by simp) ?_
                          refine AllReadyH.cons rfl (fun K hK => ?_) AllReadyH.nil
                          go_simp
                          refine (rserves_b false y x _ HSB.out).mono ?_
                          rintro e w9 ⟨rfl, hb9'⟩
                          have hb9 := Lib.hid hb9'
                          clear hb9'
                          refine hK.out _ _ (hS.trans (hb9.out.mono hS.size)) (fun hS => ?_)
                          clear hK K
                          refine wpAnyH_take (i := 15) (v := (.bool false)) rfl (by kernel_rfl) (by kernel_rfl) (by kernel_rfl) (fun _ _ _ h => h) (Or.inl ⟨by kernel_rfl, fun w' hS' => by go_simp⟩) hS ?_
                          refine wpAnyH_take (i := 16) (v := (.bool false)) rfl (by kernel_rfl) (by kernel_rfl) (by kernel_rfl) (fun _ _ _ h => h) (Or.inl ⟨by kernel_rfl, fun w' hS' => by go_simp⟩) hS ?_
                          refine wpAnyH_take (i := 17) (v := (undef)) rfl (by kernel_rfl) (by kernel_rfl) (by kernel_rfl) (fun _ _ _ h => h) (Or.inr ⟨by kernel_rfl, rfl⟩) hS ?_
                          refine wpAnyH_take (i := 18) (v := (undef)) rfl (by kernel_rfl) (by kernel_rfl) (by kernel_rfl) (fun _ _ _ h => h) (Or.inr ⟨by kernel_rfl, rfl⟩) hS ?_
                          refine wpAnyH_take (i := 19) (v := (undef)) rfl (by kernel_rfl) (by kernel_rfl) (by kernel_rfl) (fun _ _ _ h => h) (Or.inr ⟨by kernel_rfl, rfl⟩) hS ?_
                          refine wpAnyH_take (i := 20) (v := (undef)) rfl (by kernel_rfl) (by kernel_rfl) (by kernel_rfl) (fun _ _ _ h => h) (Or.inr ⟨by kernel_rfl, rfl⟩) hS ?_
                          refine wpAnyH_take (i := 21) (v := (undef)) rfl (by kernel_rfl) (by kernel_rfl) (by kernel_rfl) (fun _ _ _ h => h) (Or.inr ⟨by kernel_rfl, rfl⟩) hS ?_
                          refine wpAnyH_take (i := 22) (v := (undef)) rfl (by kernel_rfl) (by kernel_rfl) (by kernel_rfl) (fun _ _ _ h => h) (Or.inr ⟨by kernel_rfl, rfl⟩) hS ?_
                          refine wpAnyH_take (i := 23) (v := (undef)) rfl (by kernel_rfl) (by kernel_rfl) (by kernel_rfl) (fun _ _ _ h => h) (Or.inr ⟨by kernel_rfl, rfl⟩) hS ?_
                          refine wpAnyH_take (i := 24) (v := (undef)) rfl (by kernel_rfl) (by kernel_rfl) (by kernel_rfl) (fun _ _ _ h => h) (Or.inr ⟨by kernel_rfl, rfl⟩) hS ?_
                          refine wpAnyH_take (i := 25) (v := (undef)) rfl (by kernel_rfl) (by kernel_rfl) (by kernel_rfl) (fun _ _ _ h => h) (Or.inr ⟨by kernel_rfl, rfl⟩) hS ?_
                          refine wpAnyH_take (i := 26) (v := (undef)) rfl (by kernel_rfl) (by kernel_rfl) (by kernel_rfl) (fun _ _ _ h => h) (Or.inr ⟨by kernel_rfl, rfl⟩) hS ?_
                          refine wpAnyH_take (i := 27) (v := (undef)) rfl (by kernel_rfl) (by kernel_rfl) (by kernel_rfl) (fun _ _ _ h => h) (Or.inr ⟨by kernel_rfl, rfl⟩) hS ?_
                          refine wpAnyH_take (i := 28) (v := (undef)) rfl (by kernel_rfl) (by kernel_rfl) (by kernel_rfl) (fun _ _ _ h => h) (Or.inr ⟨by kernel_rfl, rfl⟩) hS ?_
                          refine wpAnyH_take (i := 29) (v := (undef)) rfl (by kernel_rfl) (by kernel_rfl) (by kernel_rfl) (fun _ _ _ h => h) (Or.inr ⟨by kernel_rfl, rfl⟩) hS ?_
                          refine wpAnyH_take (i := 30) (v := (undef)) rfl (by kernel_rfl) (by kernel_rfl) (by kernel_rfl) (fun _ _ _ h => h) (Or.inr ⟨by kernel_rfl, rfl⟩) hS ?_
                          refine wpAnyH_take (i := 31) (v := (.bool false)) rfl (by kernel_rfl) (by kernel_rfl) (by kernel_rfl) (fun _ _ _ h => h) (Or.inl ⟨by kernel_rfl, fun w' hS' => by go_simp⟩) hS ?_
                          refine wpAnyH_done (by kernel_rfl) ?_ _
                          go_simp
                          go_wp2_with fail
                          go_meet
                          exact ⟨rfl, Lib.hid hS⟩
                        · have e1 : decide (0 < q1 y.id) = true := decide_eq_true h1
                          have HSB := Lib.hid h2
                          clear h1 h2
                          refine wp_region_held_drew (S := fun w' => Below w7.heap.size w7 w') (by kernel_rfl) ((below_draws HBi.out 1 : Below w7.heap.size w7 wr.drew)) (fun hS => ?_)
                          refine wpAnyH_take (i := 0) (v := (.slice (some ⟨g, 0, none⟩) l.length l.length)) rfl (by kernel_rfl) (by kernel_rfl) (by kernel_rfl) (fun _ _ _ h => h) (Or.inl ⟨by kernel_rfl, fun w' hS' => by go_simp⟩) hS ?_
                          refine wpAnyH_take (i := 1) (v := (.int .i64 (j : Int))) rfl (by kernel_rfl) (by kernel_rfl) (by kernel_rfl) (fun _ _ _ h => h) (Or.inl ⟨by kernel_rfl, fun w' hS' => by go_simp⟩) hS ?_
                          refine wpAnyH_take (i := 2) (v := (.pointer (some ⟨g, j, none⟩))) rfl (by kernel_rfl) (by kernel_rfl) (by kernel_rfl) (fun _ _ _ h => h) (Or.inl ⟨by kernel_rfl, fun w' hS' => by go_simp⟩) hS ?_
                          refine wpAnyH_take (i := 3) (v := (.int .i64 (q1 y.id))) rfl (by kernel_rfl) (by kernel_rfl) (by kernel_rfl) (fun _ _ _ h => h) (Or.inl ⟨by kernel_rfl, fun w' hS' => by obtain ⟨cl, ⟨s0, s1, s2, s3, s4, s5⟩, ⟨d0, d1, d2⟩, hzz⟩ := HALL.out w' hS'; go_simp⟩) hS ?_
                          refine wpAnyH_take (i := 4) (v := (.bool true)) rfl (by kernel_rfl) (by kernel_rfl) (by kernel_rfl) (fun _ _ _ h => h) (Or.inl ⟨by kernel_rfl, fun w' hS' => by go_simp⟩) hS ?_
                          refine wpAnyH_take (i := 5) (v := (.bool true)) rfl (by kernel_rfl) (by kernel_rfl) (by kernel_rfl) (fun _ _ _ h => h) (Or.inl ⟨by kernel_rfl, fun w' hS' => by go_simp⟩) hS ?_
                          refine wpAnyH_take (i := 6) (v := (.slice (some ad1) l.length c)) rfl (by kernel_rfl) (by kernel_rfl) (by kernel_rfl) (fun _ _ _ h => h) (Or.inl ⟨by kernel_rfl, fun w' hS' => by go_simp⟩) hS ?_
                          refine wpAnyH_take (i := 7) (v := (.int .i64 (j : Int))) rfl (by kernel_rfl) (by kernel_rfl) (by kernel_rfl) (fun _ _ _ h => h) (Or.inl ⟨by kernel_rfl, fun w' hS' => by go_simp⟩) hS ?_
                          refine wpAnyH_take (i := 8) (v := (.pointer (some (ad1.add (j * 6))))) rfl (by kernel_rfl) (by kernel_rfl) (by kernel_rfl) (fun _ _ _ h => h) (Or.inl ⟨by kernel_rfl, fun w' hS' => by go_simp⟩) hS ?_
                          refine wpAnyH_take (i := 9) (v := (.agg #[.int .i64 y.id, .string ⟨y.item.toArray⟩, .int .i64 y.fr, .int .i64 y.un, .int .i64 y.qty, .bool y.arr])) rfl (by kernel_rfl) (by kernel_rfl) (by kernel_rfl) (fun _ _ _ h => h) (Or.inl ⟨by kernel_rfl, fun w' hS' => by obtain ⟨cl, ⟨s0, s1, s2, s3, s4, s5⟩, ⟨d0, d1, d2⟩, hzz⟩ := HALL.out w' hS'; go_simp⟩) hS ?_
                          refine wpAnyH_take (i := 10) (v := (.slice (some ad) ws.length c2)) rfl (by kernel_rfl) (by kernel_rfl) (by kernel_rfl) (fun _ _ _ h => h) (Or.inl ⟨by kernel_rfl, fun w' hS' => by go_simp⟩) hS ?_
                          refine wpAnyH_take (i := 11) (v := (.int .i64 (p : Int))) rfl (by kernel_rfl) (by kernel_rfl) (by kernel_rfl) (fun _ _ _ h => h) (Or.inl ⟨by kernel_rfl, fun w' hS' => by go_simp⟩) hS ?_
                          refine wpAnyH_take (i := 12) (v := (.pointer (some (ad.add (p * 3))))) rfl (by kernel_rfl) (by kernel_rfl) (by kernel_rfl) (fun _ _ _ h => h) (Or.inl ⟨by kernel_rfl, fun w' hS' => by go_simp⟩) hS ?_
                          refine wpAnyH_take (i := 13) (v := (.agg #[.string ⟨x.item.toArray⟩, .int .i64 x.day, .int .i64 x.qty])) rfl (by kernel_rfl) (by kernel_rfl) (by kernel_rfl) (fun _ _ _ h => h) (Or.inl ⟨by kernel_rfl, fun w' hS' => by obtain ⟨cl, ⟨s0, s1, s2, s3, s4, s5⟩, ⟨d0, d1, d2⟩, hzz⟩ := HALL.out w' hS'; go_simp⟩) hS ?_
                          refine wpAnyH_ready (rs := [14]) (by kernel_rfl) (by simp) ?_
                          refine AllReadyH.cons rfl (fun K hK => ?_) AllReadyH.nil
                          go_simp
                          refine (rserves_b true y x _ HSB.out).mono ?_
                          rintro e w9 ⟨rfl, hb9'⟩
                          have hb9 := Lib.hid hb9'
                          clear hb9'
                          refine hK.out _ _ (hS.trans (hb9.out.mono hS.size)) (fun hS => ?_)
                          clear hK K
                          refine wpAnyH_take (i := 15) (v := (.bool true)) rfl (by kernel_rfl) (by kernel_rfl) (by kernel_rfl) (fun _ _ _ h => h) (Or.inl ⟨by kernel_rfl, fun w' hS' => by go_simp⟩) hS ?_
                          refine wpAnyH_take (i := 16) (v := (.bool true)) rfl (by kernel_rfl) (by kernel_rfl) (by kernel_rfl) (fun _ _ _ h => h) (Or.inl ⟨by kernel_rfl, fun w' hS' => by go_simp⟩) hS ?_
                          refine wpAnyH_take (i := 17) (v := (.int .i64 (-1))) rfl (by kernel_rfl) (by kernel_rfl) (by kernel_rfl) (fun _ _ _ h => h) (Or.inl ⟨by kernel_rfl, fun w' hS' => by go_simp⟩) hS ?_
                          refine wpAnyH_take (i := 18) (v := (.bool true)) rfl (by kernel_rfl) (by kernel_rfl) (by kernel_rfl) (fun _ _ _ h => h) (Or.inl ⟨by kernel_rfl, fun w' hS' => by go_simp⟩) hS ?_
                          refine wpAnyH_take (i := 19) (v := (.bool true)) rfl (by kernel_rfl) (by kernel_rfl) (by kernel_rfl) (fun _ _ _ h => h) (Or.inl ⟨by kernel_rfl, fun w' hS' => by go_simp⟩) hS ?_
                          refine wpAnyH_take (i := 20) (v := (undef)) rfl (by kernel_rfl) (by kernel_rfl) (by kernel_rfl) (fun _ _ _ h => h) (Or.inr ⟨by kernel_rfl, rfl⟩) hS ?_
                          refine wpAnyH_take (i := 21) (v := (undef)) rfl (by kernel_rfl) (by kernel_rfl) (by kernel_rfl) (fun _ _ _ h => h) (Or.inr ⟨by kernel_rfl, rfl⟩) hS ?_
                          refine wpAnyH_take (i := 22) (v := (undef)) rfl (by kernel_rfl) (by kernel_rfl) (by kernel_rfl) (fun _ _ _ h => h) (Or.inr ⟨by kernel_rfl, rfl⟩) hS ?_
                          refine wpAnyH_take (i := 23) (v := (undef)) rfl (by kernel_rfl) (by kernel_rfl) (by kernel_rfl) (fun _ _ _ h => h) (Or.inr ⟨by kernel_rfl, rfl⟩) hS ?_
                          refine wpAnyH_take (i := 24) (v := (undef)) rfl (by kernel_rfl) (by kernel_rfl) (by kernel_rfl) (fun _ _ _ h => h) (Or.inr ⟨by kernel_rfl, rfl⟩) hS ?_
                          refine wpAnyH_take (i := 25) (v := (undef)) rfl (by kernel_rfl) (by kernel_rfl) (by kernel_rfl) (fun _ _ _ h => h) (Or.inr ⟨by kernel_rfl, rfl⟩) hS ?_
                          refine wpAnyH_take (i := 26) (v := (undef)) rfl (by kernel_rfl) (by kernel_rfl) (by kernel_rfl) (fun _ _ _ h => h) (Or.inr ⟨by kernel_rfl, rfl⟩) hS ?_
                          refine wpAnyH_take (i := 27) (v := (undef)) rfl (by kernel_rfl) (by kernel_rfl) (by kernel_rfl) (fun _ _ _ h => h) (Or.inr ⟨by kernel_rfl, rfl⟩) hS ?_
                          refine wpAnyH_take (i := 28) (v := (undef)) rfl (by kernel_rfl) (by kernel_rfl) (by kernel_rfl) (fun _ _ _ h => h) (Or.inr ⟨by kernel_rfl, rfl⟩) hS ?_
                          refine wpAnyH_take (i := 29) (v := (undef)) rfl (by kernel_rfl) (by kernel_rfl) (by kernel_rfl) (fun _ _ _ h => h) (Or.inr ⟨by kernel_rfl, rfl⟩) hS ?_
                          refine wpAnyH_take (i := 30) (v := (.bool true)) rfl (by kernel_rfl) (by kernel_rfl) (by kernel_rfl) (fun _ _ _ h => h) (Or.inl ⟨by kernel_rfl, fun w' hS' => by go_simp⟩) hS ?_
                          refine wpAnyH_take (i := 31) (v := (.bool true)) rfl (by kernel_rfl) (by kernel_rfl) (by kernel_rfl) (fun _ _ _ h => h) (Or.inl ⟨by kernel_rfl, fun w' hS' => by go_simp⟩) hS ?_
                          refine wpAnyH_done (by kernel_rfl) ?_ _
                          go_simp
                          go_wp2_with fail
                          go_meet
                          exact ⟨rfl, Lib.hid hS⟩
                        · have e1 : decide (0 < q1 y.id) = true := decide_eq_true h1
                          have HSB := Lib.hid h2
                          have hm0 : decide ((m : Int) < 0) = false := decide_eq_false (by omega)
                          have HALZ : Hid (∀ w', Below w7.heap.size w7 w' → Six w' (ad1.add (m * 6)) z) := Lib.hid (fun w' h => by
                            have hb := HB7.out.trans (h.mono HB7.out.size)
                            obtain ⟨a1, e1, _, h6⟩ := (HL1.out.below hb).six hz
                            cases e1
                            exact h6)
                          have hmll : m < l.length := by omega
                          obtain ⟨cc, hcc⟩ : ∃ cc, cmpL y z = cc := ⟨_, rfl⟩
                          have HCC := Lib.hid hcc
                          rw [hcc] at h3
                          clear h1 h2 hz hcc
                          by_cases hl : cc < 0
                          · have HLE : Hid (decide (cc < 0) = true) := Lib.hid (decide_eq_true hl)
                            rw [HLE.out] at h3
                            subst h3
                            clear hl
                            refine wp_region_held_drew (S := fun w' => Below w7.heap.size w7 w') (by kernel_rfl) ((below_draws HBi.out 1 : Below w7.heap.size w7 wr.drew)) (fun hS => ?_)
                            refine wpAnyH_take (i := 0) (v := (.slice (some ⟨g, 0, none⟩) l.length l.length)) rfl (by kernel_rfl) (by kernel_rfl) (by kernel_rfl) (fun _ _ _ h => h) (Or.inl ⟨by kernel_rfl, fun w' hS' => by go_simp⟩) hS ?_
                            refine wpAnyH_take (i := 1) (v := (.int .i64 (j : Int))) rfl (by kernel_rfl) (by kernel_rfl) (by kernel_rfl) (fun _ _ _ h => h) (Or.inl ⟨by kernel_rfl, fun w' hS' => by go_simp⟩) hS ?_
                            refine wpAnyH_take (i := 2) (v := (.pointer (some ⟨g, j, none⟩))) rfl (by kernel_rfl) (by kernel_rfl) (by kernel_rfl) (fun _ _ _ h => h) (Or.inl ⟨by kernel_rfl, fun w' hS' => by go_simp⟩) hS ?_
                            refine wpAnyH_take (i := 3) (v := (.int .i64 (q1 y.id))) rfl (by kernel_rfl) (by kernel_rfl) (by kernel_rfl) (fun _ _ _ h => h) (Or.inl ⟨by kernel_rfl, fun w' hS' => by obtain ⟨cl, ⟨s0, s1, s2, s3, s4, s5⟩, ⟨d0, d1, d2⟩, hzz⟩ := HALL.out w' hS'; go_simp⟩) hS ?_
                            refine wpAnyH_take (i := 4) (v := (.bool true)) rfl (by kernel_rfl) (by kernel_rfl) (by kernel_rfl) (fun _ _ _ h => h) (Or.inl ⟨by kernel_rfl, fun w' hS' => by go_simp⟩) hS ?_
                            refine wpAnyH_take (i := 5) (v := (.bool true)) rfl (by kernel_rfl) (by kernel_rfl) (by kernel_rfl) (fun _ _ _ h => h) (Or.inl ⟨by kernel_rfl, fun w' hS' => by go_simp⟩) hS ?_
                            refine wpAnyH_take (i := 6) (v := (.slice (some ad1) l.length c)) rfl (by kernel_rfl) (by kernel_rfl) (by kernel_rfl) (fun _ _ _ h => h) (Or.inl ⟨by kernel_rfl, fun w' hS' => by go_simp⟩) hS ?_
                            refine wpAnyH_take (i := 7) (v := (.int .i64 (j : Int))) rfl (by kernel_rfl) (by kernel_rfl) (by kernel_rfl) (fun _ _ _ h => h) (Or.inl ⟨by kernel_rfl, fun w' hS' => by go_simp⟩) hS ?_
                            refine wpAnyH_take (i := 8) (v := (.pointer (some (ad1.add (j * 6))))) rfl (by kernel_rfl) (by kernel_rfl) (by kernel_rfl) (fun _ _ _ h => h) (Or.inl ⟨by kernel_rfl, fun w' hS' => by go_simp⟩) hS ?_
                            refine wpAnyH_take (i := 9) (v := (.agg #[.int .i64 y.id, .string ⟨y.item.toArray⟩, .int .i64 y.fr, .int .i64 y.un, .int .i64 y.qty, .bool y.arr])) rfl (by kernel_rfl) (by kernel_rfl) (by kernel_rfl) (fun _ _ _ h => h) (Or.inl ⟨by kernel_rfl, fun w' hS' => by obtain ⟨cl, ⟨s0, s1, s2, s3, s4, s5⟩, ⟨d0, d1, d2⟩, hzz⟩ := HALL.out w' hS'; go_simp⟩) hS ?_
                            refine wpAnyH_take (i := 10) (v := (.slice (some ad) ws.length c2)) rfl (by kernel_rfl) (by kernel_rfl) (by kernel_rfl) (fun _ _ _ h => h) (Or.inl ⟨by kernel_rfl, fun w' hS' => by go_simp⟩) hS ?_
                            refine wpAnyH_take (i := 11) (v := (.int .i64 (p : Int))) rfl (by kernel_rfl) (by kernel_rfl) (by kernel_rfl) (fun _ _ _ h => h) (Or.inl ⟨by kernel_rfl, fun w' hS' => by go_simp⟩) hS ?_
                            refine wpAnyH_take (i := 12) (v := (.pointer (some (ad.add (p * 3))))) rfl (by kernel_rfl) (by kernel_rfl) (by kernel_rfl) (fun _ _ _ h => h) (Or.inl ⟨by kernel_rfl, fun w' hS' => by go_simp⟩) hS ?_
                            refine wpAnyH_take (i := 13) (v := (.agg #[.string ⟨x.item.toArray⟩, .int .i64 x.day, .int .i64 x.qty])) rfl (by kernel_rfl) (by kernel_rfl) (by kernel_rfl) (fun _ _ _ h => h) (Or.inl ⟨by kernel_rfl, fun w' hS' => by obtain ⟨cl, ⟨s0, s1, s2, s3, s4, s5⟩, ⟨d0, d1, d2⟩, hzz⟩ := HALL.out w' hS'; go_simp⟩) hS ?_
                            refine wpAnyH_ready (rs := [14]) (by kernel_rfl) (by simp) ?_
                            refine AllReadyH.cons rfl (fun K hK => ?_) AllReadyH.nil
                            go_simp
                            refine (rserves_b true y x _ HSB.out).mono ?_
                            rintro e w9 ⟨rfl, hb9'⟩
                            have hb9 := Lib.hid hb9'
                            clear hb9'
                            refine hK.out _ _ (hS.trans (hb9.out.mono hS.size)) (fun hS => ?_)
                            clear hK K
                            refine wpAnyH_take (i := 15) (v := (.bool true)) rfl (by kernel_rfl) (by kernel_rfl) (by kernel_rfl) (fun _ _ _ h => h) (Or.inl ⟨by kernel_rfl, fun w' hS' => by go_simp⟩) hS ?_
                            refine wpAnyH_take (i := 16) (v := (.bool true)) rfl (by kernel_rfl) (by kernel_rfl) (by kernel_rfl) (fun _ _ _ h => h) (Or.inl ⟨by kernel_rfl, fun w' hS' => by go_simp⟩) hS ?_
                            refine wpAnyH_take (i := 17) (v := (.int .i64 (m : Int))) rfl (by kernel_rfl) (by kernel_rfl) (by kernel_rfl) (fun _ _ _ h => h) (Or.inl ⟨by kernel_rfl, fun w' hS' => by go_simp⟩) hS ?_
                            refine wpAnyH_take (i := 18) (v := (.bool false)) rfl (by kernel_rfl) (by kernel_rfl) (by kernel_rfl) (fun _ _ _ h => h) (Or.inl ⟨by kernel_rfl, fun w' hS' => by go_simp⟩) hS ?_
                            refine wpAnyH_take (i := 19) (v := (.bool false)) rfl (by kernel_rfl) (by kernel_rfl) (by kernel_rfl) (fun _ _ _ h => h) (Or.inl ⟨by kernel_rfl, fun w' hS' => by go_simp⟩) hS ?_
                            refine wpAnyH_take (i := 20) (v := (.slice (some ad1) l.length c)) rfl (by kernel_rfl) (by kernel_rfl) (by kernel_rfl) (fun _ _ _ h => h) (Or.inl ⟨by kernel_rfl, fun w' hS' => by go_simp⟩) hS ?_
                            refine wpAnyH_take (i := 21) (v := (.int .i64 (j : Int))) rfl (by kernel_rfl) (by kernel_rfl) (by kernel_rfl) (fun _ _ _ h => h) (Or.inl ⟨by kernel_rfl, fun w' hS' => by go_simp⟩) hS ?_
                            refine wpAnyH_take (i := 22) (v := (.pointer (some (ad1.add (j * 6))))) rfl (by kernel_rfl) (by kernel_rfl) (by kernel_rfl) (fun _ _ _ h => h) (Or.inl ⟨by kernel_rfl, fun w' hS' => by go_simp⟩) hS ?_
                            refine wpAnyH_take (i := 23) (v := (.agg #[.int .i64 y.id, .string ⟨y.item.toArray⟩, .int .i64 y.fr, .int .i64 y.un, .int .i64 y.qty, .bool y.arr])) rfl (by kernel_rfl) (by kernel_rfl) (by kernel_rfl) (fun _ _ _ h => h) (Or.inl ⟨by kernel_rfl, fun w' hS' => by obtain ⟨cl, ⟨s0, s1, s2, s3, s4, s5⟩, ⟨d0, d1, d2⟩, hzz⟩ := HALL.out w' hS'; go_simp⟩) hS ?_
                            refine wpAnyH_take (i := 24) (v := (.slice (some ad1) l.length c)) rfl (by kernel_rfl) (by kernel_rfl) (by kernel_rfl) (fun _ _ _ h => h) (Or.inl ⟨by kernel_rfl, fun w' hS' => by go_simp⟩) hS ?_
                            refine wpAnyH_take (i := 25) (v := (.int .i64 (m : Int))) rfl (by kernel_rfl) (by kernel_rfl) (by kernel_rfl) (fun _ _ _ h => h) (Or.inl ⟨by kernel_rfl, fun w' hS' => by go_simp⟩) hS ?_
                            refine wpAnyH_take (i := 26) (v := (.pointer (some (ad1.add (m * 6))))) rfl (by kernel_rfl) (by kernel_rfl) (by kernel_rfl) (fun _ _ _ h => h) (Or.inl ⟨by kernel_rfl, fun w' hS' => by go_simp⟩) hS ?_
                            refine wpAnyH_take (i := 27) (v := (.agg #[.int .i64 z.id, .string ⟨z.item.toArray⟩, .int .i64 z.fr, .int .i64 z.un, .int .i64 z.qty, .bool z.arr])) rfl (by kernel_rfl) (by kernel_rfl) (by kernel_rfl) (fun _ _ _ h => h) (Or.inl ⟨by kernel_rfl, fun w' hS' => by obtain ⟨cl, ⟨s0, s1, s2, s3, s4, s5⟩, ⟨d0, d1, d2⟩, hzz⟩ := HALL.out w' hS'; obtain ⟨z0, z1, z2, z3, z4, z5⟩ := HALZ.out w' hS'; go_simp⟩) hS ?_
                            refine wpAnyH_ready (rs := [28]) (by kernel_rfl) (by simp) ?_
                            refine AllReadyH.cons rfl (fun K hK => ?_) AllReadyH.nil
                            go_simp
                            refine (comparer_any y z _).mono ?_
                            rintro e w10 ⟨rfl, hb10'⟩
                            rw [HCC.out]
                            have hb10 := Lib.hid hb10'
                            clear hb10'
                            refine hK.out _ _ (hS.trans (hb10.out.mono hS.size)) (fun hS => ?_)
                            clear hK K
                            refine wpAnyH_take (i := 29) (v := (.bool true)) rfl (by kernel_rfl) (by kernel_rfl) (by kernel_rfl) (fun _ _ _ h => h) (Or.inl ⟨by kernel_rfl, fun w' hS' => by have hl := HLE.out; go_simp⟩) hS ?_
                            refine wpAnyH_take (i := 30) (v := (.bool true)) rfl (by kernel_rfl) (by kernel_rfl) (by kernel_rfl) (fun _ _ _ h => h) (Or.inl ⟨by kernel_rfl, fun w' hS' => by go_simp⟩) hS ?_
                            refine wpAnyH_take (i := 31) (v := (.bool true)) rfl (by kernel_rfl) (by kernel_rfl) (by kernel_rfl) (fun _ _ _ h => h) (Or.inl ⟨by kernel_rfl, fun w' hS' => by go_simp⟩) hS ?_
                            refine wpAnyH_done (by kernel_rfl) ?_ _
                            go_simp
                            go_wp2_with fail
                            go_meet
                            exact ⟨rfl, Lib.hid hS⟩
                          · have HLE : Hid (decide (cc < 0) = false) := Lib.hid (decide_eq_false hl)
                            rw [HLE.out] at h3
                            subst h3
                            clear hl
                            refine wp_region_held_drew (S := fun w' => Below w7.heap.size w7 w') (by kernel_rfl) ((below_draws HBi.out 1 : Below w7.heap.size w7 wr.drew)) (fun hS => ?_)
                            refine wpAnyH_take (i := 0) (v := (.slice (some ⟨g, 0, none⟩) l.length l.length)) rfl (by kernel_rfl) (by kernel_rfl) (by kernel_rfl) (fun _ _ _ h => h) (Or.inl ⟨by kernel_rfl, fun w' hS' => by go_simp⟩) hS ?_
                            refine wpAnyH_take (i := 1) (v := (.int .i64 (j : Int))) rfl (by kernel_rfl) (by kernel_rfl) (by kernel_rfl) (fun _ _ _ h => h) (Or.inl ⟨by kernel_rfl, fun w' hS' => by go_simp⟩) hS ?_
                            refine wpAnyH_take (i := 2) (v := (.pointer (some ⟨g, j, none⟩))) rfl (by kernel_rfl) (by kernel_rfl) (by kernel_rfl) (fun _ _ _ h => h) (Or.inl ⟨by kernel_rfl, fun w' hS' => by go_simp⟩) hS ?_
                            refine wpAnyH_take (i := 3) (v := (.int .i64 (q1 y.id))) rfl (by kernel_rfl) (by kernel_rfl) (by kernel_rfl) (fun _ _ _ h => h) (Or.inl ⟨by kernel_rfl, fun w' hS' => by obtain ⟨cl, ⟨s0, s1, s2, s3, s4, s5⟩, ⟨d0, d1, d2⟩, hzz⟩ := HALL.out w' hS'; go_simp⟩) hS ?_
                            refine wpAnyH_take (i := 4) (v := (.bool true)) rfl (by kernel_rfl) (by kernel_rfl) (by kernel_rfl) (fun _ _ _ h => h) (Or.inl ⟨by kernel_rfl, fun w' hS' => by go_simp⟩) hS ?_
                            refine wpAnyH_take (i := 5) (v := (.bool true)) rfl (by kernel_rfl) (by kernel_rfl) (by kernel_rfl) (fun _ _ _ h => h) (Or.inl ⟨by kernel_rfl, fun w' hS' => by go_simp⟩) hS ?_
                            refine wpAnyH_take (i := 6) (v := (.slice (some ad1) l.length c)) rfl (by kernel_rfl) (by kernel_rfl) (by kernel_rfl) (fun _ _ _ h => h) (Or.inl ⟨by kernel_rfl, fun w' hS' => by go_simp⟩) hS ?_
                            refine wpAnyH_take (i := 7) (v := (.int .i64 (j : Int))) rfl (by kernel_rfl) (by kernel_rfl) (by kernel_rfl) (fun _ _ _ h => h) (Or.inl ⟨by kernel_rfl, fun w' hS' => by go_simp⟩) hS ?_
                            refine wpAnyH_take (i := 8) (v := (.pointer (some (ad1.add (j * 6))))) rfl (by kernel_rfl) (by kernel_rfl) (by kernel_rfl) (fun _ _ _ h => h) (Or.inl ⟨by kernel_rfl, fun w' hS' => by go_simp⟩) hS ?_
                            refine wpAnyH_take (i := 9) (v := (.agg #[.int .i64 y.id, .string ⟨y.item.toArray⟩, .int .i64 y.fr, .int .i64 y.un, .int .i64 y.qty, .bool y.arr])) rfl (by kernel_rfl) (by kernel_rfl) (by kernel_rfl) (fun _ _ _ h => h) (Or.inl ⟨by kernel_rfl, fun w' hS' => by obtain ⟨cl, ⟨s0, s1, s2, s3, s4, s5⟩, ⟨d0, d1, d2⟩, hzz⟩ := HALL.out w' hS'; go_simp⟩) hS ?_
                            refine wpAnyH_take (i := 10) (v := (.slice (some ad) ws.length c2)) rfl (by kernel_rfl) (by kernel_rfl) (by kernel_rfl) (fun _ _ _ h => h) (Or.inl ⟨by kernel_rfl, fun w' hS' => by go_simp⟩) hS ?_
                            refine wpAnyH_take (i := 11) (v := (.int .i64 (p : Int))) rfl (by kernel_rfl) (by kernel_rfl) (by kernel_rfl) (fun _ _ _ h => h) (Or.inl ⟨by kernel_rfl, fun w' hS' => by go_simp⟩) hS ?_
                            refine wpAnyH_take (i := 12) (v := (.pointer (some (ad.add (p * 3))))) rfl (by kernel_rfl) (by kernel_rfl) (by kernel_rfl) (fun _ _ _ h => h) (Or.inl ⟨by kernel_rfl, fun w' hS' => by go_simp⟩) hS ?_
                            refine wpAnyH_take (i := 13) (v := (.agg #[.string ⟨x.item.toArray⟩, .int .i64 x.day, .int .i64 x.qty])) rfl (by kernel_rfl) (by kernel_rfl) (by kernel_rfl) (fun _ _ _ h => h) (Or.inl ⟨by kernel_rfl, fun w' hS' => by obtain ⟨cl, ⟨s0, s1, s2, s3, s4, s5⟩, ⟨d0, d1, d2⟩, hzz⟩ := HALL.out w' hS'; go_simp⟩) hS ?_
                            refine wpAnyH_ready (rs := [14]) (by kernel_rfl) (by simp) ?_
                            refine AllReadyH.cons rfl (fun K hK => ?_) AllReadyH.nil
                            go_simp
                            refine (rserves_b true y x _ HSB.out).mono ?_
                            rintro e w9 ⟨rfl, hb9'⟩
                            have hb9 := Lib.hid hb9'
                            clear hb9'
                            refine hK.out _ _ (hS.trans (hb9.out.mono hS.size)) (fun hS => ?_)
                            clear hK K
                            refine wpAnyH_take (i := 15) (v := (.bool true)) rfl (by kernel_rfl) (by kernel_rfl) (by kernel_rfl) (fun _ _ _ h => h) (Or.inl ⟨by kernel_rfl, fun w' hS' => by go_simp⟩) hS ?_
                            refine wpAnyH_take (i := 16) (v := (.bool true)) rfl (by kernel_rfl) (by kernel_rfl) (by kernel_rfl) (fun _ _ _ h => h) (Or.inl ⟨by kernel_rfl, fun w' hS' => by go_simp⟩) hS ?_
                            refine wpAnyH_take (i := 17) (v := (.int .i64 (m : Int))) rfl (by kernel_rfl) (by kernel_rfl) (by kernel_rfl) (fun _ _ _ h => h) (Or.inl ⟨by kernel_rfl, fun w' hS' => by go_simp⟩) hS ?_
                            refine wpAnyH_take (i := 18) (v := (.bool false)) rfl (by kernel_rfl) (by kernel_rfl) (by kernel_rfl) (fun _ _ _ h => h) (Or.inl ⟨by kernel_rfl, fun w' hS' => by go_simp⟩) hS ?_
                            refine wpAnyH_take (i := 19) (v := (.bool false)) rfl (by kernel_rfl) (by kernel_rfl) (by kernel_rfl) (fun _ _ _ h => h) (Or.inl ⟨by kernel_rfl, fun w' hS' => by go_simp⟩) hS ?_
                            refine wpAnyH_take (i := 20) (v := (.slice (some ad1) l.length c)) rfl (by kernel_rfl) (by kernel_rfl) (by kernel_rfl) (fun _ _ _ h => h) (Or.inl ⟨by kernel_rfl, fun w' hS' => by go_simp⟩) hS ?_
                            refine wpAnyH_take (i := 21) (v := (.int .i64 (j : Int))) rfl (by kernel_rfl) (by kernel_rfl) (by kernel_rfl) (fun _ _ _ h => h) (Or.inl ⟨by kernel_rfl, fun w' hS' => by go_simp⟩) hS ?_
                            refine wpAnyH_take (i := 22) (v := (.pointer (some (ad1.add (j * 6))))) rfl (by kernel_rfl) (by kernel_rfl) (by kernel_rfl) (fun _ _ _ h => h) (Or.inl ⟨by kernel_rfl, fun w' hS' => by go_simp⟩) hS ?_
                            refine wpAnyH_take (i := 23) (v := (.agg #[.int .i64 y.id, .string ⟨y.item.toArray⟩, .int .i64 y.fr, .int .i64 y.un, .int .i64 y.qty, .bool y.arr])) rfl (by kernel_rfl) (by kernel_rfl) (by kernel_rfl) (fun _ _ _ h => h) (Or.inl ⟨by kernel_rfl, fun w' hS' => by obtain ⟨cl, ⟨s0, s1, s2, s3, s4, s5⟩, ⟨d0, d1, d2⟩, hzz⟩ := HALL.out w' hS'; go_simp⟩) hS ?_
                            refine wpAnyH_take (i := 24) (v := (.slice (some ad1) l.length c)) rfl (by kernel_rfl) (by kernel_rfl) (by kernel_rfl) (fun _ _ _ h => h) (Or.inl ⟨by kernel_rfl, fun w' hS' => by go_simp⟩) hS ?_
                            refine wpAnyH_take (i := 25) (v := (.int .i64 (m : Int))) rfl (by kernel_rfl) (by kernel_rfl) (by kernel_rfl) (fun _ _ _ h => h) (Or.inl ⟨by kernel_rfl, fun w' hS' => by go_simp⟩) hS ?_
                            refine wpAnyH_take (i := 26) (v := (.pointer (some (ad1.add (m * 6))))) rfl (by kernel_rfl) (by kernel_rfl) (by kernel_rfl) (fun _ _ _ h => h) (Or.inl ⟨by kernel_rfl, fun w' hS' => by go_simp⟩) hS ?_
                            refine wpAnyH_take (i := 27) (v := (.agg #[.int .i64 z.id, .string ⟨z.item.toArray⟩, .int .i64 z.fr, .int .i64 z.un, .int .i64 z.qty, .bool z.arr])) rfl (by kernel_rfl) (by kernel_rfl) (by kernel_rfl) (fun _ _ _ h => h) (Or.inl ⟨by kernel_rfl, fun w' hS' => by obtain ⟨cl, ⟨s0, s1, s2, s3, s4, s5⟩, ⟨d0, d1, d2⟩, hzz⟩ := HALL.out w' hS'; obtain ⟨z0, z1, z2, z3, z4, z5⟩ := HALZ.out w' hS'; go_simp⟩) hS ?_
                            refine wpAnyH_ready (rs := [28]) (by kernel_rfl) (by simp) ?_
                            refine AllReadyH.cons rfl (fun K hK => ?_) AllReadyH.nil
                            go_simp
                            refine (comparer_any y z _).mono ?_
                            rintro e w10 ⟨rfl, hb10'⟩
                            rw [HCC.out]
                            have hb10 := Lib.hid hb10'
                            clear hb10'
                            refine hK.out _ _ (hS.trans (hb10.out.mono hS.size)) (fun hS => ?_)
                            clear hK K
                            refine wpAnyH_take (i := 29) (v := (.bool false)) rfl (by kernel_rfl) (by kernel_rfl) (by kernel_rfl) (fun _ _ _ h => h) (Or.inl ⟨by kernel_rfl, fun w' hS' => by have hl := HLE.out; go_simp⟩) hS ?_
                            refine wpAnyH_take (i := 30) (v := (.bool false)) rfl (by kernel_rfl) (by kernel_rfl) (by kernel_rfl) (fun _ _ _ h => h) (Or.inl ⟨by kernel_rfl, fun w' hS' => by go_simp⟩) hS ?_
                            refine wpAnyH_take (i := 31) (v := (.bool false)) rfl (by kernel_rfl) (by kernel_rfl) (by kernel_rfl) (fun _ _ _ h => h) (Or.inl ⟨by kernel_rfl, fun w' hS' => by go_simp⟩) hS ?_
                            refine wpAnyH_done (by kernel_rfl) ?_ _
                            go_simp
                            go_wp2_with fail
                            go_meet
                            exact ⟨rfl, Lib.hid hS⟩
                      case rest =>
                        obtain ⟨rfl, HBc⟩ := hcut
                        cases bb with
                        | true =>
                          have HLN := Lib.hid (HBRT.out.1 rfl)
                          go_wp2
                          go_roundw
                          case rel => exact ⟨j + 1, j, by omega, by go_num, rfl, HLN, HBc⟩
                          case measure => simp [intOf]; omega
                        | false =>
                          have HLN := Lib.hid (HBRT.out.2 rfl)
                          go_wp2
                          go_roundw
                          case rel => exact ⟨j + 1, kk, by omega, by go_num, rfl, HLN, HBc⟩
                          case measure => simp [intOf]; omega
                    · obtain rfl : j = l.length := by omega
                      have HLF8 := Lib.hid (HLF7.out.below HBi.out)
                      have HDN8 := Lib.hid (HDN7.out.below HBi.out)
                      have HO8 := Lib.hid (own_at HO7.out HBi.out)
                      have HB8 : Hid (Below w.heap.size w wr) := Lib.hid (HB7.out.trans (HBi.out.mono HB7.out.size))
                      have hg8 : g2 < wr.heap.size := by have := HBi.out.size; omega
                      obtain ⟨w8, rfl⟩ : ∃ W, W = wr := ⟨_, rfl⟩
                      clear HLF7 HDN7 HO7 HB7 HBi hg7
                      rcases HLS.out with ⟨rfl, _⟩ | ⟨m, z, rfl, hm, hz, he, _⟩
                      · have HTE := Lib.hid (HTK.out.end_ (.inr (least_none HST.out HLS.out)))
                        have HF := Lib.hid (HFar.out.fail HX.out (by rw [HTE.out]; simp only; omega))
                        go_wp2
                        go_ret2
                        exact ⟨HB8.out, .inl ⟨HF.out, rfl⟩⟩
                      · obtain ⟨AA, BB, hSe, hAA, _⟩ := least_end HST.out HND.out HLS.out hz
                        obtain ⟨t, ht⟩ : ∃ t, min n (q1 z.id) = t := ⟨_, rfl⟩
                        have HTS := Lib.hid (HTK.out.step HSN.out hSe hAA he hnp ht)
                        have hq1z := HQ1.out z.id
                        have hez := he.1
                        have htb : 0 < t ∧ t ≤ n ∧ t ≤ q1 z.id := by omega
                        have hm0 : decide ((m : Int) < 0) = false := decide_eq_false (by omega)
                        have HZ := Lib.hid hz
                        have hcl := HLF8.out.cellAt (show (l.map (fun x => q1 x.id))[m]? = some (q1 z.id) by rw [List.getElem?_map, hz]; rfl)
                        have hfl := HLF8.out.frozen m
                        have hgl : g < w8.heap.size := HLF8.out.lt.2
                        have hs1 : IntKind.i64.wrap (q1 z.id - t) = q1 z.id - t := by rw [IntKind.wrap_i64]; omega
                        have hs2 : IntKind.i64.wrap (n - t) = n - t := by rw [IntKind.wrap_i64]; omega
                        have hvl := taking_len HTS.out
                        rw [List.length_append, List.length_singleton] at hvl
                        clear hSe hAA he hz
                        go_upto_region 32 with (fail)
                        have HLF9 : Hid (NRow (w8.setCell ⟨g, m, none⟩ (.int .i64 (q1 z.id - t))) g g (l.map (fun y => Fl.bmp q1 z.id (-t) y.id))) := Lib.hid (by have h := HLF8.out.set_ m (q1 z.id - t); rw [set_bmp HND.out HZ.out] at h; exact h)
                        have HDN9 : Hid (BRow (w8.setCell ⟨g, m, none⟩ (.int .i64 (q1 z.id - t))) g2 g2 (doneL ws.length (D ++ [p]))) := Lib.hid (HDN8.out.other (p := ⟨g, m, none⟩) (by simp; omega) _)
                        have HO9 : Hid ((w8.setCell ⟨g, m, none⟩ (.int .i64 (q1 z.id - t))).ownsRow (g2 + 1) 44 3 _ (U ++ V).length (ucells (U ++ V))) := Lib.hid (ownsRow_setCell_below HO8.out (a := ⟨g, m, none⟩) (show g < g2 + 1 by omega) _)
                        have HB9 : Hid (Below w.heap.size w (w8.setCell ⟨g, m, none⟩ (.int .i64 (q1 z.id - t)))) := Lib.hid (HB8.out.setCell (p := ⟨g, m, none⟩) hgw _)
                        have hg9 : g2 < (w8.setCell ⟨g, m, none⟩ (.int .i64 (q1 z.id - t))).heap.size := by simpa using hg8
                        obtain ⟨w9, hw9⟩ : ∃ W, W = w8.setCell ⟨g, m, none⟩ (.int .i64 (q1 z.id - t)) := ⟨_, rfl⟩
                        rw [← hw9] at HLF9 HDN9 HO9 HB9 hg9 ⊢
                        clear hw9 HLF8 HDN8 HO8 HB8 hcl hfl hg8 hgl
                        obtain ⟨ad1, ea, _, z0, z1, z2, z3, z4, z5⟩ := (HL1.out.below HB9.out).six HZ.out
                        subst ea
                        have hUV : (U ++ V).length ≤ 100000 := by rw [List.length_append]; omega
                        obtain ⟨M, hM⟩ : ∃ M, (U ++ V).length = M := ⟨_, rfl⟩
                        rw [hM] at HO9 hUV
                        have HMM := Lib.hid hM
                        clear hM
                        go_wp2_with (at_builtin; refine wpList_append_own _ rfl _ _ 28 rfl (g2 + 1) 44 iu _ 3 24 Try.underlying28 J1.out J2.out J3.out J4.out rfl (by decide) _ _ _ rfl (HO9.out.alloc _) ⟨w9.heap.size, 0, none⟩ 1 1 (encU ⟨(p : Int), z.id, t⟩) rfl rfl (encU_new w9 ⟨(p : Int), z.id, t⟩) (encU_one _) (by unfold maxLen; omega) (by omega) (by simp only [World.size_alloc]; omega) ?_; intro v10 w10 hown10' hg10' hq0; clear hq0; have HO10 := Lib.hid hown10'; have HG10 := Lib.hid hg10'; clear hown10' hg10')
                        go_roundw
                        case rel => exact ⟨V ++ [⟨(p : Int), z.id, t⟩], n - t, Fl.bmp q1 z.id (-t), rfl, HTS, Lib.hid ((HLF9.out.kept (World.grownBy_alloc _ _ none) (by simp)).kept HG10.out (fun e => by have := (HO9.out.lt g e).1; omega)), Lib.hid ((HDN9.out.kept (World.grownBy_alloc _ _ none) (by simp)).kept HG10.out (fun e => by have := (HO9.out.lt g2 e).1; omega)), Lib.hid (by have h := HO10.out; rw [← List.append_assoc, ucells_append, List.length_append, HMM.out]; simpa [ucells] using h), Lib.hid ((HB9.out.alloc HB9.out.size _).grown HG10.out (by have := HB9.out.size; simp only [World.size_alloc]; omega) (fun j hj => by have := (HO9.out.lt j hj).1; omega)), Lib.hid (fun i => by have h1 := HQ1.out i; unfold Fl.bmp; split; (rename_i e; subst e; omega); exact h1), by omega, by omega, by have := HG10.out.size; simp only [World.size_alloc] at this; omega⟩
                        case measure => simp [intOf]; omega
                · obtain rfl : n = 0 := by omega
                  have HTE := Lib.hid (HTK.out.end_ (.inl (Int.le_refl _)))
                  have HFS := Lib.hid (HFar.out.step (V := V) (q' := q1) HX.out (by rw [HTE.out]) (by rw [HTE.out]) (by rw [HTE.out]))
                  have hvl := taking_len HTK.out
                  clear hnp
                  go_wp2
                  go_roundw
                  case rel => exact ⟨D ++ [p], R', U ++ V, q1, by rw [HPE.out]; simp, by simp, HFS, HLF7, HDN7, HO7, HB7, HQ1, by rw [List.length_append, List.length_append]; simp; omega, hg7⟩
                  case measure => simp [intOf]; omega
end Go.Proofs.Ytddnfikjfmfhfaa
