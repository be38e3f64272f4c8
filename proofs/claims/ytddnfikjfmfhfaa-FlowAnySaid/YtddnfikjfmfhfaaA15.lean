/- Texts of this proof, one behind the other. -/
import Derived.Deep.DeepCutAuto
import Derived.Test.YtddnfikjfmfhfaaRows
import Derived.Deep.Slices
import Derived.Deep.Fields
import Derived.ChangeSame
import Derived.SizedLaws
import Derived.OpenShut
import Derived.Test.YtddnfikjfmfhfaaA13
import Derived.Test.YtddnfikjfmfhfaaA14
import Derived.Test.YtddnfikjfmfhfaaA11
section
/- storemanref05.way: a way that brings more, if there is one. Written by gen_fway.py. -/
namespace Go.Proofs.Ytddnfikjfmfhfaa
open Go.ChangeShapes Go.WideShapes Go.ChangeAt Go.RowKit Go.Maps
set_option linter.unusedVariables false
/-- What way answers, and leaves. -/
def WayTo (l : List Lt) (ws : List Wt) (w : Nat) (need : Int) (h : Nat → Nat → Int) (left : Nat → Int) (gh gl : Nat) (R : Nat → Nat) (W : World) (en : Ending) (W' : World) : Prop :=
  (∀ B W0, Below B W0 W → B ≤ gl → B ≤ W.heap.size → (∀ u, u < ws.length → B ≤ R u) → Below B W0 W') ∧
  ((en = .returned (.int .i64 0) ∧ ∃ T, Stuck l ws w h left T) ∨
   ∃ m h' left', en = .returned (.int .i64 m) ∧ 1 ≤ m ∧ m ≤ need ∧ Has l ws w (need - m) h' left' ∧ Grid W' gh R l.length ws.length h' ∧ NumRow W' gl 2 l.length left')
theorem numRow_made (w : World) (n : Nat) (t : TypeId) : NumRow (w.alloc (.cells (madeCells #[Value.int .i64 0] n) t)) w.heap.size t n (fun _ => 0) := World.rowIs_made w (.int .i64 0) n t
theorem NumRow.congr {w : World} {g : Nat} {t : TypeId} {n : Nat} {f f' : Nat → Int} (h : NumRow w g t n f) (e : ∀ i, i < n → f i = f' i) : NumRow w g t n f' := World.rowIs.congr h (fun i hi => by (try simp only); rw [e i hi])
theorem below_alloc {B : Nat} {W0 w : World} (h : Below B W0 w) (hB : B ≤ w.heap.size) (o : Obj) : Below B W0 (w.alloc o) := h.alloc hB o
theorem nodup_le : ∀ (M : Nat) (l : List Nat), l.Nodup → (∀ x ∈ l, x < M) → l.length ≤ M
  | 0, l, _, h => by
    cases l with
    | nil => simp
    | cons a r => exact absurd (h a (by simp)) (by omega)
  | M + 1, l, hn, h => by
    by_cases hm : M ∈ l
    · have h1 := nodup_le M (l.erase M) (hn.erase M) (fun x hx => by
        have := (List.Nodup.mem_erase_iff hn).1 hx
        have h2 := h x this.2
        have := this.1
        omega)
      rw [List.length_erase_of_mem hm] at h1
      omega
    · have h1 := nodup_le M l hn (fun x hx => by
        have h2 := h x hx
        by_cases e : x = M
        · subst e; exact absurd hx hm
        · omega)
      omega
def ivals (r : List Nat) : List Value := r.map (fun n : Nat => Value.int .i64 (n : Int))
theorem int_new (w : World) (p : Addr) (v : Value) (x : Int) : ∀ j u, [Value.int .i64 x][j]? = some u → ((w.setCell p v).alloc (.cells #[Value.int .i64 x] 3)).cell? ((⟨w.heap.size, 0, none⟩ : Addr).add j) = some u := fun j u hu => by
  have h := fresh_cell (w.setCell p v) #[Value.int .i64 x] 3 j
  rw [World.size_setCell] at h
  rw [h]; simpa using hu
theorem kept_row {w w' : World} {g : Nat} {t : TypeId} {n : Nat} {f : Nat → Int} {row : Option Nat} (h : NumRow w g t n f) (hg : w.grownBy w' row) (hne : row ≠ some g) : NumRow w' g t n f := World.rowIs.of_block h (hg.block g (World.rowIs.lt h) (fun e => hne e.symm))
set_option maxHeartbeats 8000000 in
set_option maxRecDepth 100000 in
theorem way_any (v1 v2 : Value) (l : List Lt) (ws : List Wt) (w : Nat) (need : Int) (h : Nat → Nat → Int) (left : Nat → Int) (gh gl : Nat) (R : Nat → Nat) (W : World)
    (h1 : LSl W W.heap.size v1 l) (h2 : WSl W W.heap.size v2 ws) (hG : Grid W gh R l.length ws.length h) (hL : NumRow W gl 2 l.length left) (n1 : gh ≠ gl) (n4 : ∀ u, u < ws.length → R u ≠ gl)
    (hh : Has l ws w need h left) (hw : w < ws.length) (hn0 : 0 < need) (hn1 : need ≤ 1125899906842624) (hq : ∀ k, k < l.length → (lotAt l k).qty ≤ 1073741824) (h40 : l.length ≤ 40) (h60 : ws.length ≤ 60) :
    Calls Try.prog 44 #[v1, v2, .slice (some ⟨gh, 0, none⟩) ws.length ws.length, .slice (some ⟨gl, 0, none⟩) l.length l.length, .int .i64 (w : Int), .int .i64 need] W (WayTo l ws w need h left gh gl R W) := by
  obtain ⟨i0, hi, hz0, hz1, hz2⟩ := info_parts infoI
  have I1 := Lib.hid hi
  have I2 := Lib.hid hz0
  have I3 := Lib.hid hz1
  have I4 := Lib.hid hz2
  obtain ⟨A1, c1, rfl, hc11, hc12, _, hl1⟩ := id h1
  obtain ⟨A2, c2, rfl, hc21, hc22, _, hl2⟩ := id h2
  have HL1 := Lib.hid hl1
  have HL2 := Lib.hid hl2
  have HQ := Lib.hid hq
  have HH := Lib.hid hh
  have HGW := Lib.hid hG
  have HLW := Lib.hid hL
  have hghl : gh < W.heap.size := World.rowIs.lt hG.rows
  have hgll : gl < W.heap.size := World.rowIs.lt hL
  have HRL : Hid (∀ u, u < ws.length → R u < W.heap.size) := Lib.hid (fun u hu => World.rowIs.lt (hG.nums u hu))
  have HN4 := Lib.hid n4
  clear h1 h2 hi hz0 hz1 hz2 hl1 hl2 hq hh hG hL n4
  go_enter Try.func44, Try.ntmps44
  obtain ⟨gf, hgf, hgfle⟩ : ∃ g, W.heap.size = g ∧ W.heap.size ≤ g := ⟨_, rfl, Nat.le_refl _⟩
  obtain ⟨W1, hW1⟩ : ∃ W1, W1 = (W.alloc (.cells (madeCells #[Value.int .i64 0] l.length) 3)).alloc (.cells (madeCells #[Value.int .i64 0] ws.length) 3) := ⟨_, rfl⟩
  have HF1 : Hid (NumRow W1 gf 3 l.length (fun _ => 0)) := Lib.hid (by rw [hW1, ← hgf]; exact World.rowIs.alloc (numRow_made W l.length _) _)
  have HB1 : Hid (NumRow W1 (gf + 1) 3 ws.length (fun _ => 0)) := Lib.hid (by
    have h := numRow_made (W.alloc (.cells (madeCells #[Value.int .i64 0] l.length) 3)) ws.length 3
    rw [World.size_alloc, hgf] at h
    rw [hW1]; exact h)
  have HBW : Hid (Below W.heap.size W W1) := Lib.hid (by rw [hW1]; exact ((Below.refl _ _).alloc (Nat.le_refl _) _).alloc (by simp) _)
  have hz1 : gf + 1 < W1.heap.size := World.rowIs.lt HB1.out
  have HWE := Lib.hid hW1
  have HGF := Lib.hid hgf
  clear hW1
  go_wp2_with (first
    | (at_make; refine wpList_make_row _ rfl _ _ 74 rfl 3 i0 (.int .i64 0) Try.underlying74 I1.out I2.out I3.out rfl .i64 .i64 l.length rfl rfl (by rw [I4.out]; omega) (by omega) ?_)
    | (at_make; refine wpList_make_row _ rfl _ _ 74 rfl 3 i0 (.int .i64 0) Try.underlying74 I1.out I2.out I3.out rfl .i64 .i64 ws.length rfl rfl (by rw [I4.out]; omega) (by omega) ?_))
  rw [← HWE.out]
  try rw [HGF.out]
  clear HWE
  go_loopw [15] (fun i wr => ∃ k : Nat, k ≤ l.length ∧ i = .int .i64 k ∧ Hid (NumRow wr gf 3 l.length (fun j => if j < k then -1 else 0)) ∧ Hid (NumRow wr (gf + 1) 3 ws.length (fun _ => 0)) ∧ Hid (Below W.heap.size W wr)) (fun i _ => l.length - (intOf i).toNat)
  case atStart => exact ⟨0, Nat.zero_le _, rfl, HF1, HB1, HBW⟩
  case round =>
    clear HF1 HB1 HBW hz1
    obtain ⟨k, hk, rfl, HF1, HB1, HBW⟩ := hrel
    by_cases hlt : k < l.length
    · have hcf := HF1.out.cell hlt
      have hff := World.rowIs.frozen HF1.out k
      have hgl' := World.rowIs.lt HF1.out
      have HF2 : Hid (NumRow (wr.setCell ⟨gf, k, none⟩ (.int .i64 (-1))) gf 3 l.length (fun j => if j < k + 1 then -1 else 0)) := Lib.hid ((HF1.out.set_ k (-1)).congr (fun j _ => by (try simp only); split; (rename_i e; subst e; rw [if_pos (by omega)]); (by_cases hj : j < k; rw [if_pos hj, if_pos (by omega)]; rw [if_neg hj, if_neg (by omega)])))
      have HB2 := Lib.hid (HB1.out.other (a := ⟨gf, k, none⟩) (by simp) (.int .i64 (-1)))
      have HBW2 := Lib.hid (HBW.out.setCell (p := ⟨gf, k, none⟩) hgfle (.int .i64 (-1)))
      go_wp2
      go_roundw
      case rel => exact ⟨k + 1, by omega, by go_num, HF2, HB2, HBW2⟩
      case measure => simp [intOf]; omega
    · obtain rfl : k = l.length := by omega
      have HF2 : Hid (NumRow wr gf 3 l.length (fun _ => -1)) := Lib.hid (HF1.out.congr (fun j hj => if_pos hj))
      obtain ⟨w1, rfl⟩ : ∃ W, W = wr := ⟨_, rfl⟩
      clear HF1
      go_wp2_with fail
      go_loopw [16] (fun i wr => ∃ k : Nat, k ≤ ws.length ∧ i = .int .i64 k ∧ Hid (NumRow wr gf 3 l.length (fun _ => -1)) ∧ Hid (NumRow wr (gf + 1) 3 ws.length (fun j => if j < k then -2 else 0)) ∧ Hid (Below W.heap.size W wr)) (fun i _ => ws.length - (intOf i).toNat)
      case atStart => exact ⟨0, Nat.zero_le _, rfl, HF2, HB1, HBW⟩
      case round =>
        clear HF2 HB1 HBW
        obtain ⟨k, hk, rfl, HF1, HB1, HBW⟩ := hrel
        by_cases hlt : k < ws.length
        · have hcf := HB1.out.cell hlt
          have hff := World.rowIs.frozen HB1.out k
          have hgl' := World.rowIs.lt HB1.out
          have HB2 : Hid (NumRow (wr.setCell ⟨gf + 1, k, none⟩ (.int .i64 (-2))) (gf + 1) 3 ws.length (fun j => if j < k + 1 then -2 else 0)) := Lib.hid ((HB1.out.set_ k (-2)).congr (fun j _ => by (try simp only); split; (rename_i e; subst e; rw [if_pos (by omega)]); (by_cases hj : j < k; rw [if_pos hj, if_pos (by omega)]; rw [if_neg hj, if_neg (by omega)])))
          have HF2 := Lib.hid (HF1.out.other (a := ⟨gf + 1, k, none⟩) (by simp) (.int .i64 (-2)))
          have HBW2 := Lib.hid (HBW.out.setCell (p := ⟨gf + 1, k, none⟩) (by show W.heap.size ≤ gf + 1; omega) (.int .i64 (-2)))
          go_wp2
          go_roundw
          case rel => exact ⟨k + 1, by omega, by go_num, HF2, HB2, HBW2⟩
          case measure => simp [intOf]; omega
        · obtain rfl : k = ws.length := by omega
          have HB2 : Hid (NumRow wr (gf + 1) 3 ws.length (fun _ => -2)) := Lib.hid (HB1.out.congr (fun j hj => if_pos hj))
          have hcw := HB2.out.cell hw
          have hfw := World.rowIs.frozen HB2.out w
          have hgw := World.rowIs.lt HB2.out
          obtain ⟨w2, rfl⟩ : ∃ W, W = wr := ⟨_, rfl⟩
          obtain ⟨W3, hW3⟩ : ∃ W3, W3 = (w2.setCell ⟨gf + 1, w, none⟩ (.int .i64 (-1))).alloc (.cells #[.int .i64 (w : Int)] 3) := ⟨_, rfl⟩
          have HF3 : Hid (NumRow W3 gf 3 l.length (fun _ => -1)) := Lib.hid (by rw [hW3]; exact World.rowIs.alloc (HF1.out.other (a := ⟨gf + 1, w, none⟩) (by simp) _) _)
          have HB3 : Hid (NumRow W3 (gf + 1) 3 ws.length (updF (fun _ => -2) w (-1))) := Lib.hid (by rw [hW3]; exact World.rowIs.alloc (HB2.out.set_ w (-1)) _)
          have HBW3 : Hid (Below W.heap.size W W3) := Lib.hid (by rw [hW3]; exact (HBW.out.setCell (p := ⟨gf + 1, w, none⟩) (by show W.heap.size ≤ gf + 1; omega) _).alloc (by simp only [World.size_setCell]; have := HBW.out.size; omega) _)
          have HO3 : Hid (W3.ownsRow (gf + 2) 3 1 (.slice (some ⟨w2.heap.size, 0, none⟩) 1 1) [w].length (ivals [w])) := Lib.hid (by
            have h := World.ownsRow_lit (base := gf + 2) (e := 3) (size := 1) (w2.setCell ⟨gf + 1, w, none⟩ (.int .i64 (-1))) #[.int .i64 (w : Int)] 1 (by simp only [World.size_setCell]; omega) (by simp [maxLen]) rfl
            simp only [World.size_setCell] at h
            rw [hW3]; exact h)
          have HWE := Lib.hid hW3
          have HC3 := Lib.hid (came_start (l := l) (h := h) (left := left) hw)
          clear HF1 HB1 HB2 HBW hW3
          go_wp2_with fail
          rw [← HWE.out]
          clear HWE hcw hfw hgw
          go_loopw [17, 18] (fun rv av wr => ∃ (r : List Nat) (f b : Nat → Int) (rk : Nat → Nat) (a : Nat), av = .int .i64 (a : Int) ∧ a ≤ r.length ∧ r.Nodup ∧ Hid (Came l ws w h left r f b rk (fun _ _ => False)) ∧ Hid (Gone l ws r f a 0) ∧ Hid (NumRow wr gf 3 l.length f) ∧ Hid (NumRow wr (gf + 1) 3 ws.length b) ∧ Hid (wr.ownsRow (gf + 2) 3 1 rv r.length (ivals r)) ∧ Hid (Below W.heap.size W wr)) (fun _ av _ => ws.length - (intOf av).toNat)
          case atStart => exact ⟨[w], _, _, _, 0, rfl, by simp, by simp, HC3, Lib.hid ⟨fun i v h => absurd h (by omega), fun v h k h1 => absurd h1 (by omega)⟩, HF3, HB3, HO3, HBW3⟩
          case round =>
            clear HF3 HB3 HO3 HBW3 HC3
            obtain ⟨r, f, b, rk, a, rfl, har, hnd, HC, HGN, HF, HB, HO, HBW⟩ := hrel
            have hrM : r.length ≤ ws.length := nodup_le _ r hnd HC.out.lt
            obtain ⟨gr, cr, hrv, hgr1, hgr2, _, _⟩ := own_some HO.out (List.length_pos_of_mem HC.out.own)
            subst hrv
            by_cases hal : a < r.length
            · obtain ⟨v, hv⟩ : ∃ v, r[a]? = some v := ⟨_, List.getElem?_eq_getElem hal⟩
              have hvm : v ∈ r := List.mem_of_getElem? hv
              have hvl := HC.out.lt v hvm
              have hcr := (HO.out.cellAt a (by omega)).trans (show (ivals r)[a]? = some (.int .i64 (v : Int)) by unfold ivals; rw [List.getElem?_map, hv]; rfl)
              go_wp2_with fail
              go_loopw [17, 20] (fun rv kv wr => ∃ (r : List Nat) (f b : Nat → Int) (rk : Nat → Nat) (kk : Nat), kv = .int .i64 (kk : Int) ∧ kk ≤ l.length ∧ r[a]? = some v ∧ r.Nodup ∧ Hid (Came l ws w h left r f b rk (fun _ _ => False)) ∧ Hid (Gone l ws r f a kk) ∧ Hid (NumRow wr gf 3 l.length f) ∧ Hid (NumRow wr (gf + 1) 3 ws.length b) ∧ Hid (wr.ownsRow (gf + 2) 3 1 rv r.length (ivals r)) ∧ Hid (Below W.heap.size W wr)) (fun _ kv _ => l.length - (intOf kv).toNat)
              case atStart => exact ⟨r, f, b, rk, 0, rfl, Nat.zero_le _, hv, hnd, HC, HGN, HF, HB, HO, HBW⟩
              case round =>
                clear HC HGN HF HB HO HBW hcr hnd hrM hvm hv hal har
                obtain ⟨r, f, b, rk, kk, rfl, hkl, hv, hnd, HC, HGN, HF, HB, HO, HBW⟩ := hrel
                have hvm : v ∈ r := List.mem_of_getElem? hv
                have hal : a < r.length := (List.getElem?_eq_some_iff.1 hv).1
                have hrM : r.length ≤ ws.length := nodup_le _ r hnd HC.out.lt
                by_cases hkl2 : kk < l.length
                · obtain ⟨w6, rfl⟩ : ∃ W, W = wr := ⟨_, rfl⟩
                  have hy := lotAt_some hkl2
                  have hx := wantAt_some hvl
                  obtain ⟨ad1, ea, _, _, _, _, _, _, _⟩ := (HL1.out.below HBW.out).six hy
                  subst ea
                  obtain ⟨ad2, ea, _, _, _, _⟩ := (HL2.out.below HBW.out).rowW hx
                  subst ea
                  have HSV : Hid (svAt l ws kk v = servesB (lotAt l kk) (wantAt ws v)) := Lib.hid rfl
                  have HYY := Lib.hid hy
                  have HXX := Lib.hid hx
                  generalize lotAt l kk = y at HSV hy HYY
                  generalize wantAt ws v = x at HSV hx HXX
                  have HALL : Hid (∀ w', Below w6.heap.size w6 w' → w'.cell? ⟨gf, kk, none⟩ = some (.int .i64 (f kk)) ∧ Six w' (ad1.add (kk * 6)) y ∧ RowW w' (ad2.add (v * 3)) x) := Lib.hid (fun w' hb => by
                    have hb2 := HBW.out.trans (hb.mono HBW.out.size)
                    obtain ⟨a1, e1, _, h6⟩ := (HL1.out.below hb2).six hy
                    obtain ⟨a2, e2, _, hr⟩ := (HL2.out.below hb2).rowW hx
                    cases e1; cases e2
                    exact ⟨(HF.out.below hb).cell hkl2, h6, hr⟩)
                  have hfk := HC.out.from_ kk hkl2
                  have HFK : Hid (0 ≤ f kk ∨ f kk = -1) := Lib.hid (by rcases hfk with h | ⟨v', h, _⟩; exact .inr h; exact .inl (by omega))
                  obtain ⟨fk, hfke⟩ : ∃ fk, f kk = fk := ⟨_, rfl⟩
                  rw [hfke] at HALL HFK
                  have HFE := Lib.hid hfke
                  clear hfk hfke hy hx
                  obtain ⟨bb, hbb⟩ : ∃ bb : Bool, (bb = true ∧ 0 ≤ fk) ∨ (bb = true ∧ fk = -1 ∧ servesB y x = false) ∨ (bb = false ∧ fk = -1 ∧ servesB y x = true) := by
                    rcases HFK.out with h | h
                    · exact ⟨true, .inl ⟨rfl, h⟩⟩
                    · cases hs : servesB y x with
                      | false => exact ⟨true, .inr (.inl ⟨rfl, h, rfl⟩)⟩
                      | true => exact ⟨false, .inr (.inr ⟨rfl, h, rfl⟩)⟩
                  have HBBB := Lib.hid hbb
                  clear hbb
                  go_upto_region 20 with (fail)
                  go_cut [83] (fun v wx => v = .bool bb ∧ Hid (Below w6.heap.size w6 wx))
                  case first =>
                    rcases HBBB.out with ⟨rfl, h1⟩ | ⟨rfl, h1, h2⟩ | ⟨rfl, h1, h2⟩
                    · have HPOS : Hid (decide (0 ≤ fk) = true) := Lib.hid (decide_eq_true h1)
                      clear h1
                      refine wp_region_held_drew (S := fun w' => Below w6.heap.size w6 w') (by kernel_rfl) ((Below.refl _ _).drew) (fun hS => ?_)
                      refine wpAnyH_take (i := 0) (v := (.slice (some ⟨gf, 0, none⟩) l.length l.length)) rfl (by kernel_rfl) (by kernel_rfl) (by kernel_rfl) (fun _ _ _ h => h) (Or.inl ⟨by kernel_rfl, fun w' hS' => by go_simp⟩) hS ?_
                      refine wpAnyH_take (i := 1) (v := (.int .i64 (kk : Int))) rfl (by kernel_rfl) (by kernel_rfl) (by kernel_rfl) (fun _ _ _ h => h) (Or.inl ⟨by kernel_rfl, fun w' hS' => by go_simp⟩) hS ?_
                      refine wpAnyH_take (i := 2) (v := (.pointer (some ⟨gf, kk, none⟩))) rfl (by kernel_rfl) (by kernel_rfl) (by kernel_rfl) (fun _ _ _ h => h) (Or.inl ⟨by kernel_rfl, fun w' hS' => by go_simp⟩) hS ?_
                      refine wpAnyH_take (i := 3) (v := (.int .i64 fk)) rfl (by kernel_rfl) (by kernel_rfl) (by kernel_rfl) (fun _ _ _ h => h) (Or.inl ⟨by kernel_rfl, fun w' hS' => by obtain ⟨cf, ⟨s0, s1, s2, s3, s4, s5⟩, ⟨d0, d1, d2⟩⟩ := HALL.out w' hS'; go_simp⟩) hS ?_
                      refine wpAnyH_take (i := 4) (v := (.bool true)) rfl (by kernel_rfl) (by kernel_rfl) (by kernel_rfl) (fun _ _ _ h => h) (Or.inl ⟨by kernel_rfl, fun w' hS' => by have hd := HPOS.out; go_simp⟩) hS ?_
                      refine wpAnyH_take (i := 5) (v := (.bool true)) rfl (by kernel_rfl) (by kernel_rfl) (by kernel_rfl) (fun _ _ _ h => h) (Or.inl ⟨by kernel_rfl, fun w' hS' => by go_simp⟩) hS ?_
                      refine wpAnyH_take (i := 6) (v := (undef)) rfl (by kernel_rfl) (by kernel_rfl) (by kernel_rfl) (fun _ _ _ h => h) (Or.inr ⟨by kernel_rfl, rfl⟩) hS ?_
                      refine wpAnyH_take (i := 7) (v := (undef)) rfl (by kernel_rfl) (by kernel_rfl) (by kernel_rfl) (fun _ _ _ h => h) (Or.inr ⟨by kernel_rfl, rfl⟩) hS ?_
                      refine wpAnyH_take (i := 8) (v := (undef)) rfl (by kernel_rfl) (by kernel_rfl) (by kernel_rfl) (fun _ _ _ h => h) (Or.inr ⟨by kernel_rfl, rfl⟩) hS ?_
                      refine wpAnyH_take (i := 9) (v := (undef)) rfl (by kernel_rfl) (by kernel_rfl) (by kernel_rfl) (fun _ _ _ h => h) (Or.inr ⟨by kernel_rfl, rfl⟩) hS ?_
                      refine wpAnyH_take (i := 10) (v := (undef)) rfl (by kernel_rfl) (by kernel_rfl) (by kernel_rfl) (fun _ _ _ h => h) (Or.inr ⟨by kernel_rfl, rfl⟩) hS ?_
                      refine wpAnyH_take (i := 11) (v := (undef)) rfl (by kernel_rfl) (by kernel_rfl) (by kernel_rfl) (fun _ _ _ h => h) (Or.inr ⟨by kernel_rfl, rfl⟩) hS ?_
                      refine wpAnyH_take (i := 12) (v := (undef)) rfl (by kernel_rfl) (by kernel_rfl) (by kernel_rfl) (fun _ _ _ h => h) (Or.inr ⟨by kernel_rfl, rfl⟩) hS ?_
                      refine wpAnyH_take (i := 13) (v := (undef)) rfl (by kernel_rfl) (by kernel_rfl) (by kernel_rfl) (fun _ _ _ h => h) (Or.inr ⟨by kernel_rfl, rfl⟩) hS ?_
                      refine wpAnyH_take (i := 14) (v := (undef)) rfl (by kernel_rfl) (by kernel_rfl) (by kernel_rfl) (fun _ _ _ h => h) (Or.inr ⟨by kernel_rfl, rfl⟩) hS ?_
                      refine wpAnyH_take (i := 15) (v := (undef)) rfl (by kernel_rfl) (by kernel_rfl) (by kernel_rfl) (fun _ _ _ h => h) (Or.inr ⟨by kernel_rfl, rfl⟩) hS ?_
                      refine wpAnyH_take (i := 16) (v := (.bool true)) rfl (by kernel_rfl) (by kernel_rfl) (by kernel_rfl) (fun _ _ _ h => h) (Or.inl ⟨by kernel_rfl, fun w' hS' => by go_simp⟩) hS ?_
                      refine wpAnyH_done (by kernel_rfl) ?_ _
                      go_simp
                      go_wp2_with fail
                      go_meet
                      exact ⟨rfl, Lib.hid hS⟩
                    · have HPOS : Hid (decide (0 ≤ fk) = false) := Lib.hid (decide_eq_false (by omega))
                      have HSB := Lib.hid h2
                      clear h1 h2
                      refine wp_region_held_drew (S := fun w' => Below w6.heap.size w6 w') (by kernel_rfl) ((Below.refl _ _).drew) (fun hS => ?_)
                      refine wpAnyH_take (i := 0) (v := (.slice (some ⟨gf, 0, none⟩) l.length l.length)) rfl (by kernel_rfl) (by kernel_rfl) (by kernel_rfl) (fun _ _ _ h => h) (Or.inl ⟨by kernel_rfl, fun w' hS' => by go_simp⟩) hS ?_
                      refine wpAnyH_take (i := 1) (v := (.int .i64 (kk : Int))) rfl (by kernel_rfl) (by kernel_rfl) (by kernel_rfl) (fun _ _ _ h => h) (Or.inl ⟨by kernel_rfl, fun w' hS' => by go_simp⟩) hS ?_
                      refine wpAnyH_take (i := 2) (v := (.pointer (some ⟨gf, kk, none⟩))) rfl (by kernel_rfl) (by kernel_rfl) (by kernel_rfl) (fun _ _ _ h => h) (Or.inl ⟨by kernel_rfl, fun w' hS' => by go_simp⟩) hS ?_
                      refine wpAnyH_take (i := 3) (v := (.int .i64 fk)) rfl (by kernel_rfl) (by kernel_rfl) (by kernel_rfl) (fun _ _ _ h => h) (Or.inl ⟨by kernel_rfl, fun w' hS' => by obtain ⟨cf, ⟨s0, s1, s2, s3, s4, s5⟩, ⟨d0, d1, d2⟩⟩ := HALL.out w' hS'; go_simp⟩) hS ?_
                      refine wpAnyH_take (i := 4) (v := (.bool false)) rfl (by kernel_rfl) (by kernel_rfl) (by kernel_rfl) (fun _ _ _ h => h) (Or.inl ⟨by kernel_rfl, fun w' hS' => by have hd := HPOS.out; go_simp⟩) hS ?_
                      refine wpAnyH_take (i := 5) (v := (.bool false)) rfl (by kernel_rfl) (by kernel_rfl) (by kernel_rfl) (fun _ _ _ h => h) (Or.inl ⟨by kernel_rfl, fun w' hS' => by go_simp⟩) hS ?_
                      refine wpAnyH_take (i := 6) (v := (.slice (some ad1) l.length c1)) rfl (by kernel_rfl) (by kernel_rfl) (by kernel_rfl) (fun _ _ _ h => h) (Or.inl ⟨by kernel_rfl, fun w' hS' => by go_simp⟩) hS ?_
                      refine wpAnyH_take (i := 7) (v := (.int .i64 (kk : Int))) rfl (by kernel_rfl) (by kernel_rfl) (by kernel_rfl) (fun _ _ _ h => h) (Or.inl ⟨by kernel_rfl, fun w' hS' => by go_simp⟩) hS ?_
                      refine wpAnyH_take (i := 8) (v := (.pointer (some (ad1.add (kk * 6))))) rfl (by kernel_rfl) (by kernel_rfl) (by kernel_rfl) (fun _ _ _ h => h) (Or.inl ⟨by kernel_rfl, fun w' hS' => by go_simp⟩) hS ?_
                      refine wpAnyH_take (i := 9) (v := (.agg #[.int .i64 y.id, .string ⟨y.item.toArray⟩, .int .i64 y.fr, .int .i64 y.un, .int .i64 y.qty, .bool y.arr])) rfl (by kernel_rfl) (by kernel_rfl) (by kernel_rfl) (fun _ _ _ h => h) (Or.inl ⟨by kernel_rfl, fun w' hS' => by obtain ⟨cf, ⟨s0, s1, s2, s3, s4, s5⟩, ⟨d0, d1, d2⟩⟩ := HALL.out w' hS'; go_simp⟩) hS ?_
                      refine wpAnyH_take (i := 10) (v := (.slice (some ad2) ws.length c2)) rfl (by kernel_rfl) (by kernel_rfl) (by kernel_rfl) (fun _ _ _ h => h) (Or.inl ⟨by kernel_rfl, fun w' hS' => by go_simp⟩) hS ?_
                      refine wpAnyH_take (i := 11) (v := (.int .i64 (v : Int))) rfl (by kernel_rfl) (by kernel_rfl) (by kernel_rfl) (fun _ _ _ h => h) (Or.inl ⟨by kernel_rfl, fun w' hS' => by go_simp⟩) hS ?_
                      refine wpAnyH_take (i := 12) (v := (.pointer (some (ad2.add (v * 3))))) rfl (by kernel_rfl) (by kernel_rfl) (by kernel_rfl) (fun _ _ _ h => h) (Or.inl ⟨by kernel_rfl, fun w' hS' => by go_simp⟩) hS ?_
                      refine wpAnyH_take (i := 13) (v := (.agg #[.string ⟨x.item.toArray⟩, .int .i64 x.day, .int .i64 x.qty])) rfl (by kernel_rfl) (by kernel_rfl) (by kernel_rfl) (fun _ _ _ h => h) (Or.inl ⟨by kernel_rfl, fun w' hS' => by obtain ⟨cf, ⟨s0, s1, s2, s3, s4, s5⟩, ⟨d0, d1, d2⟩⟩ := HALL.out w' hS'; go_simp⟩) hS ?_
                      refine wpAnyH_ready (rs := [14]) (by kernel_rfl) (by simp) ?_
                      refine AllReadyH.cons rfl (fun K hK => ?_) AllReadyH.nil
                      go_simp
                      refine (rserves_b false y x _ HSB.out).mono ?_
                      rintro e w9 ⟨rfl, hb9'⟩
                      have hb9 := Lib.hid hb9'
                      clear hb9'
                      refine hK.out _ _ (hS.trans (hb9.out.mono hS.size)) (fun hS => ?_)
                      clear hK K
                      refine wpAnyH_take (i := 15) (v := (.bool true)) rfl (by kernel_rfl) (by kernel_rfl) (by kernel_rfl) (fun _ _ _ h => h) (Or.inl ⟨by kernel_rfl, fun w' hS' => by go_simp⟩) hS ?_
                      refine wpAnyH_take (i := 16) (v := (.bool true)) rfl (by kernel_rfl) (by kernel_rfl) (by kernel_rfl) (fun _ _ _ h => h) (Or.inl ⟨by kernel_rfl, fun w' hS' => by go_simp⟩) hS ?_
                      refine wpAnyH_done (by kernel_rfl) ?_ _
                      go_simp
                      go_wp2_with fail
                      go_meet
                      exact ⟨rfl, Lib.hid hS⟩
                    · have HPOS : Hid (decide (0 ≤ fk) = false) := Lib.hid (decide_eq_false (by omega))
                      have HSB := Lib.hid h2
                      clear h1 h2
                      refine wp_region_held_drew (S := fun w' => Below w6.heap.size w6 w') (by kernel_rfl) ((Below.refl _ _).drew) (fun hS => ?_)
                      refine wpAnyH_take (i := 0) (v := (.slice (some ⟨gf, 0, none⟩) l.length l.length)) rfl (by kernel_rfl) (by kernel_rfl) (by kernel_rfl) (fun _ _ _ h => h) (Or.inl ⟨by kernel_rfl, fun w' hS' => by go_simp⟩) hS ?_
                      refine wpAnyH_take (i := 1) (v := (.int .i64 (kk : Int))) rfl (by kernel_rfl) (by kernel_rfl) (by kernel_rfl) (fun _ _ _ h => h) (Or.inl ⟨by kernel_rfl, fun w' hS' => by go_simp⟩) hS ?_
                      refine wpAnyH_take (i := 2) (v := (.pointer (some ⟨gf, kk, none⟩))) rfl (by kernel_rfl) (by kernel_rfl) (by kernel_rfl) (fun _ _ _ h => h) (Or.inl ⟨by kernel_rfl, fun w' hS' => by go_simp⟩) hS ?_
                      refine wpAnyH_take (i := 3) (v := (.int .i64 fk)) rfl (by kernel_rfl) (by kernel_rfl) (by kernel_rfl) (fun _ _ _ h => h) (Or.inl ⟨by kernel_rfl, fun w' hS' => by obtain ⟨cf, ⟨s0, s1, s2, s3, s4, s5⟩, ⟨d0, d1, d2⟩⟩ := HALL.out w' hS'; go_simp⟩) hS ?_
                      refine wpAnyH_take (i := 4) (v := (.bool false)) rfl (by kernel_rfl) (by kernel_rfl) (by kernel_rfl) (fun _ _ _ h => h) (Or.inl ⟨by kernel_rfl, fun w' hS' => by have hd := HPOS.out; go_simp⟩) hS ?_
                      refine wpAnyH_take (i := 5) (v := (.bool false)) rfl (by kernel_rfl) (by kernel_rfl) (by kernel_rfl) (fun _ _ _ h => h) (Or.inl ⟨by kernel_rfl, fun w' hS' => by go_simp⟩) hS ?_
                      refine wpAnyH_take (i := 6) (v := (.slice (some ad1) l.length c1)) rfl (by kernel_rfl) (by kernel_rfl) (by kernel_rfl) (fun _ _ _ h => h) (Or.inl ⟨by kernel_rfl, fun w' hS' => by go_simp⟩) hS ?_
                      refine wpAnyH_take (i := 7) (v := (.int .i64 (kk : Int))) rfl (by kernel_rfl) (by kernel_rfl) (by kernel_rfl) (fun _ _ _ h => h) (Or.inl ⟨by kernel_rfl, fun w' hS' => by go_simp⟩) hS ?_
                      refine wpAnyH_take (i := 8) (v := (.pointer (some (ad1.add (kk * 6))))) rfl (by kernel_rfl) (by kernel_rfl) (by kernel_rfl) (fun _ _ _ h => h) (Or.inl ⟨by kernel_rfl, fun w' hS' => by go_simp⟩) hS ?_
                      refine wpAnyH_take (i := 9) (v := (.agg #[.int .i64 y.id, .string ⟨y.item.toArray⟩, .int .i64 y.fr, .int .i64 y.un, .int .i64 y.qty, .bool y.arr])) rfl (by kernel_rfl) (by kernel_rfl) (by kernel_rfl) (fun _ _ _ h => h) (Or.inl ⟨by kernel_rfl, fun w' hS' => by obtain ⟨cf, ⟨s0, s1, s2, s3, s4, s5⟩, ⟨d0, d1, d2⟩⟩ := HALL.out w' hS'; go_simp⟩) hS ?_
                      refine wpAnyH_take (i := 10) (v := (.slice (some ad2) ws.length c2)) rfl (by kernel_rfl) (by kernel_rfl) (by kernel_rfl) (fun _ _ _ h => h) (Or.inl ⟨by kernel_rfl, fun w' hS' => by go_simp⟩) hS ?_
                      refine wpAnyH_take (i := 11) (v := (.int .i64 (v : Int))) rfl (by kernel_rfl) (by kernel_rfl) (by kernel_rfl) (fun _ _ _ h => h) (Or.inl ⟨by kernel_rfl, fun w' hS' => by go_simp⟩) hS ?_
                      refine wpAnyH_take (i := 12) (v := (.pointer (some (ad2.add (v * 3))))) rfl (by kernel_rfl) (by kernel_rfl) (by kernel_rfl) (fun _ _ _ h => h) (Or.inl ⟨by kernel_rfl, fun w' hS' => by go_simp⟩) hS ?_
                      refine wpAnyH_take (i := 13) (v := (.agg #[.string ⟨x.item.toArray⟩, .int .i64 x.day, .int .i64 x.qty])) rfl (by kernel_rfl) (by kernel_rfl) (by kernel_rfl) (fun _ _ _ h => h) (Or.inl ⟨by kernel_rfl, fun w' hS' => by obtain ⟨cf, ⟨s0, s1, s2, s3, s4, s5⟩, ⟨d0, d1, d2⟩⟩ := HALL.out w' hS'; go_simp⟩) hS ?_
                      refine wpAnyH_ready (rs := [14]) (by kernel_rfl) (by simp) ?_
                      refine AllReadyH.cons rfl (fun K hK => ?_) AllReadyH.nil
                      go_simp
                      refine (rserves_b true y x _ HSB.out).mono ?_
                      rintro e w9 ⟨rfl, hb9'⟩
                      have hb9 := Lib.hid hb9'
                      clear hb9'
                      refine hK.out _ _ (hS.trans (hb9.out.mono hS.size)) (fun hS => ?_)
                      clear hK K
                      refine wpAnyH_take (i := 15) (v := (.bool false)) rfl (by kernel_rfl) (by kernel_rfl) (by kernel_rfl) (fun _ _ _ h => h) (Or.inl ⟨by kernel_rfl, fun w' hS' => by go_simp⟩) hS ?_
                      refine wpAnyH_take (i := 16) (v := (.bool false)) rfl (by kernel_rfl) (by kernel_rfl) (by kernel_rfl) (fun _ _ _ h => h) (Or.inl ⟨by kernel_rfl, fun w' hS' => by go_simp⟩) hS ?_
                      refine wpAnyH_done (by kernel_rfl) ?_ _
                      go_simp
                      go_wp2_with fail
                      go_meet
                      exact ⟨rfl, Lib.hid hS⟩
                  case rest =>
                    obtain ⟨rfl, hcb⟩ := hcut
                    have HF7 := Lib.hid (HF.out.below hcb.out)
                    have HB7 := Lib.hid (HB.out.below hcb.out)
                    have HO7 := Lib.hid (own_at HO.out hcb.out)
                    have HBW7 : Hid (Below W.heap.size W wc) := Lib.hid (HBW.out.trans (hcb.out.mono HBW.out.size))
                    obtain ⟨w7, rfl⟩ : ∃ W, W = wc := ⟨_, rfl⟩
                    clear HF HB HO HBW hcb HALL
                    cases bb with
                    | true =>
                      have HGN2 := Lib.hid (HGN.out.next hv (fun hs => by
                        rcases HBBB.out with ⟨_, h1⟩ | ⟨_, h1, h2⟩ | ⟨h1, _⟩
                        · rw [HFE.out]; exact h1
                        · rw [HSV.out, h2] at hs; cases hs
                        · cases h1))
                      go_wp2
                      go_roundw
                      case rel => exact ⟨r, f, b, rk, kk + 1, by go_num, by omega, hv, hnd, HC, HGN2, HF7, HB7, HO7, HBW7⟩
                      case measure => simp [intOf]; omega
                    | false =>
                      have HFS : Hid (f kk = -1 ∧ svAt l ws kk v = true) := Lib.hid (by
                        rcases HBBB.out with ⟨h1, _⟩ | ⟨h1, _⟩ | ⟨_, h1, h2⟩
                        · cases h1
                        · cases h1
                        · rw [HFE.out, HSV.out]; exact ⟨h1, h2⟩)
                      have hcf := HF7.out.cell hkl2
                      have hff := World.rowIs.frozen HF7.out kk
                      have hgl' := World.rowIs.lt HF7.out
                      go_upto_region 22 with (fail)
                      have HF8 : Hid (NumRow (w7.setCell ⟨gf, kk, none⟩ (.int .i64 (v : Int))) gf 3 l.length (updF f kk v)) := Lib.hid (HF7.out.set_ kk v)
                      have HB8 : Hid (NumRow (w7.setCell ⟨gf, kk, none⟩ (.int .i64 (v : Int))) (gf + 1) 3 ws.length b) := Lib.hid (HB7.out.other (a := ⟨gf, kk, none⟩) (by simp) _)
                      have HO8 := Lib.hid (ownsRow_setCell_below HO7.out (a := ⟨gf, kk, none⟩) (show gf < gf + 2 by omega) (.int .i64 (v : Int)))
                      have HBW8 : Hid (Below W.heap.size W (w7.setCell ⟨gf, kk, none⟩ (.int .i64 (v : Int)))) := Lib.hid (HBW7.out.setCell (p := ⟨gf, kk, none⟩) hgfle _)
                      obtain ⟨w8, hw8⟩ : ∃ W, W = w7.setCell ⟨gf, kk, none⟩ (.int .i64 (v : Int)) := ⟨_, rfl⟩
                      rw [← hw8] at HF8 HB8 HO8 HBW8 ⊢
                      clear hw8 HF7 HB7 HO7 HBW7 hcf hff hgl'
                      have HL8 : Hid (NumRow w8 gl 2 l.length left) := Lib.hid (HLW.out.below HBW8.out)
                      have hcl := HL8.out.cell hkl2
                      by_cases hlp : 0 < left kk
                      · have hdl : decide (0 < left kk) = true := decide_eq_true hlp
                        have HG8 : Hid (Grid w8 gh R l.length ws.length h) := Lib.hid (HGW.out.below HBW8.out)
                        go_wp2_with fail
                        refine (along_any l ws w need h left (updF f kk v) b (fun u => u ∈ r) rk kk gh gl gf (gf + 1) R w8 HG8.out HL8.out HF8.out HB8.out n1 (by omega) (by omega) (fun u hu => ⟨HN4.out u hu, by have := HRL.out u hu; omega, by have := HRL.out u hu; omega⟩) HH.out (HC.out.ways_from HFS.out.1) (step_start hkl2 (updF_same f kk v) hvm HFS.out.2) hlp hn0 hn1 HQ.out h40 h60).mono ?_
                        rintro en w9 ⟨m, h', left', rfl, m1, m2, hh', hg', hl', hkp⟩
                        have HH2 := Lib.hid hh'
                        have HG2 := Lib.hid hg'
                        have HL2' := Lib.hid hl'
                        have HKP := Lib.hid hkp
                        clear hh' hg' hl' hkp hdl hcl
                        go_wp2
                        go_ret
                        exact ⟨fun B W0 a1 a2 a3 a4 => HKP.out B W0 (a1.trans (HBW8.out.mono a3)) a2 a4, .inr ⟨m, h', left', rfl, m1, m2, HH2.out, HG2.out, HL2'.out⟩⟩
                      · have hdl : decide (0 < left kk) = false := decide_eq_false hlp
                        have hlz : left kk = 0 := by have := HH.out.lft kk hkl2; omega
                        have HC5 := Lib.hid (HC.out.take hkl2 HFS.out.1 hvm HFS.out.2 hlz)
                        have HGN5 : Hid (Gone l ws r (updF f kk v) a kk) := Lib.hid (HGN.out.set_)
                        clear HC HGN hlz hlp HL8 HFE HBBB HFK
                        go_wp2_with fail
                        clear hdl hcl
                        go_loopw [17, 21] (fun rv uv wr => ∃ (r : List Nat) (b : Nat → Int) (rk : Nat → Nat) (uu : Nat), uv = .int .i64 (uu : Int) ∧ uu ≤ ws.length ∧ r[a]? = some v ∧ r.Nodup ∧ Hid (Came l ws w h left r (updF f kk v) b rk (fun k' u => k' = kk ∧ uu ≤ u)) ∧ Hid (Gone l ws r (updF f kk v) a kk) ∧ Hid (NumRow wr gf 3 l.length (updF f kk v)) ∧ Hid (NumRow wr (gf + 1) 3 ws.length b) ∧ Hid (wr.ownsRow (gf + 2) 3 1 rv r.length (ivals r)) ∧ Hid (Below W.heap.size W wr)) (fun _ uv _ => ws.length - (intOf uv).toNat)
                        case atStart => exact ⟨r, b, rk, 0, rfl, Nat.zero_le _, hv, hnd, HC5, HGN5, HF8, HB8, HO8, HBW8⟩
                        case round =>
                          clear HC5 HGN5 HF8 HB8 HO8 HBW8 hnd hrM hal hv hvm
                          obtain ⟨r, b, rk, uu, rfl, huu, hv, hnd, HC, HGN, HF, HB, HO, HBW⟩ := hrel
                          have hvm : v ∈ r := List.mem_of_getElem? hv
                          have hal : a < r.length := (List.getElem?_eq_some_iff.1 hv).1
                          have hrM : r.length ≤ ws.length := nodup_le _ r hnd HC.out.lt
                          by_cases hul : uu < ws.length
                          · have hcb := HB.out.cell hul
                            have hfb := World.rowIs.frozen HB.out uu
                            have hgb := World.rowIs.lt HB.out
                            have hcg := World.rowIs.cell (HGW.out.below HBW.out).rows hul
                            have hch := ((HGW.out.below HBW.out).nums uu hul).cell hkl2
                            by_cases hbu : b uu = -2
                            · rw [hbu] at hcb
                              by_cases hhp : 0 < h uu kk
                              · have hdh : decide (0 < h uu kk) = true := decide_eq_true hhp
                                have HC2 := Lib.hid (HC.out.add (v := v) hul hkl2 hbu hhp (updF_same f kk v) hvm HFS.out.2)
                                have hnr : uu ∉ r := by
                                  rcases HC.out.by_ uu hul with g | ⟨_, _, g⟩ | ⟨_, k', g, _⟩
                                  · exact g.1
                                  · omega
                                  · omega
                                have HND2 : Hid ((r ++ [uu]).Nodup) := Lib.hid (by rw [List.nodup_append]; exact ⟨hnd, by simp, fun x hx y hy e => hnr (by rw [List.mem_singleton.1 hy] at e; exact e ▸ hx)⟩)
                                have HV2 : Hid ((r ++ [uu])[a]? = some v) := Lib.hid (by rw [List.getElem?_append_left hal]; exact hv)
                                have HGN2 := Lib.hid (HGN.out.grow hal [uu])
                                have HO2 := Lib.hid (ownsRow_setCell_below HO.out (a := ⟨gf + 1, uu, none⟩) (show gf + 1 < gf + 2 by omega) (.int .i64 (kk : Int)))
                                clear hhp hnr hbu
                                go_wp2_with (at_builtin; refine wpList_append_own _ rfl _ _ 74 rfl (gf + 2) 3 i0 _ 1 8 Try.underlying74 I1.out I2.out I3.out I4.out rfl (by decide) _ _ _ rfl (HO2.out.alloc _) ⟨wr.heap.size, 0, none⟩ 1 1 [.int .i64 (uu : Int)] rfl rfl (int_new wr _ _ _) (fun u hu => by rw [List.mem_singleton.1 hu]; rfl) (by unfold maxLen; omega) (by omega) (by simp only [World.size_alloc, World.size_setCell]; omega) ?_; intro v10 w10 hown10' hg10' hq0; clear hq0; have HO10 := Lib.hid hown10'; have HG10 := Lib.hid hg10'; clear hown10' hg10')
                                have HKF : Hid (v10.ownBlock ≠ some gf) := Lib.hid (fun e => by have := (HO10.out.lt gf e).1; omega)
                                go_roundw
                                case rel => exact ⟨r ++ [uu], updF b uu kk, _, uu + 1, by go_num, by omega, HV2.out, HND2.out, HC2, HGN2, Lib.hid (kept_row (World.rowIs.alloc (HF.out.other (a := ⟨gf + 1, uu, none⟩) (by simp) _) _) HG10.out (fun e => by have := (HO.out.lt gf e).1; omega)), Lib.hid (kept_row (World.rowIs.alloc (HB.out.set_ uu kk) _) HG10.out (fun e => by have := (HO.out.lt (gf + 1) e).1; omega)), Lib.hid (by have h := HO10.out; unfold ivals; rw [List.length_append, List.map_append]; exact h), Lib.hid (((HBW.out.setCell (p := ⟨gf + 1, uu, none⟩) (by show W.heap.size ≤ gf + 1; omega) _).alloc (by simp only [World.size_setCell]; exact HBW.out.size) _).grown HG10.out (by simp only [World.size_alloc, World.size_setCell]; have := HBW.out.size; omega) (fun j hj => by have := (HO.out.lt j hj).1; omega))⟩
                                case measure => simp [intOf]; omega
                              · have hdh : decide (0 < h uu kk) = false := decide_eq_false hhp
                                have HC2 := Lib.hid (HC.out.pass hul (fun hh => hhp hh.2))
                                clear hhp hbu
                                go_wp2
                                go_roundw
                                case rel => exact ⟨r, b, rk, uu + 1, by go_num, by omega, hv, hnd, HC2, HGN, HF, HB, HO, HBW⟩
                                case measure => simp [intOf]; omega
                            · have hdb : (b uu == -2) = false := by simp [hbu]
                              have HC2 := Lib.hid (HC.out.pass hul (fun hh => hbu hh.1))
                              clear hbu
                              go_wp2
                              go_roundw
                              case rel => exact ⟨r, b, rk, uu + 1, by go_num, by omega, hv, hnd, HC2, HGN, HF, HB, HO, HBW⟩
                              case measure => simp [intOf]; omega
                          · have HC2 := Lib.hid (HC.out.done (by omega))
                            have HGN2 := Lib.hid (HGN.out.next hv (fun _ => by rw [updF_same]; omega))
                            go_wp2
                            go_roundw
                            case rel => exact ⟨r, updF f kk v, b, rk, kk + 1, by go_num, by omega, hv, hnd, HC2, HGN2, HF, HB, HO, HBW⟩
                            case measure => simp [intOf]; omega
                · obtain rfl : kk = l.length := by omega
                  have HGN2 := Lib.hid (HGN.out.turn)
                  obtain ⟨gr2, cr2, hrv2, _, _, _, _⟩ := own_some HO.out (List.length_pos_of_mem HC.out.own)
                  subst hrv2
                  go_wp2
                  go_roundw
                  case rel => exact ⟨r, f, b, rk, a + 1, by go_num, by omega, hnd, HC, HGN2, HF, HB, HO, HBW⟩
                  case measure => simp [intOf]; omega
            · obtain rfl : a = r.length := by omega
              have HST := Lib.hid (HC.out.stuck HGN.out)
              go_wp2
              go_ret
              exact ⟨fun B W0 a1 a2 a3 a4 => a1.trans (HBW.out.mono a3), .inl ⟨rfl, _, HST.out⟩⟩
end Go.Proofs.Ytddnfikjfmfhfaa
end
section
/- storemanref05.Any, and the law FlowAny: the walks. Written by gen_fany.py. -/
namespace Go.Proofs.Ytddnfikjfmfhfaa
open Go.ChangeShapes Go.WideShapes Go.ChangeAt Go.RowKit Go.Maps
set_option linter.unusedVariables false
theorem infoSl64 : (Try.prog.info? 59).map (fun i => (i.zero, i.size, i.bytes)) = some (some (.slice none 0 0), 1, 24) := by kernel_rfl
theorem lot_le {l : List Lt} (h : ∀ x ∈ l, lrightB x = true) : ∀ k, k < l.length → (lotAt l k).qty ≤ 1073741824 := fun k hk => (lright_qty (h _ (List.mem_of_getElem? (lotAt_some hk)))).2
theorem slRow_set {w : World} {b : Nat} {t : TypeId} {n : Nat} {f : Nat → Value} (h : w.rowIs b t n f) (i : Nat) (v : Value) {g : Nat → Value} (e : ∀ j, j < n → (if j = i then v else f j) = g j) : (w.setCell ⟨b, i, none⟩ v).rowIs b t n g := (h.set i v).congr e
def updN (R : Nat → Nat) (i x : Nat) : Nat → Nat := fun j => if j = i then x else R j
theorem updN_same (R : Nat → Nat) (i x : Nat) : updN R i x i = x := by simp [updN]
theorem updN_other (R : Nat → Nat) (i x : Nat) {j : Nat} (h : j ≠ i) : updN R i x j = R j := by simp [updN, h]
set_option maxHeartbeats 8000000 in
set_option maxRecDepth 100000 in
theorem rany_may (v1 v2 : Value) (l : List Lt) (ws : List Wt) (W : World) (h1 : LSl W W.heap.size v1 l) (h2 : WSl W W.heap.size v2 ws) (hb : mayB l ws = true) (h40 : l.length ≤ 40) (h60 : ws.length ≤ 60) :
    Calls Try.prog 26 #[v1, v2] W fun e W' => Below W.heap.size W W' ∧ ((e = .returned (.bool true) ∧ fitsP l ws) ∨ (e = .returned (.bool false) ∧ ¬ fitsP l ws)) := by
  obtain ⟨hl3, hw3, hlr, hwr, hnd⟩ := mayB_true hb
  obtain ⟨i0, hi, hz0, hz1, hz2⟩ := info_parts infoI64
  have I1 := Lib.hid hi
  have I2 := Lib.hid hz0
  have I3 := Lib.hid hz1
  have I4 := Lib.hid hz2
  clear hi hz0 hz1 hz2
  obtain ⟨is, hi, hz0, hz1, hz2⟩ := info_parts infoSl64
  have J1 := Lib.hid hi
  have J2 := Lib.hid hz0
  have J3 := Lib.hid hz1
  have J4 := Lib.hid hz2
  obtain ⟨A1, c1, rfl, hc11, hc12, _, hl1⟩ := id h1
  obtain ⟨A2, c2, rfl, hc21, hc22, _, hl2⟩ := id h2
  have HV1 := Lib.hid h1
  have HV2 := Lib.hid h2
  have HL1 := Lib.hid hl1
  have HL2 := Lib.hid hl2
  have HB := Lib.hid hb
  have HQ := Lib.hid (lot_le hlr)
  have HS0 := Lib.hid (has_start (l := l) (ws := ws) hlr)
  have HWR : Hid (∀ x ∈ ws, 1 ≤ x.qty ∧ x.qty ≤ 1125899906842624) := Lib.hid (fun x hx => (wantB_parts (hwr x hx)).2)
  clear h1 h2 hl1 hl2 hb hlr hwr hnd hi hz0 hz1 hz2
  go_enter Try.func26, Try.ntmps26
  go_wp2_with fail
  refine (may_any _ _ l ws W HV1.out HV2.out).mono ?_
  rintro e w1 ⟨rfl, hb1'⟩
  rw [HB.out]
  have HB1 := Lib.hid hb1'
  clear hb1'
  obtain ⟨gl, hgl, hglW⟩ : ∃ g, w1.heap.size = g ∧ W.heap.size ≤ g := ⟨_, rfl, HB1.out.size⟩
  obtain ⟨w2, hw2⟩ : ∃ w2, w2 = w1.alloc (.cells (madeCells #[Value.int .i64 0] l.length) 2) := ⟨_, rfl⟩
  have HLr : Hid (NumRow w2 gl 2 l.length (fun _ => 0)) := Lib.hid (by rw [hw2, ← hgl]; exact numRow_made w1 l.length _)
  have HB2 : Hid (Below W.heap.size W w2) := Lib.hid (by rw [hw2]; exact HB1.out.alloc HB1.out.size _)
  have HWE := Lib.hid hw2
  have HGE := Lib.hid hgl
  clear hw2 hgl
  go_wp2_with (at_make; refine wpList_make_row _ rfl _ _ 59 rfl 2 i0 (.int .i64 0) Try.underlying59 I1.out I2.out I3.out rfl .i64 .i64 l.length rfl rfl (by rw [I4.out]; omega) (by omega) ?_)
  rw [← HWE.out]
  try rw [HGE.out]
  clear HWE HGE HB1
  go_loopw [6] (fun i wr => ∃ k : Nat, k ≤ l.length ∧ i = .int .i64 k ∧ Hid (NumRow wr gl 2 l.length (fun j => if j < k then (lotAt l j).qty else 0)) ∧ Hid (Below W.heap.size W wr)) (fun i _ => l.length - (intOf i).toNat)
  case atStart => exact ⟨0, Nat.zero_le _, rfl, HLr, HB2⟩
  case round =>
    clear HLr HB2
    obtain ⟨k, hk, rfl, HLr, HBW⟩ := hrel
    by_cases hlt : k < l.length
    · have hx := lotAt_some hlt
      obtain ⟨ad, ea, _, x0, x1, x2, x3, x4, x5⟩ := (HL1.out.below HBW.out).six hx
      subst ea
      have hcf := HLr.out.cell hlt
      have hff := World.rowIs.frozen HLr.out k
      have hgl' := World.rowIs.lt HLr.out
      have HL2' : Hid (NumRow (wr.setCell ⟨gl, k, none⟩ (.int .i64 (lotAt l k).qty)) gl 2 l.length (fun j => if j < k + 1 then (lotAt l j).qty else 0)) := Lib.hid ((HLr.out.set_ k (lotAt l k).qty).congr (fun j _ => by (try simp only); split; (rename_i e; subst e; rw [if_pos (by omega)]); (by_cases hj : j < k; rw [if_pos hj, if_pos (by omega)]; rw [if_neg hj, if_neg (by omega)])))
      have HBW2 := Lib.hid (HBW.out.setCell (p := ⟨gl, k, none⟩) hglW (.int .i64 (lotAt l k).qty))
      clear hx
      generalize (lotAt l k).qty = qk at x4 HL2' HBW2
      go_wp2
      go_roundw
      case rel => exact ⟨k + 1, by omega, by go_num, HL2', HBW2⟩
      case measure => simp [intOf]; omega
    · obtain rfl : k = l.length := by omega
      have HLr2 : Hid (NumRow wr gl 2 l.length (fun k => (lotAt l k).qty)) := Lib.hid (HLr.out.congr (fun j hj => if_pos hj))
      obtain ⟨w3, rfl⟩ : ∃ W, W = wr := ⟨_, rfl⟩
      obtain ⟨gh, hgh, hghW, hglh⟩ : ∃ g, w3.heap.size = g ∧ W.heap.size ≤ g ∧ gl < g := ⟨_, rfl, HBW.out.size, World.rowIs.lt HLr2.out⟩
      obtain ⟨w4, hw4⟩ : ∃ w4, w4 = w3.alloc (.cells (madeCells #[Value.slice none 0 0] ws.length) 59) := ⟨_, rfl⟩
      have HH4 : Hid (w4.rowIs gh 59 ws.length (fun _ => .slice none 0 0)) := Lib.hid (by rw [hw4, ← hgh]; exact World.rowIs_made w3 (.slice none 0 0) ws.length _)
      have HL4 : Hid (NumRow w4 gl 2 l.length (fun k => (lotAt l k).qty)) := Lib.hid (by rw [hw4]; exact World.rowIs.alloc HLr2.out _)
      have HB4 : Hid (Below W.heap.size W w4) := Lib.hid (by rw [hw4]; exact HBW.out.alloc HBW.out.size _)
      have HWE := Lib.hid hw4
      have HGE := Lib.hid hgh
      clear hw4 hgh HLr HLr2 HBW
      go_wp2_with (at_make; refine wpList_make_row _ rfl _ _ 70 rfl 59 is (.slice none 0 0) Try.underlying70 J1.out J2.out J3.out rfl .i64 .i64 ws.length rfl rfl (by rw [J4.out]; omega) (by omega) ?_)
      rw [← HWE.out]
      try rw [HGE.out]
      clear HWE HGE
      go_loopw [8] (fun i wr => ∃ (k : Nat) (R : Nat → Nat), k ≤ ws.length ∧ i = .int .i64 k ∧ Hid (wr.rowIs gh 59 ws.length (fun u => if u < k then .slice (some ⟨R u, 0, none⟩) l.length l.length else .slice none 0 0)) ∧ Hid (∀ u, u < k → NumRow wr (R u) 2 l.length (fun _ => 0) ∧ gh < R u ∧ R u < wr.heap.size ∧ ∀ v, v < k → u ≠ v → R u ≠ R v) ∧ Hid (NumRow wr gl 2 l.length (fun k => (lotAt l k).qty)) ∧ Hid (Below W.heap.size W wr)) (fun i _ => ws.length - (intOf i).toNat)
      case atStart => exact ⟨0, fun _ => 0, Nat.zero_le _, rfl, HH4, Lib.hid (fun u hu => absurd hu (by omega)), HL4, HB4⟩
      case round =>
        clear HH4 HL4 HB4
        obtain ⟨k, R, hk, rfl, HH, HR, HLr, HBW⟩ := hrel
        by_cases hlt : k < ws.length
        · have hcf := World.rowIs.cell HH.out hlt
          rw [if_neg (by omega)] at hcf
          have hff := World.rowIs.frozen HH.out k
          have hgl' := World.rowIs.lt HH.out
          obtain ⟨bn, hbn, hbnW, hbng⟩ : ∃ b, wr.heap.size = b ∧ W.heap.size ≤ b ∧ gh < b := ⟨_, rfl, HBW.out.size, hgl'⟩
          obtain ⟨w5, hw5⟩ : ∃ w5, w5 = wr.alloc (.cells (madeCells #[Value.int .i64 0] l.length) 2) := ⟨_, rfl⟩
          have HN5 : Hid (NumRow w5 bn 2 l.length (fun _ => 0)) := Lib.hid (by rw [hw5, ← hbn]; exact numRow_made wr l.length _)
          have HH5 : Hid (w5.rowIs gh 59 ws.length (fun u => if u < k then .slice (some ⟨R u, 0, none⟩) l.length l.length else .slice none 0 0)) := Lib.hid (by rw [hw5]; exact World.rowIs.alloc HH.out _)
          have hcf5 := World.rowIs.cell HH5.out hlt
          rw [if_neg (by omega)] at hcf5
          have hff5 := World.rowIs.frozen HH5.out k
          have hgl5 := World.rowIs.lt HH5.out
          have HR5 : Hid (∀ u, u < k → NumRow w5 (R u) 2 l.length (fun _ => 0) ∧ gh < R u ∧ R u < bn ∧ ∀ v, v < k → u ≠ v → R u ≠ R v) := Lib.hid (fun u hu => by obtain ⟨a1, a2, a3, a4⟩ := HR.out u hu; exact ⟨by rw [hw5]; exact World.rowIs.alloc a1 _, a2, by omega, a4⟩)
          have HL5 : Hid (NumRow w5 gl 2 l.length (fun k => (lotAt l k).qty)) := Lib.hid (by rw [hw5]; exact World.rowIs.alloc HLr.out _)
          have HB5 : Hid (Below W.heap.size W w5) := Lib.hid (by rw [hw5]; exact HBW.out.alloc HBW.out.size _)
          have HWE := Lib.hid hw5
          have HGE := Lib.hid hbn
          clear hw5 hbn HH HR HLr HBW hcf hff hgl'
          go_wp2_with (at_make; refine wpList_make_row _ rfl _ _ 59 rfl 2 i0 (.int .i64 0) Try.underlying59 I1.out I2.out I3.out rfl .i64 .i64 l.length rfl rfl (by rw [I4.out]; omega) (by omega) ?_; rw [← HWE.out]; try rw [HGE.out])
          go_roundw
          case rel => exact ⟨k + 1, updN R k bn, by omega, by go_num, Lib.hid (slRow_set HH5.out k _ (fun j _ => by
            by_cases e : j = k
            · subst e; rw [if_pos rfl, if_pos (by omega), updN_same]
            · rw [if_neg e]
              by_cases hj : j < k
              · rw [if_pos hj, if_pos (by omega), updN_other _ _ _ e]
              · rw [if_neg hj, if_neg (by omega)])), Lib.hid (fun u hu => by
            by_cases e : u = k
            · subst e
              rw [updN_same]
              refine ⟨HN5.out.other (a := ⟨gh, u, none⟩) (by show bn ≠ gh; omega) _, hbng, by have := World.rowIs.lt HN5.out; simpa using this, fun v hv hne => ?_⟩
              rw [updN_other _ _ _ (fun h => hne h.symm)]
              have := (HR5.out v (by omega)).2.2.1
              omega
            · obtain ⟨a1, a2, a3, a4⟩ := HR5.out u (by omega)
              rw [updN_other _ _ _ e]
              refine ⟨a1.other (a := ⟨gh, k, none⟩) (by show R u ≠ gh; omega) _, a2, by have := World.rowIs.lt a1; simpa using this, fun v hv hne => ?_⟩
              by_cases ev : v = k
              · subst ev; rw [updN_same]; omega
              · rw [updN_other _ _ _ ev]; exact a4 v (by omega) hne), Lib.hid (HL5.out.other (a := ⟨gh, k, none⟩) (by show gl ≠ gh; omega) _), Lib.hid (HB5.out.setCell (p := ⟨gh, k, none⟩) hghW _)⟩
          case measure => simp [intOf]; omega
        · obtain rfl : k = ws.length := by omega
          have HG : Hid (Grid wr gh R l.length ws.length (fun _ _ => 0)) := Lib.hid ⟨World.rowIs.congr HH.out (fun j hj => if_pos hj), fun u hu => (HR.out u hu).1, fun u hu => by have := (HR.out u hu).2.1; omega, fun u v hu hv hne => (HR.out u hu).2.2.2 v hv hne⟩
          have HRG : Hid (∀ u, u < ws.length → gh < R u) := Lib.hid (fun u hu => (HR.out u hu).2.1)
          obtain ⟨w6, rfl⟩ : ∃ W, W = wr := ⟨_, rfl⟩
          clear HH HR I1 I2 I3 I4 J1 J2 J3 J4
          go_wp2_with fail
          go_loopw [9] (fun i wr => ∃ (u : Nat) (h : Nat → Nat → Int) (left : Nat → Int), u ≤ ws.length ∧ i = .int .i64 u ∧ Hid (Has l ws u ((wantAt ws u).qty) h left) ∧ Hid (Grid wr gh R l.length ws.length h) ∧ Hid (NumRow wr gl 2 l.length left) ∧ Hid (Below W.heap.size W wr)) (fun i _ => ws.length - (intOf i).toNat)
          case atStart => exact ⟨0, _, _, Nat.zero_le _, rfl, HS0, HG, HLr, HBW⟩
          case round =>
            clear HG HLr HBW HS0
            obtain ⟨u, h, left, hu, rfl, HH, HG, HLr, HBW⟩ := hrel
            by_cases hlt : u < ws.length
            · have hx := wantAt_some hlt
              obtain ⟨ad, ea, _, x0, x1, x2⟩ := (HL2.out.below HBW.out).rowW hx
              subst ea
              have hxq := HWR.out _ (List.mem_of_getElem? hx)
              obtain ⟨qu, hqu⟩ : ∃ q, (wantAt ws u).qty = q := ⟨_, rfl⟩
              rw [hqu] at x2 hxq HH
              have HQU := Lib.hid hqu
              clear hx hqu x0 x1
              go_wp2_with fail
              go_loopw [10] (fun nv wr => ∃ (need : Int) (h : Nat → Nat → Int) (left : Nat → Int), nv = .int .i64 need ∧ 0 ≤ need ∧ need ≤ 1125899906842624 ∧ Hid (Has l ws u need h left) ∧ Hid (Grid wr gh R l.length ws.length h) ∧ Hid (NumRow wr gl 2 l.length left) ∧ Hid (Below W.heap.size W wr)) (fun nv _ => (intOf nv).toNat)
              case atStart => exact ⟨qu, h, left, rfl, by omega, by omega, HH, HG, HLr, HBW⟩
              case round =>
                clear HH HG HLr HBW x2
                obtain ⟨need, h, left, rfl, hn0, hn1, HH, HG, HLr, HBW⟩ := hrel
                by_cases hnp : 0 < need
                · have hdn : decide (0 < need) = true := decide_eq_true hnp
                  have HW1 : Hid (LSl wr wr.heap.size (.slice A1 l.length c1) l) := Lib.hid (HV1.out.at_ HBW.out)
                  have HW2 : Hid (WSl wr wr.heap.size (.slice _ ws.length c2) ws) := Lib.hid (HV2.out.at_ HBW.out)
                  go_wp2_with fail
                  clear hdn
                  refine (way_any _ _ l ws u need h left gh gl R wr HW1.out HW2.out HG.out HLr.out (by omega) (fun v hv => by have := HRG.out v hv; omega) HH.out hlt hnp hn1 HQ.out h40 h60).mono ?_
                  rintro en w8 ⟨hkp, ⟨rfl, T, hst⟩ | ⟨m, h', left', rfl, m1, m2, hh', hg', hl'⟩⟩
                  · have HB8 := Lib.hid (hkp W.heap.size W HBW.out hglW HBW.out.size (fun v hv => by have := HRG.out v hv; omega))
                    have HNF := Lib.hid (Has.stuck HB.out hlt hnp HH.out hst)
                    clear hkp hst
                    go_wp2
                    go_ret
                    exact ⟨HB8.out, .inr ⟨rfl, HNF.out⟩⟩
                  · have HB8 := Lib.hid (hkp W.heap.size W HBW.out hglW HBW.out.size (fun v hv => by have := HRG.out v hv; omega))
                    have HH8 := Lib.hid hh'
                    have HG8 := Lib.hid hg'
                    have HL8 := Lib.hid hl'
                    have hm0 : (m == 0) = false := by rw [beq_eq_false_iff_ne]; omega
                    have hsub : IntKind.i64.wrap (need - m) = need - m := by rw [IntKind.wrap_i64]; omega
                    clear hkp hh' hg' hl' HG HLr HBW HW1 HW2 HH
                    go_wp2
                    go_roundw
                    case rel => exact ⟨need - m, h', left', rfl, by omega, by omega, HH8, HG8, HL8, HB8⟩
                    case measure => simp [intOf]; omega
                · obtain rfl : need = 0 := by omega
                  have HN := Lib.hid (HH.out.next)
                  go_wp2
                  go_roundw
                  case rel => exact ⟨u + 1, h, left, by omega, by go_num, HN, HG, HLr, HBW⟩
                  case measure => simp [intOf]; omega
            · obtain rfl : u = ws.length := by omega
              have HFT := Lib.hid (Has.fits HB.out (Nat.le_refl _) HH.out)
              go_wp2
              go_ret
              exact ⟨HBW.out, .inl ⟨rfl, HFT.out⟩⟩
open Classical in
theorem rany_any (v1 v2 : Value) (l : List Lt) (ws : List Wt) (w : World) (h1 : LSl w w.heap.size v1 l) (h2 : WSl w w.heap.size v2 ws) (h40 : l.length ≤ 40) (h60 : ws.length ≤ 60) :
    Calls Try.prog 26 #[v1, v2] w fun e w' => e = .returned (.bool (decide (fitsP l ws))) ∧ Below w.heap.size w w' := by
  by_cases hb : mayB l ws = true
  · refine (rany_may v1 v2 l ws w h1 h2 hb h40 h60).mono ?_
    rintro e w' ⟨hbl, ⟨rfl, hf⟩ | ⟨rfl, hf⟩⟩
    · exact ⟨ret_bool (decide_eq_true hf).symm, hbl⟩
    · exact ⟨ret_bool (decide_eq_false hf).symm, hbl⟩
  · have hnf : ¬ fitsP l ws := fun h => hb h.1
    have hb : mayB l ws = false := by simpa using hb
    rw [decide_eq_false hnf]
    have HB := Lib.hid hb
    have HV1 := Lib.hid h1
    have HV2 := Lib.hid h2
    clear hb h1 h2 hnf
    go_enter Try.func26, Try.ntmps26
    go_wp2_with (go_at_call 33; ((with_reducible refine (may_any _ _ l ws _ HV1.out HV2.out).mono ?_); rintro e w1 ⟨rfl, hb1'⟩; rw [HB.out]; have hb1 := Lib.hid hb1'; clear hb1'))
    go_ret
    exact ⟨rfl, hb1.out⟩
set_option maxRecDepth 100000 in
set_option maxHeartbeats 4000000 in
theorem anylaw_any (v1 v2 : Value) (l : List Lt) (ws : List Wt) (w : World) (hv1 : LSl w w.heap.size v1 l) (hv2 : WSl w w.heap.size v2 ws) (hs : Sized l) :
    Calls Try.prog 5 #[v1, v2] w fun e w' => e = .returned (.bool true) ∧ Below w.heap.size w w' := by
  obtain ⟨A1, c1, rfl, hc11, hc12, hcz1, _⟩ := id hv1
  obtain ⟨A2, c2, rfl, hc21, hc22, hcz2, _⟩ := id hv2
  have HV1 := Lib.hid hv1
  have HV2 := Lib.hid hv2
  have HS : Hid (Sized l) := Lib.hid hs
  clear hv1 hv2 hs
  go_enter Try.func5, Try.ntmps5
  go_wp2_with fail
  refine (awake_any w).mono ?_
  rintro e w1 ⟨rfl, hb1'⟩
  have HW1 := Lib.hid (HV1.out.at_ hb1')
  have HW2 := Lib.hid (HV2.out.at_ hb1')
  have HB1 := Lib.hid hb1'
  clear hb1'
  by_cases hS4 : l.length ≤ 40 ∧ ws.length ≤ 60
  · have hsd : decide (l.length ≤ 40 ∧ ws.length ≤ 60) = true := decide_eq_true hS4
    obtain ⟨h40, h60⟩ := hS4
    classical
    have KF : Hid (∀ v1 v2 W, LSl W W.heap.size v1 l → WSl W W.heap.size v2 ws → Calls Try.prog 18 #[v1, v2] W fun e w' => e = .returned (.bool (decide (fitsP l ws))) ∧ Below W.heap.size W w') := Lib.hid (fun v1 v2 W a b => by
      by_cases hf : fitsP l ws
      · rw [decide_eq_true hf]; exact fits_yes hf HS.out (by omega) (by omega) v1 v2 W a b
      · rw [decide_eq_false hf]; exact fits_not hf HS.out (by omega) (by omega) v1 v2 W a b)
    have KA : Hid (∀ v1 v2 W, LSl W W.heap.size v1 l → WSl W W.heap.size v2 ws → Calls Try.prog 26 #[v1, v2] W fun e w' => e = .returned (.bool (decide (fitsP l ws))) ∧ Below W.heap.size W w') := Lib.hid (fun v1 v2 W a b => by
      refine (rany_any v1 v2 l ws W a b h40 h60).mono ?_
      rintro e w' ⟨rfl, hb⟩
      exact ⟨ret_bool (by by_cases hf : fitsP l ws <;> simp [hf]), hb⟩)
    generalize decide (fitsP l ws) = bf at KF KA
    cases bf
    all_goals
      go_wp2_with (first
        | (go_at_call 10; ((with_reducible refine (small_any _ _ _ _ _ _ _).mono ?_); rintro e w2 ⟨rfl, rfl⟩; rw [hsd]))
        | (go_at_call 18; ((with_reducible refine (KF.out _ _ _ HW1.out HW2.out).mono ?_); rintro e w3 ⟨rfl, hb3'⟩; have HX1 := Lib.hid (HW1.out.at_ hb3'); have HX2 := Lib.hid (HW2.out.at_ hb3'); have HB3 := Lib.hid (below_two HB1.out hb3'); clear hb3' HW1 HW2 HB1))
        | (go_at_call 26; ((with_reducible refine (KA.out _ _ _ HX1.out HX2.out).mono ?_); rintro e w4 ⟨rfl, hb4'⟩; have HB4 := Lib.hid (below_two HB3.out hb4'); clear hb4')))
      go_ret
      exact ⟨rfl, HB4.out⟩
  · have hsd : decide (l.length ≤ 40 ∧ ws.length ≤ 60) = false := decide_eq_false hS4
    clear hS4
    go_wp2_with (go_at_call 10; ((with_reducible refine (small_any _ _ _ _ _ _ _).mono ?_); rintro e w2 ⟨rfl, rfl⟩; rw [hsd]))
    go_ret
    exact ⟨rfl, HB1.out⟩
end Go.Proofs.Ytddnfikjfmfhfaa
end
section
/- Arguments: a lot by value, a list of lots, as cells. -/
namespace Go.Proofs.Ytddnfikjfmfhfaa
open Go.ChangeShapes Go.WideShapes Go.ChangeAt Go.RowKit Go.Deep
set_option linter.unusedVariables false
set_option linter.constructorNameAsVariable false
set_option maxRecDepth 100000

theorem win_of_cells {H : Type} {enc : TypeId × Value → H} {W : World} {base fuel : Nat} {sp : Nat → Bool} {held : Bool} {cs : List Value} {x : DataW H × List MemPlace} (hl : cs.length = 2)
    (h : DataW.trod enc Try.prog W base sp held fuel 40 cs = some x) : ∃ f u : Int, cs = [.int .i64 f, .int .i64 u] ∧ -9223372036854775808 ≤ f ∧ f ≤ 9223372036854775807 ∧ -9223372036854775808 ≤ u ∧ u ≤ 9223372036854775807 := by
  obtain ⟨ys, n, _, _, _, hyl, hf⟩ := DataW.trod_struct Try.underlying40 h
  match cs, hl with
  | [c0, c1], _ =>
    have hC3 : Try.prog.cellsOf 3 = 1 := by kernel_rfl
    obtain ⟨y0, hy0⟩ : ∃ y, ys[0]? = some y := ⟨_, List.getElem?_eq_getElem (by rw [hyl]; decide)⟩
    obtain ⟨y1, hy1⟩ : ∃ y, ys[1]? = some y := ⟨_, List.getElem?_eq_getElem (by rw [hyl]; decide)⟩
    have g0 : DataW.trod enc Try.prog W base sp held n 3 [c0] = some y0 := by have h := (hf 0 _ rfl).trans hy0; simpa [hC3] using h
    have g1 : DataW.trod enc Try.prog W base sp held n 3 [c1] = some y1 := by have h := (hf 1 _ rfl).trans hy1; simpa [hC3] using h
    obtain ⟨f, e0, _, w0⟩ := DataW.trod_int Try.underlying3 g0
    obtain ⟨u, e1, _, w1⟩ := DataW.trod_int Try.underlying3 g1
    obtain rfl : c0 = _ := by simpa using e0
    obtain rfl : c1 = _ := by simpa using e1
    exact ⟨f, u, rfl, (bounds_i64 w0).1, (bounds_i64 w0).2, (bounds_i64 w1).1, (bounds_i64 w1).2⟩
theorem lot_of_cells {H : Type} {enc : TypeId × Value → H} {W : World} {base fuel : Nat} {sp : Nat → Bool} {held : Bool} {cs : List Value} {x : DataW H × List MemPlace} (hl : cs.length = 6)
    (h : DataW.trod enc Try.prog W base sp held fuel 42 cs = some x) : ∃ y : Lt, cs = encL y ∧ y.Fits := by
  obtain ⟨ys, n, _, _, _, hyl, hf⟩ := DataW.trod_struct Try.underlying42 h
  match cs, hl with
  | [c0, c1, c2, c3, c4, c5], _ =>
    have hC3 : Try.prog.cellsOf 3 = 1 := by kernel_rfl
    have hC2 : Try.prog.cellsOf 2 = 1 := by kernel_rfl
    have hC9 : Try.prog.cellsOf 9 = 1 := by kernel_rfl
    have hC4 : Try.prog.cellsOf 4 = 1 := by kernel_rfl
    have hCW : Try.prog.cellsOf 40 = 2 := by kernel_rfl
    obtain ⟨y0, hy0⟩ : ∃ y, ys[0]? = some y := ⟨_, List.getElem?_eq_getElem (by rw [hyl]; decide)⟩
    obtain ⟨y1, hy1⟩ : ∃ y, ys[1]? = some y := ⟨_, List.getElem?_eq_getElem (by rw [hyl]; decide)⟩
    obtain ⟨y2, hy2⟩ : ∃ y, ys[2]? = some y := ⟨_, List.getElem?_eq_getElem (by rw [hyl]; decide)⟩
    obtain ⟨y3, hy3⟩ : ∃ y, ys[3]? = some y := ⟨_, List.getElem?_eq_getElem (by rw [hyl]; decide)⟩
    obtain ⟨y4, hy4⟩ : ∃ y, ys[4]? = some y := ⟨_, List.getElem?_eq_getElem (by rw [hyl]; decide)⟩
    have g0 : DataW.trod enc Try.prog W base sp held n 3 [c0] = some y0 := by have h := (hf 0 _ rfl).trans hy0; simpa [hC3] using h
    have g1 : DataW.trod enc Try.prog W base sp held n 9 [c1] = some y1 := by have h := (hf 1 _ rfl).trans hy1; simpa [hC9] using h
    have g2 : DataW.trod enc Try.prog W base sp held n 40 [c2, c3] = some y2 := by have h := (hf 2 _ rfl).trans hy2; simpa [hCW] using h
    have g3 : DataW.trod enc Try.prog W base sp held n 2 [c4] = some y3 := by have h := (hf 3 _ rfl).trans hy3; simpa [hC2] using h
    have g4 : DataW.trod enc Try.prog W base sp held n 4 [c5] = some y4 := by have h := (hf 4 _ rfl).trans hy4; simpa [hC4] using h
    obtain ⟨i, e0, _, w0⟩ := DataW.trod_int Try.underlying3 g0
    obtain ⟨s, e1, _, w1⟩ := DataW.trod_string Try.underlying9 g1
    obtain ⟨f, u, e2, b1, b2, b3, b4⟩ := win_of_cells rfl g2
    obtain ⟨q, e3, _, w3⟩ := DataW.trod_int Try.underlying2 g3
    obtain ⟨b, e4, _⟩ := DataW.trod_bool Try.underlying4 g4
    simp only [List.cons.injEq, and_true] at e0 e1 e2 e3 e4
    obtain ⟨e2, e2'⟩ := e2
    subst e0 e1 e2 e2' e3 e4
    exact ⟨⟨i, s.data.toList, f, u, q, b⟩, rfl, (bounds_i64 w0).1, (bounds_i64 w0).2, by show s.data.toList.length ≤ maxLen; rw [Array.length_toList]; exact w1, b1, b2, b3, b4, (bounds_i64 w3).1, (bounds_i64 w3).2⟩
/-- A lot that is handed by value. -/
theorem open_lot {H : Type} {enc : TypeId × Value → H} {W : World} {r : Reach} {b0 base : Nat} {sp : Nat → Bool} {held : Bool} {v : Value} {d : DataW H} {p : List MemPlace} (hval : Value.okWide Try.prog W r b0 42 v)
    (h : DataW.Trod enc Try.prog W base sp held 42 v d p) : ∃ y : Lt, v = aggL y ∧ y.Fits := by
  obtain ⟨cs, rfl, hsz⟩ := okWide_struct Try.underlying42 hval
  obtain ⟨l⟩ := cs
  have hC : Try.prog.cellsOf 42 = 6 := by kernel_rfl
  have hl : l.length = 6 := by have := hsz.trans hC; simpa using this
  obtain ⟨fuel, hf⟩ := h
  have hf' : DataW.trod enc Try.prog W base sp held fuel 42 l = some (d, p) := by simpa [Value.cells] using hf
  obtain ⟨y, rfl, hy⟩ := lot_of_cells hl hf'
  exact ⟨y, rfl, hy⟩

theorem cell_lt {w : World} {p : Addr} {u : Value} (h : w.cell? p = some u) : p.block < w.heap.size := World.block_lt_of_cell? w p h
/-- A list of lots that is handed. -/
theorem open_lots {H : Type} {enc : TypeId × Value → H} {W : World} {r : Reach} {b0 base : Nat} {sp : Nat → Bool} {held : Bool} {v : Value} {d : DataW H} {p : List MemPlace} (hval : Value.okWide Try.prog W r b0 22 v)
    (h : DataW.Trod enc Try.prog W base sp held 22 v d p) : ∃ l, LSl W W.heap.size v l ∧ Sized l ∧ (l = [] ∨ ∃ elems spare, d = .slice elems spare ∧ l.length = elems.length) := by
  obtain ⟨a0, len0, cap0, rfl⟩ := okWide_slice Try.underlying22 hval
  obtain ⟨fuel, hf⟩ := h
  rcases open_slice Try.underlying22 hf with ⟨hcs, _⟩ | ⟨a, len, cap, m, n, D, Pl, hcs, _, hl, hm, hmm, hx, hi⟩
  · simp [Value.cells] at hcs
    obtain ⟨rfl, rfl, rfl⟩ := hcs
    exact ⟨[], ⟨none, 0, rfl, Nat.le_refl _, by simp [maxLen], fun _ => rfl, Lies.none⟩, fun x hx => by simp at hx, .inl rfl⟩
  · simp [Value.cells] at hcs
    obtain ⟨rfl, rfl, rfl⟩ := hcs
    have hlm : len0 ≤ m := by rw [hmm]; split <;> omega
    have hC : Try.prog.cellsOf 42 = 6 := by kernel_rfl
    have hpt : ∀ i, i < len0 → ∃ y : Lt, y.Fits ∧ ∀ c u, (encL y)[c]? = some u → W.cell? (a.add (i * 6 + c)) = some u := by
      intro i hil
      obtain ⟨cs', hc, ht⟩ := hi i (by omega)
      rw [hC] at hc
      obtain ⟨_, hlen, hat⟩ := World.cells?_some hc
      obtain ⟨y, rfl, hy⟩ := lot_of_cells hlen ht
      refine ⟨y, hy, fun c u hu => ?_⟩
      have hc6 : c < 6 := by have := (List.getElem?_eq_some_iff.1 hu).1; rw [encL_length] at this; exact this
      have := hat c hc6
      rw [addr_add] at this
      rw [this, hu]
    let f : Nat → Lt := fun i => if h : i < len0 then Classical.choose (hpt i h) else default
    have hff : ∀ i, i < len0 → (f i).Fits ∧ ∀ c u, (encL (f i))[c]? = some u → W.cell? (a.add (i * 6 + c)) = some u := by
      intro i hil
      have := Classical.choose_spec (hpt i hil)
      simp only [f, dif_pos hil]
      exact this
    have hlen : ((List.range len0).map f).length = len0 := by simp
    have hget : ∀ k, k < len0 → ((List.range len0).map f)[k]? = some (f k) := fun k hk => by simp [hk]
    refine ⟨(List.range len0).map f, ⟨some a, cap0, by rw [hlen], by omega, hm, fun h => (by cases h), fun hne => ?_⟩, fun q hq => ?_, .inr ?_⟩
    · have h0 : 0 < len0 := by
        rcases Nat.eq_zero_or_pos len0 with h | h
        · subst h; simp [lcells] at hne
        · exact h
      refine ⟨a, rfl, by have := cell_lt ((hff 0 h0).2 0 _ rfl); rw [addr_block] at this; exact this, fun j u hu => ?_⟩
      have hj : j < len0 * 6 := by have := (List.getElem?_eq_some_iff.1 hu).1; rw [lcells_length, hlen] at this; exact this
      have hk : j / 6 < len0 := by omega
      have := lcells_get _ _ _ (hget (j / 6) hk) (j % 6) (by omega)
      rw [show j / 6 * 6 + j % 6 = j by omega] at this
      rw [this] at hu
      have := (hff (j / 6) hk).2 (j % 6) u hu
      rwa [show j / 6 * 6 + j % 6 = j by omega] at this
    · obtain ⟨k, hk, rfl⟩ := List.mem_map.1 hq
      exact (hff k (by simpa using hk)).1
    · simp only [Prod.mk.injEq] at hx
      exact ⟨_, _, hx.1, by simp⟩

theorem own_knob : ownKnob Try.prog.godebug = none := by kernel_rfl
/-- What a law leaves behind: nothing that was there has turned. -/
theorem post_below {H : Type} {enc : TypeId × Value → H} {P : Program} {f : Func} {s : ChangeSpec} {apart fresh handsOn : Bool} {W W' : World} {args : Array Value} {v : Value} {ds gs : List (DataW H)} {before pa pv : List MemPlace}
    (hW : DataW.Whole enc P f.params.toList s.vars apart W args.toList ds gs before)
    (hres : ∀ (b : Nat) (sp : Nat → Bool) (hd : Bool), DataW.TrodAll enc P W' b sp hd f.resultTypes.toList (v.resultList f.resultTypes.size) (s.fn H (ds ++ gs)).results [])
    (hargs : DataW.TrodAll enc P W' 0 (fun b => decide (b < W.heap.size)) true f.params.toList args.toList (s.fn H (ds ++ gs)).args pa)
    (hvars : DataW.TrodVars enc P W' (fun b => decide (b < W.heap.size)) s.vars (s.fn H (ds ++ gs)).vars pv)
    (hb : Below W.heap.size W W') : s.post enc P f apart fresh handsOn false W args v W' :=
  ⟨ds, gs, before, [], pa, pv, hW, hres _ _ _, hargs, hvars, hb.frame _, fun h => by cases h⟩
theorem laid_out : laidOutB Try.prog = true := by kernel_rfl
end Go.Proofs.Ytddnfikjfmfhfaa
end
