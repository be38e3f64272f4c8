/- The law CodeNumbers; the walk. -/
import Derived.Test.YtcdjefbeillfmaaGreatDoorBLawB
import Derived.Test.YtcdjefbeillfmaaGreatDoorCLawT
import Derived.Test.YtcdjefbeillfmaaGreatDoorCRep
import Derived.Test.YtcdjefbeillfmaaGreatDoorCTref
import Derived.Test.YtcdjefbeillfmaaGreatDoorCNumL
import Derived.Lib.AppendStr
import Derived.Deep.RegionHeld
import Derived.Deep.DeepCutAuto
namespace Go.Proofs.YtcdjefbeillfmaaGreatDoor
open Go.ChangeShapes Go.WideShapes Go.ChangeAt Go.RowKit Go.Shelf Go.Sort
set_option linter.unusedVariables false
set_option maxRecDepth 100000

theorem lit_row (wi : World) (xs : Array Value) (l : List UInt8) (hx : xs.toList = bcells l) (hl : l.length ≤ 1000) :
    (wi.alloc (.cells xs 5)).ownsRow wi.heap.size 5 1 (.slice (some ⟨wi.heap.size, 0, none⟩) l.length l.length) l.length (bcells l) := by
  have hs : xs.size = l.length := by rw [← Array.length_toList, hx, bcells_len]
  have h := World.ownsRow_lit (base := wi.heap.size) (e := 5) (size := 1) wi xs l.length (Nat.le_refl _) (by unfold maxLen; omega) (by rw [hs, Nat.mul_one])
  rw [hx] at h
  exact h
/-- CodeBytes of bytes that have just been written down. -/
theorem bytes_lit {w wi : World} (l : List UInt8) (xs : Array Value) (hx : xs.toList = bcells l) (n : Nat) (hn : l.length = n) (hl : n ≤ 1000) (hv : Vars w) (hb : Below w.heap.size w wi) :
    Calls Tryz.prog 3 #[.slice (some ⟨wi.heap.size, 0, none⟩) n n] (wi.alloc (.cells xs 5)) fun e w' => e = .returned (.bool true) ∧ Below w.heap.size w w' := by
  subst hn
  have h0 : Below w.heap.size w (wi.alloc (.cells xs 5)) := hb.alloc hb.size _
  exact (bytes_any _ l _ (hv.below h0) (BSl.own (lit_row wi xs l hx hl)) (by omega)).mono fun e w' ⟨he, h⟩ => ⟨he, h0.trans (h.mono h0.size)⟩
/-- CodeBytes of bytes of one's own. -/
theorem bytes_own {w wi : World} {v : Value} {n base : Nat} (l : List UInt8) (ho : wi.ownsRow base 5 1 v n (bcells l)) (hl : n ≤ 1000) (hv : Vars w) (hb : Below w.heap.size w wi) :
    Calls Tryz.prog 3 #[v] wi fun e w' => e = .returned (.bool true) ∧ Below w.heap.size w w' := by
  have h1 := ho.1
  rw [bcells_len, Nat.mul_one] at h1
  exact (bytes_any _ l _ (hv.below hb) (BSl.own ho) (by omega)).mono fun e w' ⟨he, h⟩ => ⟨he, hb.trans (h.mono hb.size)⟩
theorem bytes_1 {w wi : World} (c : UInt8) (hv : Vars w) (hb : Below w.heap.size w wi) :
    Calls Tryz.prog 3 #[.slice (some ⟨wi.heap.size, 0, none⟩) 1 1] (wi.alloc (.cells #[.int .u8 (c.toNat : Int)] 5)) fun e w' => e = .returned (.bool true) ∧ Below w.heap.size w w' :=
  bytes_lit [c] _ rfl 1 rfl (by omega) hv hb
theorem bytes_2 {w wi : World} (c : UInt8) (hv : Vars w) (hb : Below w.heap.size w wi) :
    Calls Tryz.prog 3 #[.slice (some ⟨wi.heap.size, 0, none⟩) 2 2] (wi.alloc (.cells #[.int .u8 1, .int .u8 (c.toNat : Int)] 5)) fun e w' => e = .returned (.bool true) ∧ Below w.heap.size w w' :=
  bytes_lit [1, c] _ rfl 2 rfl (by omega) hv hb
theorem bytes_4 {w wi : World} (c : UInt8) (hv : Vars w) (hb : Below w.heap.size w wi) :
    Calls Tryz.prog 3 #[.slice (some ⟨wi.heap.size, 0, none⟩) 4 4] (wi.alloc (.cells #[.int .u8 2, .int .u8 65, .int .u8 (c.toNat : Int), .int .u8 66] 5)) fun e w' => e = .returned (.bool true) ∧ Below w.heap.size w w' :=
  bytes_lit [2, 65, c, 66] _ rfl 4 rfl (by omega) hv hb
/-- strings.Repeat behind a row of one byte that has just been written down. -/
theorem rep_row {w wi : World} (b c : UInt8) (n : Nat) (z : Int) (hz : z = (n : Int)) (hn : n ≤ 1000) (hb : Below w.heap.size w wi) :
    Calls Tryz.prog 14 #[.string ⟨#[b]⟩, .int .i64 z] (wi.alloc (.cells #[.int .u8 (c.toNat : Int)] 5)) fun e w' => ∃ S : ByteArray, e = .returned (.string S) ∧ S.data.toList = List.replicate n b ∧ S.size = n ∧ wi.heap.size ≤ w'.heap.size ∧ Below w.heap.size w w' ∧
      w'.ownsRow wi.heap.size 5 1 (.slice (some ⟨wi.heap.size, 0, none⟩) 1 1) 1 (bcells [c]) := by
  subst hz
  have h0 : Below w.heap.size w (wi.alloc (.cells #[.int .u8 (c.toNat : Int)] 5)) := hb.alloc hb.size _
  have hr := lit_row wi #[.int .u8 (c.toNat : Int)] [c] rfl (by simp)
  refine (rep_one b n _ hn).mono fun e w' ⟨he, h⟩ => ⟨_, he, by simp, by show (List.replicate n b).toArray.size = n; simp, by have := h.size; simp only [World.size_alloc] at this; omega, h0.trans (h.mono h0.size), World.ownsRow.kept hr (below_none h) (.inr (by simp [Value.ownBlock]))⟩
/-- 'append(row, text...)' behind a guard that says yes. -/
theorem wpList_append_string_g {P : Program} {w : World} {ops : Array Oper} {rest : List Oper} {o : Oper} {a : Act} {Q : Exit → Act → World → Prop} (hw : Region.wanted o (yielded ops a.tmps) = true) (sl x : Operand) (t u : TypeId)
    (ho : o.op = .call { callee := .builtin .append, args := #[sl, x], argTypes := #[t, u] })
    (base : Nat) (e : TypeId) (i : TypeInfo) (ht : P.underlying t = some (.slice e)) (hu : P.underlying u = some .string) (hi : P.info? e = some i) (hz : i.zero = some (.int .u8 0))
    (hsize : i.size = 1) (hby : i.bytes = 1)
    (v : Value) (n : Nat) (xs : List Value) (hs : a.eval sl = v) (hown : w.ownsRow base e 1 v n xs) (s : ByteArray) (hx : a.eval x = .string s)
    (h63 : n + s.size ≤ maxLen) (hbytes : n + s.size ≤ 140737488355328) (hbase : base ≤ w.heap.size)
    (h : ∀ v' w', w'.ownsRow base e 1 v' (n + s.size) (xs ++ Lib.strCells s) → w.grownBy w' v.ownBlock → wpList P ops Q rest (a.put o.dst v') w') : wpList P ops Q (o :: rest) a w := by
  refine wpList_step fun K hK => ?_
  rw [if_pos hw]
  obtain ⟨v', w', hr, h2, h3, h4⟩ := Lib.run_append_own_string (P := P) w base t u o.type e i ht hu hi hz hsize hby v n xs hown s h63 hbytes hbase
  unfold Oper.wp execOp
  simp only [ho, resolve, invoke, builtin, Sem.run_bind, Sem.run_pure, Result.andThen_ok, List.map_toArray, List.map_cons, List.map_nil, hs, hx, hr]
  exact hK _ _ (h v' w' h2 h3)
theorem lit1 (wi : World) (c : UInt8) : (wi.alloc (.cells #[.int .u8 (c.toNat : Int)] 5)).ownsRow wi.heap.size 5 1 (.slice (some ⟨wi.heap.size, 0, none⟩) 1 1) 1 (bcells [c]) := lit_row wi _ [c] rfl (by simp)
theorem lit0 (wi : World) : (wi.alloc (.cells #[.int .u8 0] 5)).ownsRow wi.heap.size 5 1 (.slice (some ⟨wi.heap.size, 0, none⟩) 1 1) 1 (bcells [0]) := lit_row wi _ [0] rfl (by simp)
theorem alloc_le (wi : World) (o : Obj) : wi.heap.size ≤ (wi.alloc o).heap.size := by simp only [World.size_alloc]; omega
theorem rep_str {w wi : World} (b : UInt8) (n : Nat) (z : Int) (hz : z = (n : Int)) (hn : n ≤ 1000) (hb : Below w.heap.size w wi) :
    Calls Tryz.prog 14 #[.string ⟨#[b]⟩, .int .i64 z] wi fun e w' => ∃ S : ByteArray, e = .returned (.string S) ∧ S.data.toList = List.replicate n b ∧ S.size = n ∧ Below w.heap.size w w' := by
  subst hz
  exact (rep_one b n _ hn).mono fun e w' ⟨he, h⟩ => ⟨_, he, by simp, by show (List.replicate n b).toArray.size = n; simp, hb.trans (h.mono hb.size)⟩
theorem right_rep (n : Nat) (h : n < 20) : rightL (List.replicate n 81) = decide (1 ≤ n ∧ n ≤ 12) := by
  have h := (show ∀ i : Fin 20, rightL (List.replicate i.val 81) = decide (1 ≤ i.val ∧ i.val ≤ 12) by decide +kernel) ⟨n, h⟩
  exact h
theorem right_str (S : ByteArray) (n : Nat) (w : World) (hS : S.data.toList = List.replicate n 81) (h : n < 20) (r : Bool) (hr : decide (1 ≤ n ∧ n ≤ 12) = r) :
    Calls Tryz.prog 15 #[.string S] w fun e w' => e = .returned (.bool r) ∧ Below w.heap.size w w' :=
  (right_any S w).mono fun e w' ⟨he, hb⟩ => ⟨he.trans (by rw [hS, right_rep n h, hr]), hb⟩
theorem strCells_b (s : ByteArray) : Lib.strCells s = bcells s.data.toList := rfl

theorem size_two (a : UInt8) (X : ByteArray) (h : X.size = 1) : ((⟨#[a]⟩ : ByteArray) ++ X).size = 2 := by
  rw [ByteArray.size_append, h]; rfl
theorem size_three (a b : UInt8) (X : ByteArray) (h : X.size = 1) : (((⟨#[a]⟩ : ByteArray) ++ X) ++ (⟨#[b]⟩ : ByteArray)).size = 3 := by
  rw [ByteArray.size_append, size_two a X h]; rfl
theorem conv_oneX (w : World) (c : UInt8) : ∃ X : ByteArray, X.size = 1 ∧ (convert 22 9 (.slice (some ⟨w.heap.size, 0, none⟩) 1 1)).run Tryz.prog (w.alloc (.cells #[.int .u8 (c.toNat : Int)] 5)) = .ok (.string X) (w.alloc (.cells #[.int .u8 (c.toNat : Int)] 5)) :=
  ⟨_, rfl, conv_one w (c.toNat : Int) (by omega) (by have := c.toNat_lt; omega)⟩

set_option maxHeartbeats 4000000 in
theorem numbers_any (w : World) (hv : Vars w) :
    Calls Tryz.prog 4 #[] w fun e w' => e = .returned (.bool true) ∧ Below w.heap.size w w' := by
  have HV := Lib.hid hv
  clear hv
  obtain ⟨i0, hi, hz0, hz1, hz2⟩ := info_parts infoByte
  have H1 := Lib.hid hi
  have H2 := Lib.hid hz0
  have H3 := Lib.hid hz1
  have H4 := Lib.hid hz2
  clear hi hz0 hz1 hz2
  go_enter Tryz.func4, Tryz.ntmps4
  go_wp2
  go_loopw [1] (fun i wr => ∃ k : Nat, k ≤ 256 ∧ i = .int .i64 (k : Int) ∧ Hid (Below w.heap.size w wr)) (fun i _ => 256 - (intOf i).toNat)
  case atStart => exact ⟨0, by omega, rfl, Lib.hid (Below.refl _ _)⟩
  case round =>
    obtain ⟨k, hk, rfl, HB⟩ := hrel
    by_cases hlt : k < 256
    · obtain ⟨c, rfl⟩ : ∃ c : UInt8, c.toNat = k := ⟨UInt8.ofNat k, by simp; omega⟩
      have hd1 : decide (((c.toNat : Nat) : Int) < 256) = true := decide_eq_true (by omega)
      obtain ⟨X, hXs, hXc⟩ := conv_oneX wr c
      have HC := Lib.hid hXc
      have HZ : Hid ((300 : Int) = ((300 : Nat) : Int)) := Lib.hid rfl
      have hs1 := size_two 65 X hXs
      have hs2 := size_three 65 66 X hXs
      have hs3 := size_two 49 X hXs
      clear hXc
      have HB1 : Hid (Below w.heap.size w (wr.alloc (.cells #[.int .u8 (c.toNat : Int)] 5))) := Lib.hid (HB.out.alloc HB.out.size _)
      go_wp2_with fail
      rw [HC.out]
      clear HC HB
      have HB := HB1
      clear HB1
      go_wp2_with (first
        | (go_at_call 13; ((with_reducible refine (texts_any _ _ (HV.out.below HB.out) (by omega)).mono ?_); rintro e w1 ⟨rfl, hbx⟩; have HB2 := Lib.hid (HB.out.trans (hbx.mono HB.out.size)); clear HB hbx; have HB := HB2; clear HB2))
        | (go_at_call 3; ((with_reducible refine (bytes_own _ HO.out (by omega) HV.out HB.out).mono ?_); rintro e w1 ⟨rfl, hbx⟩; clear HB; have HB := Lib.hid hbx; clear hbx))
        | (go_at_call 3; ((with_reducible refine (bytes_2 c HV.out HB.out).mono ?_); rintro e w1 ⟨rfl, hbx⟩; clear HB; have HB := Lib.hid hbx; clear hbx))
        | (go_at_call 3; ((with_reducible refine (bytes_4 c HV.out HB.out).mono ?_); rintro e w1 ⟨rfl, hbx⟩; clear HB; have HB := Lib.hid hbx; clear hbx))
        | (go_at_call 14; ((with_reducible refine (rep_row 90 c 300 _ HZ.out (by omega) HB.out).mono ?_); rintro e w1 ⟨S, rfl, hSl, hSs, hSg, hbx, hrow⟩; have hgl := HB.out.size; clear HB; have HB := Lib.hid hbx; have HR := Lib.hid hrow; have HSL := Lib.hid hSl; clear hbx hrow hSl))
        | (at_builtin; (refine wpList_append_string_g (by kernel_rfl) (.tmp 67) (.tmp 68) 22 9 rfl _ 5 i0 Tryz.underlying22 Tryz.underlying9 H1.out H2.out H3.out H4.out _ _ _ rfl HR.out S rfl (by unfold maxLen; omega) (by omega) (by omega) ?_); intro v2 w2 hown2 hg2; have HO : Hid (w2.ownsRow _ 5 1 v2 (1 + S.size) (bcells (c :: S.data.toList))) := Lib.hid hown2; have HB2 := Lib.hid (HB.out.grown hg2 HB.out.size (fun j hj => by cases hj; exact hgl)); clear hown2 hg2 HB HR; have HB := HB2; clear HB2)
        | (go_at_call 3; ((with_reducible refine (bytes_1 c HV.out HB.out).mono ?_); rintro e w1 ⟨rfl, hbx⟩; clear HB; have HB := Lib.hid hbx; clear hbx)))
      go_roundw
      case rel => exact ⟨c.toNat + 1, by omega, by go_num, HB⟩
      case measure => simp [intOf]; omega
    · obtain ⟨z1, hz1⟩ : ∃ z1 : Int, (k : Int) = z1 := ⟨_, rfl⟩
      rw [hz1]
      have hd : decide (z1 < 256) = false := decide_eq_false (by omega)
      clear hlt hk hz1
      go_wp2
      go_loopw [3] (fun i wr => ∃ k : Nat, k ≤ 20 ∧ i = .int .i64 (k : Int) ∧ Hid (Below w.heap.size w wr)) (fun i _ => 20 - (intOf i).toNat)
      case atStart => exact ⟨0, by omega, rfl, HB⟩
      case round =>
        clear HB
        obtain ⟨k, hk, rfl, HB⟩ := hrel
        by_cases hlt : k < 20
        · by_cases hk0 : k = 0
          · subst hk0
            have HZ : Hid ((0 : Int) = ((0 : Nat) : Int)) := Lib.hid rfl
            have HRR : Hid (decide (1 ≤ 0 ∧ 0 ≤ 12) = false) := Lib.hid rfl
            go_wp2_with (first
        | (go_at_call 14; ((with_reducible refine (rep_str 81 0 _ HZ.out (by omega) HB.out).mono ?_); rintro e w1 ⟨S, rfl, hSl, hSs, hbx⟩; have HSL := Lib.hid hSl; have hS1 : S.size ≤ 20 := (by omega); have HSS := Lib.hid hSs; clear HB hSl hSs; have HB := Lib.hid hbx; clear hbx))
        | (go_at_call 15; ((with_reducible refine (right_str S 0 _ HSL.out (by omega) false HRR.out).mono ?_); rintro e w1 ⟨rfl, hbx⟩; have HB2 := Lib.hid (HB.out.trans (hbx.mono HB.out.size)); clear HB hbx; have HB := HB2; clear HB2))
        | (go_at_call 13; ((with_reducible refine (texts_any _ _ (HV.out.below HB.out) (by omega)).mono ?_); rintro e w1 ⟨rfl, hbx⟩; have HB2 := Lib.hid (HB.out.trans (hbx.mono HB.out.size)); clear HB hbx; have HB := HB2; clear HB2))
        | (at_builtin; (refine wpList_append_string_g (by kernel_rfl) (.tmp 96) (.tmp 97) 22 9 rfl _ 5 i0 Tryz.underlying22 Tryz.underlying9 H1.out H2.out H3.out H4.out (.slice (some ⟨w1.heap.size, 0, none⟩) 1 1) 1 (bcells [0]) rfl (lit0 w1) S rfl (by unfold maxLen; show 1 + S.size ≤ _; omega) (by show 1 + S.size ≤ _; omega) (alloc_le _ _) ?_); intro v2 w2 hown2 hg2; have HO : Hid (w2.ownsRow _ 5 1 v2 (1 + S.size) (bcells (0 :: S.data.toList))) := Lib.hid hown2; have HB2 := Lib.hid ((HB.out.alloc HB.out.size _).grown hg2 (by have := HB.out.size; simp only [World.size_alloc]; omega) (fun j hj => by cases hj; exact HB.out.size)); clear hown2 hg2 HB; have HB := HB2; clear HB2)
        | (go_at_call 3; ((with_reducible refine (bytes_own _ HO.out (by omega) HV.out HB.out).mono ?_); rintro e w1 ⟨rfl, hbx⟩; clear HB HO; have HB := Lib.hid hbx; clear hbx)))
            go_roundw
            case rel => exact ⟨1, by omega, by go_num, HB⟩
            case measure => simp [intOf]
          · obtain ⟨c, rfl⟩ : ∃ c : UInt8, c.toNat = k := ⟨UInt8.ofNat k, by simp; omega⟩
            have HZ : Hid (((c.toNat : Nat) : Int) = ((c.toNat : Nat) : Int)) := Lib.hid rfl
            have hd0 : decide ((c.toNat : Int) < 20) = true := decide_eq_true (by omega)
            have hd1 : decide ((1 : Int) ≤ (c.toNat : Int)) = true := decide_eq_true (by omega)
            have hd2 : decide ((0 : Int) < (c.toNat : Int)) = true := decide_eq_true (by omega)
            by_cases h12 : c.toNat ≤ 12
            · have hd3 : decide ((c.toNat : Int) ≤ 12) = true := decide_eq_true (by omega)
              have HRR : Hid (decide (1 ≤ c.toNat ∧ c.toNat ≤ 12) = true) := Lib.hid (decide_eq_true ⟨by omega, h12⟩)
              go_wp2_with (first
        | (go_at_call 14; ((with_reducible refine (rep_str 81 c.toNat _ HZ.out (by omega) HB.out).mono ?_); rintro e w1 ⟨S, rfl, hSl, hSs, hbx⟩; have HSL := Lib.hid hSl; have hS1 : S.size ≤ 20 := (by omega); have HSS := Lib.hid hSs; clear HB hSl hSs; have HB := Lib.hid hbx; clear hbx; have hS2 : 1 ≤ S.size := (by have := HSS.out; omega); have hS3 : (S.extract 1 S.size).size ≤ 20 := (by rw [ByteArray.size_extract]; omega)))
        | (go_at_call 15; ((with_reducible refine (right_str S c.toNat _ HSL.out (by omega) true HRR.out).mono ?_); rintro e w1 ⟨rfl, hbx⟩; have HB2 := Lib.hid (HB.out.trans (hbx.mono HB.out.size)); clear HB hbx; have HB := HB2; clear HB2))
        | (go_at_call 13; ((with_reducible refine (texts_any _ _ (HV.out.below HB.out) (by omega)).mono ?_); rintro e w1 ⟨rfl, hbx⟩; have HB2 := Lib.hid (HB.out.trans (hbx.mono HB.out.size)); clear HB hbx; have HB := HB2; clear HB2))
        | (at_builtin; (refine wpList_append_string_g (by kernel_rfl) (.tmp 96) (.tmp 97) 22 9 rfl _ 5 i0 Tryz.underlying22 Tryz.underlying9 H1.out H2.out H3.out H4.out (.slice (some ⟨w1.heap.size, 0, none⟩) 1 1) 1 (bcells [c]) rfl (lit1 w1 c) S rfl (by unfold maxLen; show 1 + S.size ≤ _; omega) (by show 1 + S.size ≤ _; omega) (alloc_le _ _) ?_); intro v2 w2 hown2 hg2; have HO : Hid (w2.ownsRow _ 5 1 v2 (1 + S.size) (bcells (c :: S.data.toList))) := Lib.hid hown2; have HB2 := Lib.hid ((HB.out.alloc HB.out.size _).grown hg2 (by have := HB.out.size; simp only [World.size_alloc]; omega) (fun j hj => by cases hj; exact HB.out.size)); clear hown2 hg2 HB; have HB := HB2; clear HB2)
        | (at_builtin; (refine wpList_append_string_g (by kernel_rfl) (.tmp 108) (.tmp 110) 22 9 rfl _ 5 i0 Tryz.underlying22 Tryz.underlying9 H1.out H2.out H3.out H4.out (.slice (some ⟨w1.heap.size, 0, none⟩) 1 1) 1 (bcells [c]) rfl (lit1 w1 c) (S.extract 1 S.size) rfl (by unfold maxLen; show 1 + (S.extract 1 S.size).size ≤ _; omega) (by show 1 + (S.extract 1 S.size).size ≤ _; omega) (alloc_le _ _) ?_); intro v2 w2 hown2 hg2; have HO : Hid (w2.ownsRow _ 5 1 v2 (1 + (S.extract 1 S.size).size) (bcells (c :: (S.extract 1 S.size).data.toList))) := Lib.hid hown2; have HB2 := Lib.hid ((HB.out.alloc HB.out.size _).grown hg2 (by have := HB.out.size; simp only [World.size_alloc]; omega) (fun j hj => by cases hj; exact HB.out.size)); clear hown2 hg2 HB; have HB := HB2; clear HB2)
        | (go_at_call 3; ((with_reducible refine (bytes_own _ HO.out (by omega) HV.out HB.out).mono ?_); rintro e w1 ⟨rfl, hbx⟩; clear HB HO; have HB := Lib.hid hbx; clear hbx)))
              go_roundw
              case rel => exact ⟨c.toNat + 1, by omega, by go_num, HB⟩
              case measure => simp [intOf]; omega
            · have hd3 : decide ((c.toNat : Int) ≤ 12) = false := decide_eq_false (by omega)
              have HRR : Hid (decide (1 ≤ c.toNat ∧ c.toNat ≤ 12) = false) := Lib.hid (decide_eq_false (by omega))
              go_wp2_with (first
        | (go_at_call 14; ((with_reducible refine (rep_str 81 c.toNat _ HZ.out (by omega) HB.out).mono ?_); rintro e w1 ⟨S, rfl, hSl, hSs, hbx⟩; have HSL := Lib.hid hSl; have hS1 : S.size ≤ 20 := (by omega); have HSS := Lib.hid hSs; clear HB hSl hSs; have HB := Lib.hid hbx; clear hbx; have hS2 : 1 ≤ S.size := (by have := HSS.out; omega); have hS3 : (S.extract 1 S.size).size ≤ 20 := (by rw [ByteArray.size_extract]; omega)))
        | (go_at_call 15; ((with_reducible refine (right_str S c.toNat _ HSL.out (by omega) false HRR.out).mono ?_); rintro e w1 ⟨rfl, hbx⟩; have HB2 := Lib.hid (HB.out.trans (hbx.mono HB.out.size)); clear HB hbx; have HB := HB2; clear HB2))
        | (go_at_call 13; ((with_reducible refine (texts_any _ _ (HV.out.below HB.out) (by omega)).mono ?_); rintro e w1 ⟨rfl, hbx⟩; have HB2 := Lib.hid (HB.out.trans (hbx.mono HB.out.size)); clear HB hbx; have HB := HB2; clear HB2))
        | (at_builtin; (refine wpList_append_string_g (by kernel_rfl) (.tmp 96) (.tmp 97) 22 9 rfl _ 5 i0 Tryz.underlying22 Tryz.underlying9 H1.out H2.out H3.out H4.out (.slice (some ⟨w1.heap.size, 0, none⟩) 1 1) 1 (bcells [c]) rfl (lit1 w1 c) S rfl (by unfold maxLen; show 1 + S.size ≤ _; omega) (by show 1 + S.size ≤ _; omega) (alloc_le _ _) ?_); intro v2 w2 hown2 hg2; have HO : Hid (w2.ownsRow _ 5 1 v2 (1 + S.size) (bcells (c :: S.data.toList))) := Lib.hid hown2; have HB2 := Lib.hid ((HB.out.alloc HB.out.size _).grown hg2 (by have := HB.out.size; simp only [World.size_alloc]; omega) (fun j hj => by cases hj; exact HB.out.size)); clear hown2 hg2 HB; have HB := HB2; clear HB2)
        | (at_builtin; (refine wpList_append_string_g (by kernel_rfl) (.tmp 108) (.tmp 110) 22 9 rfl _ 5 i0 Tryz.underlying22 Tryz.underlying9 H1.out H2.out H3.out H4.out (.slice (some ⟨w1.heap.size, 0, none⟩) 1 1) 1 (bcells [c]) rfl (lit1 w1 c) (S.extract 1 S.size) rfl (by unfold maxLen; show 1 + (S.extract 1 S.size).size ≤ _; omega) (by show 1 + (S.extract 1 S.size).size ≤ _; omega) (alloc_le _ _) ?_); intro v2 w2 hown2 hg2; have HO : Hid (w2.ownsRow _ 5 1 v2 (1 + (S.extract 1 S.size).size) (bcells (c :: (S.extract 1 S.size).data.toList))) := Lib.hid hown2; have HB2 := Lib.hid ((HB.out.alloc HB.out.size _).grown hg2 (by have := HB.out.size; simp only [World.size_alloc]; omega) (fun j hj => by cases hj; exact HB.out.size)); clear hown2 hg2 HB; have HB := HB2; clear HB2)
        | (go_at_call 3; ((with_reducible refine (bytes_own _ HO.out (by omega) HV.out HB.out).mono ?_); rintro e w1 ⟨rfl, hbx⟩; clear HB HO; have HB := Lib.hid hbx; clear hbx)))
              go_roundw
              case rel => exact ⟨c.toNat + 1, by omega, by go_num, HB⟩
              case measure => simp [intOf]; omega
        · obtain ⟨z2, hz2⟩ : ∃ z2 : Int, (k : Int) = z2 := ⟨_, rfl⟩
          rw [hz2]
          have hd2 : decide (z2 < 20) = false := decide_eq_false (by omega)
          clear hlt hk hz2 hd
          go_wp2
          -- LOOP3
          have hcs := nums_cell wr
          have hW := HB.out.alloc HB.out.size (.cells numsC 2)
          have hgl : wr.heap.size < (wr.alloc (.cells numsC 2)).heap.size := by simp only [World.size_alloc]; omega
          obtain ⟨W, hWe⟩ : ∃ W, wr.alloc (.cells numsC 2) = W := ⟨_, rfl⟩
          rw [hWe] at hcs hW hgl
          obtain ⟨g, hg⟩ : ∃ g, wr.heap.size = g := ⟨_, rfl⟩
          rw [hg] at hcs hgl
          simp only [numsC] at hWe
          rw [hWe, hg]
          have HCS := Lib.hid hcs
          have HW := Lib.hid hW
          have hWs := hW.size
          clear hcs hW hWe hg HB
          go_loopw [6] (fun i wr => ∃ k : Nat, k ≤ 9 ∧ i = .int .i64 (k : Int) ∧ Hid (Below W.heap.size W wr)) (fun i _ => 9 - (intOf i).toNat)
          case atStart => exact ⟨0, by omega, rfl, Lib.hid (Below.refl _ _)⟩
          case round =>
            obtain ⟨k, hk, rfl, HB⟩ := hrel
            have HV3 : Hid (∀ w', Below W.heap.size W w' → Vars w') := Lib.hid (fun w' h => HV.out.below (HW.out.trans (h.mono HW.out.size)))
            by_cases hlt : k < 9
            · obtain ⟨n, hx, hn0, hn1⟩ := HCS.out k hlt
              have HX := Lib.hid hx
              have hpk : (⟨g, k, none⟩ : Addr).block < W.heap.size := hgl
              have hc := (HB.out.cell hpk).trans hx
              obtain ⟨T, hT⟩ : ∃ T : ByteArray, ⟨(Lib.itoa n).toArray⟩ = T := ⟨_, rfl⟩
              have HTX : Hid (∀ w', Vars w' → Calls Tryz.prog 17 #[.int .i64 n] w' fun e w'' => e = .returned (.string T) ∧ Below w'.heap.size w' w'') := Lib.hid (fun w' h => by rw [← hT]; exact text_any n w' h hn0 hn1)
              have HTR : Hid (∀ w', Calls Tryz.prog 18 #[.int .i64 n] w' fun e w'' => e = .returned (.string T) ∧ Below w'.heap.size w' w'') := Lib.hid (fun w' => by rw [← hT]; exact rtext_any n w' hn0 hn1)
              have HTN : Hid (∀ w', Vars w' → Calls Tryz.prog 16 #[.string T] w' fun e w'' => e = .returned (.tuple #[.int .i64 n, .bool true]) ∧ Below w'.heap.size w' w'') := Lib.hid (fun w' h => by rw [← hT]; exact number_back n w' h hn0 hn1)
              have hlt9 : decide ((k : Int) < 9) = true := decide_eq_true (by omega)
              clear hx hn0 hn1 hT
              go_upto_region 18 with (first
                | (go_at_call 17; ((with_reducible refine (HTX.out _ (HV3.out _ HB.out)).mono ?_); rintro e w1 ⟨rfl, hbx⟩; have HB2 := Lib.hid (HB.out.trans (hbx.mono HB.out.size)); clear HB hbx; have HB := HB2; clear HB2))
                | (go_at_call 16; ((with_reducible refine (HTN.out _ (HV3.out _ HB.out)).mono ?_); rintro e w1 ⟨rfl, hbx⟩; have HB2 := Lib.hid (HB.out.trans (hbx.mono HB.out.size)); clear HB hbx; have HB := HB2; clear HB2)))
              go_cut [154] (fun v wx => v = .bool false ∧ Below W.heap.size W wx)
              case first =>
                have hS : (fun w' => Below W.heap.size W w') w1.drew := HB.out.drew
                refine wp_region_held_drew (S := fun w' => Below W.heap.size W w') (by kernel_rfl) hS (fun hS => ?_)
                refine wpAnyH_take (i := 0) (v := (.int .i64 n)) rfl (by kernel_rfl) (by kernel_rfl) (by kernel_rfl) (fun _ _ _ h => h) (Or.inl ⟨by kernel_rfl, fun w' hS' => by go_simp⟩) hS ?_
                refine wpAnyH_take (i := 1) (v := (.slice (some ⟨g, 0, none⟩) 9 9)) rfl (by kernel_rfl) (by kernel_rfl) (by kernel_rfl) (fun _ _ _ h => h) (Or.inl ⟨by kernel_rfl, fun w' hS' => by go_simp⟩) hS ?_
                refine wpAnyH_take (i := 2) (v := (.int .i64 (k : Int))) rfl (by kernel_rfl) (by kernel_rfl) (by kernel_rfl) (fun _ _ _ h => h) (Or.inl ⟨by kernel_rfl, fun w' hS' => by go_simp⟩) hS ?_
                refine wpAnyH_take (i := 3) (v := (.pointer (some ⟨g, k, none⟩))) rfl (by kernel_rfl) (by kernel_rfl) (by kernel_rfl) (fun _ _ _ h => h) (Or.inl ⟨by kernel_rfl, fun w' hS' => by go_simp; intro h; exact absurd h (by omega)⟩) hS ?_
                refine wpAnyH_take (i := 4) (v := (.int .i64 n)) rfl (by kernel_rfl) (by kernel_rfl) (by kernel_rfl) (fun _ _ _ h => h) (Or.inl ⟨by kernel_rfl, fun w' hS' => by have hc := (hS'.cell hpk).trans HX.out; go_simp⟩) hS ?_
                refine wpAnyH_take (i := 5) (v := (.bool false)) rfl (by kernel_rfl) (by kernel_rfl) (by kernel_rfl) (fun _ _ _ h => h) (Or.inl ⟨by kernel_rfl, fun w' hS' => by go_simp⟩) hS ?_
                refine wpAnyH_take (i := 6) (v := (.bool false)) rfl (by kernel_rfl) (by kernel_rfl) (by kernel_rfl) (fun _ _ _ h => h) (Or.inl ⟨by kernel_rfl, fun w' hS' => by go_simp⟩) hS ?_
                refine wpAnyH_take (i := 7) (v := (.bool true)) rfl (by kernel_rfl) (by kernel_rfl) (by kernel_rfl) (fun _ _ _ h => h) (Or.inl ⟨by kernel_rfl, fun w' hS' => by go_simp⟩) hS ?_
                refine wpAnyH_take (i := 8) (v := (.bool false)) rfl (by kernel_rfl) (by kernel_rfl) (by kernel_rfl) (fun _ _ _ h => h) (Or.inl ⟨by kernel_rfl, fun w' hS' => by go_simp⟩) hS ?_
                refine wpAnyH_take (i := 9) (v := (.bool false)) rfl (by kernel_rfl) (by kernel_rfl) (by kernel_rfl) (fun _ _ _ h => h) (Or.inl ⟨by kernel_rfl, fun w' hS' => by go_simp⟩) hS ?_
                refine wpAnyH_take (i := 10) (v := (.bool false)) rfl (by kernel_rfl) (by kernel_rfl) (by kernel_rfl) (fun _ _ _ h => h) (Or.inl ⟨by kernel_rfl, fun w' hS' => by go_simp⟩) hS ?_
                refine wpAnyH_take (i := 11) (v := (.slice (some ⟨g, 0, none⟩) 9 9)) rfl (by kernel_rfl) (by kernel_rfl) (by kernel_rfl) (fun _ _ _ h => h) (Or.inl ⟨by kernel_rfl, fun w' hS' => by go_simp⟩) hS ?_
                refine wpAnyH_take (i := 12) (v := (.int .i64 (k : Int))) rfl (by kernel_rfl) (by kernel_rfl) (by kernel_rfl) (fun _ _ _ h => h) (Or.inl ⟨by kernel_rfl, fun w' hS' => by go_simp⟩) hS ?_
                refine wpAnyH_take (i := 13) (v := (.pointer (some ⟨g, k, none⟩))) rfl (by kernel_rfl) (by kernel_rfl) (by kernel_rfl) (fun _ _ _ h => h) (Or.inl ⟨by kernel_rfl, fun w' hS' => by go_simp; intro h; exact absurd h (by omega)⟩) hS ?_
                refine wpAnyH_take (i := 14) (v := (.int .i64 n)) rfl (by kernel_rfl) (by kernel_rfl) (by kernel_rfl) (fun _ _ _ h => h) (Or.inl ⟨by kernel_rfl, fun w' hS' => by have hc := (hS'.cell hpk).trans HX.out; go_simp⟩) hS ?_
                refine wpAnyH_take (i := 16) (v := (.slice (some ⟨g, 0, none⟩) 9 9)) rfl (by kernel_rfl) (by kernel_rfl) (by kernel_rfl) (fun _ _ _ h => h) (Or.inl ⟨by kernel_rfl, fun w' hS' => by go_simp⟩) hS ?_
                refine wpAnyH_take (i := 17) (v := (.int .i64 (k : Int))) rfl (by kernel_rfl) (by kernel_rfl) (by kernel_rfl) (fun _ _ _ h => h) (Or.inl ⟨by kernel_rfl, fun w' hS' => by go_simp⟩) hS ?_
                refine wpAnyH_take (i := 18) (v := (.pointer (some ⟨g, k, none⟩))) rfl (by kernel_rfl) (by kernel_rfl) (by kernel_rfl) (fun _ _ _ h => h) (Or.inl ⟨by kernel_rfl, fun w' hS' => by go_simp; intro h; exact absurd h (by omega)⟩) hS ?_
                refine wpAnyH_take (i := 19) (v := (.int .i64 n)) rfl (by kernel_rfl) (by kernel_rfl) (by kernel_rfl) (fun _ _ _ h => h) (Or.inl ⟨by kernel_rfl, fun w' hS' => by have hc := (hS'.cell hpk).trans HX.out; go_simp⟩) hS ?_
                refine wpAnyH_ready (rs := [15]) (by kernel_rfl) (by simp) ?_
                refine AllReadyH.cons rfl (fun K hK => ?_) AllReadyH.nil
                go_simp
                refine (HTX.out _ (HV3.out _ hS)).mono ?_
                rintro e w2 ⟨rfl, hb2⟩
                refine hK.out _ _ (hS.trans (hb2.mono hS.size)) (fun hS => ?_)
                clear hK K
                clear hb2
                refine wpAnyH_ready (rs := [20]) (by kernel_rfl) (by simp) ?_
                refine AllReadyH.cons rfl (fun K hK => ?_) AllReadyH.nil
                go_simp
                refine (HTR.out _).mono ?_
                rintro e w3 ⟨rfl, hb3⟩
                refine hK.out _ _ (hS.trans (hb3.mono hS.size)) (fun hS => ?_)
                clear hK K
                clear hb3
                refine wpAnyH_take (i := 21) (v := (.bool false)) rfl (by kernel_rfl) (by kernel_rfl) (by kernel_rfl) (fun _ _ _ h => h) (Or.inl ⟨by kernel_rfl, fun w' hS' => by go_simp⟩) hS ?_
                refine wpAnyH_take (i := 22) (v := (.bool false)) rfl (by kernel_rfl) (by kernel_rfl) (by kernel_rfl) (fun _ _ _ h => h) (Or.inl ⟨by kernel_rfl, fun w' hS' => by go_simp⟩) hS ?_
                refine wpAnyH_done (by kernel_rfl) ?_ _
                go_simp
                go_wp2_with fail
                go_meet
                exact ⟨rfl, hS⟩
              case rest =>
                obtain ⟨rfl, hbx⟩ := hcut
                have HB3 := Lib.hid hbx
                clear hbx HB
                go_wp2
                go_roundw
                case rel => exact ⟨k + 1, by omega, by go_num, HB3⟩
                case measure => simp [intOf]; omega
            · obtain ⟨z3, hz3⟩ : ∃ z3 : Int, (k : Int) = z3 := ⟨_, rfl⟩
              rw [hz3]
              have hd3 : decide (z3 < 9) = false := decide_eq_false (by omega)
              clear hlt hk hz3
              go_wp2
              -- LOOP4
              have hcs := no_cell wr
              have hWr := HW.out.trans (HB.out.mono HW.out.size)
              have hW2 := hWr.alloc hWr.size (.cells noC 9)
              have hgl2 : wr.heap.size < (wr.alloc (.cells noC 9)).heap.size := by simp only [World.size_alloc]; omega
              obtain ⟨W2, hWe⟩ : ∃ W2, wr.alloc (.cells noC 9) = W2 := ⟨_, rfl⟩
              rw [hWe] at hcs hW2 hgl2
              obtain ⟨g2, hg⟩ : ∃ g2, wr.heap.size = g2 := ⟨_, rfl⟩
              rw [hg] at hcs hgl2
              simp only [noC] at hWe
              rw [hWe, hg]
              have HNO := Lib.hid hcs
              have HW2 := Lib.hid hW2
              clear hcs hWr hW2 hWe hg HB HV3
              go_loopw [10] (fun i wr => ∃ k : Nat, k ≤ 16 ∧ i = .int .i64 (k : Int) ∧ Hid (Below W2.heap.size W2 wr)) (fun i _ => 16 - (intOf i).toNat)
              case atStart => exact ⟨0, by omega, rfl, Lib.hid (Below.refl _ _)⟩
              case round =>
                obtain ⟨k, hk, rfl, HB⟩ := hrel
                have HV4 : Hid (∀ w', Below W2.heap.size W2 w' → Vars w') := Lib.hid (fun w' h => HV.out.below (HW2.out.trans (h.mono HW2.out.size)))
                by_cases hlt : k < 16
                · obtain ⟨s, hx, hs, hno⟩ := HNO.out k hlt
                  have hpk : (⟨g2, k, none⟩ : Addr).block < W2.heap.size := hgl2
                  have hc := (HB.out.cell hpk).trans hx
                  have HS : Hid (∀ w', Vars w' → Calls Tryz.prog 16 #[.string s] w' fun e w'' => e = .returned (.tuple #[.int .i64 0, .bool false]) ∧ Below w'.heap.size w' w'') := Lib.hid (fun w' h => number_no s w' h hs hno)
                  have hlt16 : decide ((k : Int) < 16) = true := decide_eq_true (by omega)
                  clear hx hs hno
                  go_wp2_with (go_at_call 16; ((with_reducible refine (HS.out _ (HV4.out _ HB.out)).mono ?_); rintro e w1 ⟨rfl, hbx⟩; have HB2 := Lib.hid (HB.out.trans (hbx.mono HB.out.size)); clear HB hbx; have HB := HB2; clear HB2))
                  go_roundw
                  case rel => exact ⟨k + 1, by omega, by go_num, HB⟩
                  case measure => simp [intOf]; omega
                · obtain ⟨z4, hz4⟩ : ∃ z4 : Int, (k : Int) = z4 := ⟨_, rfl⟩
                  rw [hz4]
                  have hd4 : decide (z4 < 16) = false := decide_eq_false (by omega)
                  have HE := Lib.hid (HW2.out.trans (HB.out.mono HW2.out.size))
                  clear hlt hk hz4
                  go_wp2_with (go_at_call 5; ((with_reducible refine (awake_any _ (HV.out.below HE.out)).mono ?_); rintro e w1 ⟨rfl, hbx⟩; have HE2 := Lib.hid (HE.out.trans (hbx.mono HE.out.size))))
                  go_ret
                  exact ⟨rfl, HE2.out⟩
end Go.Proofs.YtcdjefbeillfmaaGreatDoor
