/- The contracts of code.Text and code.Number: numbers as texts. -/
import Derived.Test.YtcdjefbeillfmaaGreatDoorCPut
import Derived.Test.YtcdjefbeillfmaaGreatDoorCLays
import Derived.WalkSmall
import Derived.Lib.ParseIntBTie
import Derived.Lib.ItoaLen
import Derived.Lib.AtoiErrMem
namespace Go.Proofs.YtcdjefbeillfmaaGreatDoor
open Go.ChangeShapes Go.WideShapes Go.ChangeAt Go.RowKit Go.Shelf Go.Sort
set_option linter.unusedVariables false
set_option maxRecDepth 100000

/-- What the library's variables hold. -/
structure Vars (w : World) : Prop where
  tab : Lib.TabIs Tryz.prog w "internal/strconv.uint64pow10" .u64 Lib.pow10Tab
  syn : ∃ tp p, w.var? Tryz.prog "strconv.ErrSyntax" = some #[.iface tp p]
  rng : ∃ tp p, w.var? Tryz.prog "strconv.ErrRange" = some #[.iface tp p]

theorem gSyn : Tryz.prog.globalNamed "strconv.ErrSyntax" = some 1 := by kernel_rfl
theorem gRng : Tryz.prog.globalNamed "strconv.ErrRange" = some 2 := by kernel_rfl
theorem gTab : Tryz.prog.globalNamed "internal/strconv.uint64pow10" = some 3 := by kernel_rfl
theorem var_lt {P : Program} {w : World} {n : String} {cs : Array Value} {g : Nat} (hg : P.globalNamed n = some g) (h : w.var? P n = some cs) : g < w.heap.size := by
  rcases Nat.lt_or_ge g w.heap.size with hlt | hge
  · exact hlt
  · unfold World.var? at h
    simp only [hg, Option.bind_some] at h
    rw [Array.getElem?_eq_none hge] at h
    cases h
theorem Vars.below {w w' : World} (h : Vars w) (hb : Below w.heap.size w w') : Vars w' := by
  obtain ⟨tp, p, h1⟩ := h.syn
  obtain ⟨tq, q, h2⟩ := h.rng
  exact ⟨var?_below hb gTab (var_lt gTab h.tab) h.tab, ⟨tp, p, var?_below hb gSyn (var_lt gSyn h1) h1⟩, ⟨tq, q, var?_below hb gRng (var_lt gRng h2) h2⟩⟩
theorem below_grow {B : Nat} {a w : World} (h : Below B a w) (hB : B ≤ w.heap.size) (n : Nat) (os : Array Obj) : Below B a (grow (w.drewN n) os) :=
  ⟨h.os, h.tape, h.output, by have := h.size; simp only [size_grow]; show a.heap.size ≤ w.heap.size + os.size; omega, fun k hk => (heap_grow_old (w.drewN n) os (show k < w.heap.size by omega)).trans (h.block k hk)⟩
theorem ret_ib {a b : Int} {x y : Bool} (h : a = b) (h' : x = y) : Ending.returned (.tuple #[.int .i64 a, .bool x]) = .returned (.tuple #[.int .i64 b, .bool y]) := by rw [h, h']

theorem format_any (n : Int) (w : World) (hv : Vars w) (h0 : -9223372036854775808 ≤ n) (h1 : n ≤ 9223372036854775807) :
    Calls Tryz.prog 37 #[.int .i64 n, .int .i64 10] w fun e w' => e = .returned (.string ⟨(Lib.itoa n).toArray⟩) ∧ Below w.heap.size w w' :=
  (Any.strconv_FormatInt_10 Tryz.laysM173 n h0 h1 w hv.tab).mono fun e w' ⟨he, k, os, hw⟩ => ⟨he, by subst hw; exact below_grow (Below.refl _ _) (Nat.le_refl _) k os⟩

theorem text_any (n : Int) (w : World) (hv : Vars w) (h0 : -9223372036854775808 ≤ n) (h1 : n ≤ 9223372036854775807) :
    Calls Tryz.prog 17 #[.int .i64 n] w fun e w' => e = .returned (.string ⟨(Lib.itoa n).toArray⟩) ∧ Below w.heap.size w w' := by
  have HV := Lib.hid hv
  clear hv
  go_enter Tryz.func17, Tryz.ntmps17
  go_wp2_with (go_at_call 37; ((with_reducible refine (format_any n _ HV.out h0 h1).mono ?_); rintro e w' ⟨rfl, hb⟩))
  go_ret
  exact ⟨rfl, hb⟩

set_option maxHeartbeats 1000000 in
theorem number_any (s : ByteArray) (w : World) (hv : Vars w) (hs : s.size ≤ 140737488355328) :
    Calls Tryz.prog 16 #[.string s] w fun e w' => e = .returned (.tuple #[.int .i64 (numV s.data.toList), .bool (numB s.data.toList)]) ∧ Below w.heap.size w w' := by
  have HV := Lib.hid hv
  clear hv
  cases hp : Lib.atoiAll s.data.toList
  · rename_i v
    obtain ⟨v0, v1⟩ := atoi_bounds hp
    have HP := Lib.hid hp
    clear hp
    have hcall := fun W => Any.strconv_ParseInt_10_at64_ok Tryz.laysC174 s (by omega) v (by rw [Lib.parseIntB_64]; exact HP.out) W
    have HC := Lib.hid hcall
    clear hcall
    by_cases he : Lib.itoa v = s.data.toList
    · have hq : (Lib.itoa v == s.toList) = true := by rw [ByteArray.toList_eq]; simp [he]
      have hn : numL s.data.toList = some v := by unfold numL; rw [HP.out]; simp [he]
      have HN := Lib.hid hn
      have HE := Lib.hid he
      clear hn he
      go_enter Tryz.func16, Tryz.ntmps16
      go_wp2_with fail
      refine (HC.out _).mono ?_
      rintro e w1 ⟨rfl, hw1⟩
      have hb1 : RowKit.Below w.heap.size w w1 := by
        rcases hw1 with rfl | ⟨t, rfl⟩
        · exact Below.refl _ _
        · exact Lib.bytesWorld_below _ _ _
      clear hw1
      go_wp2_with (go_at_call 17; ((with_reducible refine (text_any v _ (HV.out.below hb1) v0 v1).mono ?_); rintro e w' ⟨rfl, hb⟩))
      go_ret2
      exact ⟨ret_ib (by simp [numV, HN.out]) (by simp [numB, HN.out]), hb1.trans (hb.mono hb1.size)⟩
    · have hq : (Lib.itoa v == s.toList) = false := by rw [ByteArray.toList_eq]; simpa using he
      have hn : numL s.data.toList = none := by unfold numL; rw [HP.out]; simp [he]
      have HN := Lib.hid hn
      have HE := Lib.hid he
      clear hn he
      go_enter Tryz.func16, Tryz.ntmps16
      go_wp2_with fail
      refine (HC.out _).mono ?_
      rintro e w1 ⟨rfl, hw1⟩
      have hb1 : RowKit.Below w.heap.size w w1 := by
        rcases hw1 with rfl | ⟨t, rfl⟩
        · exact Below.refl _ _
        · exact Lib.bytesWorld_below _ _ _
      clear hw1
      go_wp2_with (go_at_call 17; ((with_reducible refine (text_any v _ (HV.out.below hb1) v0 v1).mono ?_); rintro e w' ⟨rfl, hb⟩))
      go_ret2
      exact ⟨ret_ib (by simp [numV, HN.out]) (by simp [numB, HN.out]), hb1.trans (hb.mono hb1.size)⟩
  · have hn : numL s.data.toList = none := by unfold numL; rw [hp]
    have HP := Lib.hid hp
    have HN := Lib.hid hn
    clear hp hn
    obtain ⟨tp, p, hvar⟩ := HV.out.syn
    have hcall := Any.strconv_ParseInt_10_at64_syntax_var Tryz.laysC174 s (by omega) (by rw [Lib.parseIntB_64]; exact HP.out) tp p w hvar
    have HC := Lib.hid hcall
    clear hcall hvar
    go_enter Tryz.func16, Tryz.ntmps16
    go_wp2_with fail
    refine HC.out.mono ?_
    rintro e w1 ⟨N, rfl, _, _, hb⟩
    go_wp2_with fail
    go_ret2
    exact ⟨ret_ib (by simp [numV, HN.out]) (by simp [numB, HN.out]), hb⟩
  · have hn : numL s.data.toList = none := by unfold numL; rw [hp]
    have HP := Lib.hid hp
    have HN := Lib.hid hn
    clear hp hn
    obtain ⟨tp, p, hvar⟩ := HV.out.rng
    have hcall := Any.strconv_ParseInt_10_at64_range_var Tryz.laysC174 s (by omega) (by rw [Lib.parseIntB_64]; exact HP.out) tp p w hvar
    have HC := Lib.hid hcall
    clear hcall hvar
    go_enter Tryz.func16, Tryz.ntmps16
    go_wp2_with fail
    refine HC.out.mono ?_
    rintro e w1 ⟨N, rfl, _, _, hb⟩
    go_wp2_with fail
    go_ret2
    exact ⟨ret_ib (by simp [numV, HN.out]) (by simp [numB, HN.out]), hb⟩
end Go.Proofs.YtcdjefbeillfmaaGreatDoor
