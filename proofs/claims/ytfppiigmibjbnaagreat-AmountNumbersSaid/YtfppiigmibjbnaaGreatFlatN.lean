/- storemankit.flat..: no list at all. -/
import Derived.Test.YtfppiigmibjbnaaGreatFlatH
namespace Go.Proofs.YtfppiigmibjbnaaGreat
open Go.ChangeShapes Go.WideShapes Go.ChangeAt Go.RowKit Go.Maps Go.Sort
set_option linter.unusedVariables false

theorem below_more {B : Nat} {w w1 w2 : World} (h : Go.RowKit.Below B w w1) (hg : w1.grownBy w2 none) (hB : B ≤ w1.heap.size) : Go.RowKit.Below B w w2 := h.grown hg hB (fun j hj => by cases hj)

set_option maxRecDepth 100000 in
set_option maxHeartbeats 4000000 in
theorem flatn_Words (w : World) :
    Calls Tryz.prog 33 #[.slice none 0 0] w fun e w' => e = .returned (.bool true) ∧ Go.RowKit.Below w.heap.size w w' := by
  obtain ⟨i1, hi1, hy0, hy1, hy2⟩ := info_parts (show (Tryz.prog.info? 104).map (fun i => (i.zero, i.size, i.bytes)) = some (some (.slice none 0 0), 1, 24) by kernel_rfl)
  have I1 := Lib.hid hi1
  have I2 := Lib.hid hy0
  have I3 := Lib.hid hy1
  have I4 := Lib.hid hy2
  clear hi1 hy0 hy1 hy2
  go_enter Tryz.func33, Tryz.ntmps33
  go_wp2
  go_loopw [3] (fun i wr => i = .int .i64 0 ∧ Go.RowKit.Below w.heap.size w wr) (fun i _ => 0)
  case atStart => exact ⟨rfl, Below.refl _ _⟩
  case round =>
    obtain ⟨rfl, hb⟩ := hrel
    go_wp2_with (at_make; refine wpList_make_full _ rfl _ _ 47 rfl 0 104 i1 (.slice none 0 0) 1 Tryz.underlying47 I1.out I2.out I3.out .i64 .i64 _ _ 0 rfl rfl rfl rfl (by rw [I4.out]; omega) (by unfold maxLen; omega) (Nat.zero_le _) ?_; intro w1 hgs hg1)
    have hb1 := below_more hb hg1 hb.size
    clear hgs hg1 hb
    generalize wr.heap.size = g0
    go_loopw [6] (fun i wr => i = .int .i64 0 ∧ Go.RowKit.Below w.heap.size w wr) (fun i _ => 0)
    case atStart => exact ⟨rfl, hb1⟩
    case round =>
      obtain ⟨rfl, hb⟩ := hrel
      clear hb1
      go_wp2
      go_loopw [9] (fun i wr => i = .int .i64 0 ∧ Go.RowKit.Below w.heap.size w wr) (fun i _ => 0)
      case atStart => exact ⟨rfl, hb⟩
      case round =>
        clear hb
        obtain ⟨rfl, hb⟩ := hrel
        go_wp2
        go_loopw [11] (fun i wr => i = .int .i64 0 ∧ Go.RowKit.Below w.heap.size w wr) (fun i _ => 0)
        case atStart => exact ⟨rfl, hb⟩
        case round =>
          clear hb
          obtain ⟨rfl, hb⟩ := hrel
          go_wp2
          go_loopw [14] (fun i wr => i = .int .i64 0 ∧ Go.RowKit.Below w.heap.size w wr) (fun i _ => 0)
          case atStart => exact ⟨rfl, hb⟩
          case round =>
            clear hb
            obtain ⟨rfl, hb⟩ := hrel
            go_wp2
            go_ret
            exact ⟨rfl, hb⟩

set_option maxRecDepth 100000 in
set_option maxHeartbeats 4000000 in
theorem flatn_Ints (w : World) :
    Calls Tryz.prog 34 #[.slice none 0 0] w fun e w' => e = .returned (.bool true) ∧ Go.RowKit.Below w.heap.size w w' := by
  obtain ⟨i1, hi1, hy0, hy1, hy2⟩ := info_parts (show (Tryz.prog.info? 106).map (fun i => (i.zero, i.size, i.bytes)) = some (some (.slice none 0 0), 1, 24) by kernel_rfl)
  have I1 := Lib.hid hi1
  have I2 := Lib.hid hy0
  have I3 := Lib.hid hy1
  have I4 := Lib.hid hy2
  clear hi1 hy0 hy1 hy2
  go_enter Tryz.func34, Tryz.ntmps34
  go_wp2
  go_loopw [3] (fun i wr => i = .int .i64 0 ∧ Go.RowKit.Below w.heap.size w wr) (fun i _ => 0)
  case atStart => exact ⟨rfl, Below.refl _ _⟩
  case round =>
    obtain ⟨rfl, hb⟩ := hrel
    go_wp2_with (at_make; refine wpList_make_full _ rfl _ _ 48 rfl 0 106 i1 (.slice none 0 0) 1 Tryz.underlying48 I1.out I2.out I3.out .i64 .i64 _ _ 0 rfl rfl rfl rfl (by rw [I4.out]; omega) (by unfold maxLen; omega) (Nat.zero_le _) ?_; intro w1 hgs hg1)
    have hb1 := below_more hb hg1 hb.size
    clear hgs hg1 hb
    generalize wr.heap.size = g0
    go_loopw [6] (fun i wr => i = .int .i64 0 ∧ Go.RowKit.Below w.heap.size w wr) (fun i _ => 0)
    case atStart => exact ⟨rfl, hb1⟩
    case round =>
      obtain ⟨rfl, hb⟩ := hrel
      clear hb1
      go_wp2
      go_loopw [9] (fun i wr => i = .int .i64 0 ∧ Go.RowKit.Below w.heap.size w wr) (fun i _ => 0)
      case atStart => exact ⟨rfl, hb⟩
      case round =>
        clear hb
        obtain ⟨rfl, hb⟩ := hrel
        go_wp2
        go_loopw [11] (fun i wr => i = .int .i64 0 ∧ Go.RowKit.Below w.heap.size w wr) (fun i _ => 0)
        case atStart => exact ⟨rfl, hb⟩
        case round =>
          clear hb
          obtain ⟨rfl, hb⟩ := hrel
          go_wp2
          go_loopw [14] (fun i wr => i = .int .i64 0 ∧ Go.RowKit.Below w.heap.size w wr) (fun i _ => 0)
          case atStart => exact ⟨rfl, hb⟩
          case round =>
            clear hb
            obtain ⟨rfl, hb⟩ := hrel
            go_wp2
            go_ret
            exact ⟨rfl, hb⟩

set_option maxRecDepth 100000 in
set_option maxHeartbeats 4000000 in
theorem flatn_Longs (w : World) :
    Calls Tryz.prog 35 #[.slice none 0 0] w fun e w' => e = .returned (.bool true) ∧ Go.RowKit.Below w.heap.size w w' := by
  obtain ⟨i1, hi1, hy0, hy1, hy2⟩ := info_parts (show (Tryz.prog.info? 34).map (fun i => (i.zero, i.size, i.bytes)) = some (some (.slice none 0 0), 1, 24) by kernel_rfl)
  have I1 := Lib.hid hi1
  have I2 := Lib.hid hy0
  have I3 := Lib.hid hy1
  have I4 := Lib.hid hy2
  clear hi1 hy0 hy1 hy2
  go_enter Tryz.func35, Tryz.ntmps35
  go_wp2
  go_loopw [3] (fun i wr => i = .int .i64 0 ∧ Go.RowKit.Below w.heap.size w wr) (fun i _ => 0)
  case atStart => exact ⟨rfl, Below.refl _ _⟩
  case round =>
    obtain ⟨rfl, hb⟩ := hrel
    go_wp2_with (at_make; refine wpList_make_full _ rfl _ _ 49 rfl 0 34 i1 (.slice none 0 0) 1 Tryz.underlying49 I1.out I2.out I3.out .i64 .i64 _ _ 0 rfl rfl rfl rfl (by rw [I4.out]; omega) (by unfold maxLen; omega) (Nat.zero_le _) ?_; intro w1 hgs hg1)
    have hb1 := below_more hb hg1 hb.size
    clear hgs hg1 hb
    generalize wr.heap.size = g0
    go_loopw [6] (fun i wr => i = .int .i64 0 ∧ Go.RowKit.Below w.heap.size w wr) (fun i _ => 0)
    case atStart => exact ⟨rfl, hb1⟩
    case round =>
      obtain ⟨rfl, hb⟩ := hrel
      clear hb1
      go_wp2
      go_loopw [9] (fun i wr => i = .int .i64 0 ∧ Go.RowKit.Below w.heap.size w wr) (fun i _ => 0)
      case atStart => exact ⟨rfl, hb⟩
      case round =>
        clear hb
        obtain ⟨rfl, hb⟩ := hrel
        go_wp2
        go_loopw [11] (fun i wr => i = .int .i64 0 ∧ Go.RowKit.Below w.heap.size w wr) (fun i _ => 0)
        case atStart => exact ⟨rfl, hb⟩
        case round =>
          clear hb
          obtain ⟨rfl, hb⟩ := hrel
          go_wp2
          go_loopw [14] (fun i wr => i = .int .i64 0 ∧ Go.RowKit.Below w.heap.size w wr) (fun i _ => 0)
          case atStart => exact ⟨rfl, hb⟩
          case round =>
            clear hb
            obtain ⟨rfl, hb⟩ := hrel
            go_wp2
            go_ret
            exact ⟨rfl, hb⟩

set_option maxRecDepth 100000 in
set_option maxHeartbeats 4000000 in
theorem flatn_Texts (w : World) :
    Calls Tryz.prog 36 #[.slice none 0 0] w fun e w' => e = .returned (.bool true) ∧ Go.RowKit.Below w.heap.size w w' := by
  obtain ⟨i1, hi1, hy0, hy1, hy2⟩ := info_parts (show (Tryz.prog.info? 75).map (fun i => (i.zero, i.size, i.bytes)) = some (some (.slice none 0 0), 1, 24) by kernel_rfl)
  have I1 := Lib.hid hi1
  have I2 := Lib.hid hy0
  have I3 := Lib.hid hy1
  have I4 := Lib.hid hy2
  clear hi1 hy0 hy1 hy2
  go_enter Tryz.func36, Tryz.ntmps36
  go_wp2
  go_loopw [3] (fun i wr => i = .int .i64 0 ∧ Go.RowKit.Below w.heap.size w wr) (fun i _ => 0)
  case atStart => exact ⟨rfl, Below.refl _ _⟩
  case round =>
    obtain ⟨rfl, hb⟩ := hrel
    go_wp2_with (at_make; refine wpList_make_full _ rfl _ _ 50 rfl 0 75 i1 (.slice none 0 0) 1 Tryz.underlying50 I1.out I2.out I3.out .i64 .i64 _ _ 0 rfl rfl rfl rfl (by rw [I4.out]; omega) (by unfold maxLen; omega) (Nat.zero_le _) ?_; intro w1 hgs hg1)
    have hb1 := below_more hb hg1 hb.size
    clear hgs hg1 hb
    generalize wr.heap.size = g0
    go_loopw [6] (fun i wr => i = .int .i64 0 ∧ Go.RowKit.Below w.heap.size w wr) (fun i _ => 0)
    case atStart => exact ⟨rfl, hb1⟩
    case round =>
      obtain ⟨rfl, hb⟩ := hrel
      clear hb1
      go_wp2
      go_loopw [9] (fun i wr => i = .int .i64 0 ∧ Go.RowKit.Below w.heap.size w wr) (fun i _ => 0)
      case atStart => exact ⟨rfl, hb⟩
      case round =>
        clear hb
        obtain ⟨rfl, hb⟩ := hrel
        go_wp2
        go_loopw [11] (fun i wr => i = .int .i64 0 ∧ Go.RowKit.Below w.heap.size w wr) (fun i _ => 0)
        case atStart => exact ⟨rfl, hb⟩
        case round =>
          clear hb
          obtain ⟨rfl, hb⟩ := hrel
          go_wp2
          go_loopw [14] (fun i wr => i = .int .i64 0 ∧ Go.RowKit.Below w.heap.size w wr) (fun i _ => 0)
          case atStart => exact ⟨rfl, hb⟩
          case round =>
            clear hb
            obtain ⟨rfl, hb⟩ := hrel
            go_wp2
            go_ret
            exact ⟨rfl, hb⟩

set_option maxRecDepth 100000 in
set_option maxHeartbeats 4000000 in
theorem flatn_Bytes (w : World) :
    Calls Tryz.prog 37 #[.slice none 0 0] w fun e w' => e = .returned (.bool true) ∧ Go.RowKit.Below w.heap.size w w' := by
  obtain ⟨i1, hi1, hy0, hy1, hy2⟩ := info_parts (show (Tryz.prog.info? 108).map (fun i => (i.zero, i.size, i.bytes)) = some (some (.slice none 0 0), 1, 24) by kernel_rfl)
  have I1 := Lib.hid hi1
  have I2 := Lib.hid hy0
  have I3 := Lib.hid hy1
  have I4 := Lib.hid hy2
  clear hi1 hy0 hy1 hy2
  go_enter Tryz.func37, Tryz.ntmps37
  go_wp2
  go_loopw [3] (fun i wr => i = .int .i64 0 ∧ Go.RowKit.Below w.heap.size w wr) (fun i _ => 0)
  case atStart => exact ⟨rfl, Below.refl _ _⟩
  case round =>
    obtain ⟨rfl, hb⟩ := hrel
    go_wp2_with (at_make; refine wpList_make_full _ rfl _ _ 51 rfl 0 108 i1 (.slice none 0 0) 1 Tryz.underlying51 I1.out I2.out I3.out .i64 .i64 _ _ 0 rfl rfl rfl rfl (by rw [I4.out]; omega) (by unfold maxLen; omega) (Nat.zero_le _) ?_; intro w1 hgs hg1)
    have hb1 := below_more hb hg1 hb.size
    clear hgs hg1 hb
    generalize wr.heap.size = g0
    go_loopw [6] (fun i wr => i = .int .i64 0 ∧ Go.RowKit.Below w.heap.size w wr) (fun i _ => 0)
    case atStart => exact ⟨rfl, hb1⟩
    case round =>
      obtain ⟨rfl, hb⟩ := hrel
      clear hb1
      go_wp2
      go_loopw [9] (fun i wr => i = .int .i64 0 ∧ Go.RowKit.Below w.heap.size w wr) (fun i _ => 0)
      case atStart => exact ⟨rfl, hb⟩
      case round =>
        clear hb
        obtain ⟨rfl, hb⟩ := hrel
        go_wp2
        go_loopw [11] (fun i wr => i = .int .i64 0 ∧ Go.RowKit.Below w.heap.size w wr) (fun i _ => 0)
        case atStart => exact ⟨rfl, hb⟩
        case round =>
          clear hb
          obtain ⟨rfl, hb⟩ := hrel
          go_wp2
          go_loopw [14] (fun i wr => i = .int .i64 0 ∧ Go.RowKit.Below w.heap.size w wr) (fun i _ => 0)
          case atStart => exact ⟨rfl, hb⟩
          case round =>
            clear hb
            obtain ⟨rfl, hb⟩ := hrel
            go_wp2
            go_ret
            exact ⟨rfl, hb⟩

set_option maxRecDepth 100000 in
set_option maxHeartbeats 4000000 in
theorem flatn_Windows (w : World) :
    Calls Tryz.prog 38 #[.slice none 0 0] w fun e w' => e = .returned (.bool true) ∧ Go.RowKit.Below w.heap.size w w' := by
  obtain ⟨i1, hi1, hy0, hy1, hy2⟩ := info_parts (show (Tryz.prog.info? 110).map (fun i => (i.zero, i.size, i.bytes)) = some (some (.slice none 0 0), 1, 24) by kernel_rfl)
  have I1 := Lib.hid hi1
  have I2 := Lib.hid hy0
  have I3 := Lib.hid hy1
  have I4 := Lib.hid hy2
  clear hi1 hy0 hy1 hy2
  go_enter Tryz.func38, Tryz.ntmps38
  go_wp2
  go_loopw [3] (fun i wr => i = .int .i64 0 ∧ Go.RowKit.Below w.heap.size w wr) (fun i _ => 0)
  case atStart => exact ⟨rfl, Below.refl _ _⟩
  case round =>
    obtain ⟨rfl, hb⟩ := hrel
    go_wp2_with (at_make; refine wpList_make_full _ rfl _ _ 52 rfl 0 110 i1 (.slice none 0 0) 1 Tryz.underlying52 I1.out I2.out I3.out .i64 .i64 _ _ 0 rfl rfl rfl rfl (by rw [I4.out]; omega) (by unfold maxLen; omega) (Nat.zero_le _) ?_; intro w1 hgs hg1)
    have hb1 := below_more hb hg1 hb.size
    clear hgs hg1 hb
    generalize wr.heap.size = g0
    go_loopw [6] (fun i wr => i = .int .i64 0 ∧ Go.RowKit.Below w.heap.size w wr) (fun i _ => 0)
    case atStart => exact ⟨rfl, hb1⟩
    case round =>
      obtain ⟨rfl, hb⟩ := hrel
      clear hb1
      go_wp2
      go_loopw [9] (fun i wr => i = .int .i64 0 ∧ Go.RowKit.Below w.heap.size w wr) (fun i _ => 0)
      case atStart => exact ⟨rfl, hb⟩
      case round =>
        clear hb
        obtain ⟨rfl, hb⟩ := hrel
        go_wp2
        go_loopw [11] (fun i wr => i = .int .i64 0 ∧ Go.RowKit.Below w.heap.size w wr) (fun i _ => 0)
        case atStart => exact ⟨rfl, hb⟩
        case round =>
          clear hb
          obtain ⟨rfl, hb⟩ := hrel
          go_wp2
          go_loopw [14] (fun i wr => i = .int .i64 0 ∧ Go.RowKit.Below w.heap.size w wr) (fun i _ => 0)
          case atStart => exact ⟨rfl, hb⟩
          case round =>
            clear hb
            obtain ⟨rfl, hb⟩ := hrel
            go_wp2
            go_ret
            exact ⟨rfl, hb⟩

set_option maxRecDepth 100000 in
set_option maxHeartbeats 4000000 in
theorem flatn_Lots (w : World) :
    Calls Tryz.prog 39 #[.slice none 0 0] w fun e w' => e = .returned (.bool true) ∧ Go.RowKit.Below w.heap.size w w' := by
  obtain ⟨i1, hi1, hy0, hy1, hy2⟩ := info_parts (show (Tryz.prog.info? 114).map (fun i => (i.zero, i.size, i.bytes)) = some (some (.slice none 0 0), 1, 24) by kernel_rfl)
  have I1 := Lib.hid hi1
  have I2 := Lib.hid hy0
  have I3 := Lib.hid hy1
  have I4 := Lib.hid hy2
  clear hi1 hy0 hy1 hy2
  go_enter Tryz.func39, Tryz.ntmps39
  go_wp2
  go_loopw [3] (fun i wr => i = .int .i64 0 ∧ Go.RowKit.Below w.heap.size w wr) (fun i _ => 0)
  case atStart => exact ⟨rfl, Below.refl _ _⟩
  case round =>
    obtain ⟨rfl, hb⟩ := hrel
    go_wp2_with (at_make; refine wpList_make_full _ rfl _ _ 53 rfl 0 114 i1 (.slice none 0 0) 1 Tryz.underlying53 I1.out I2.out I3.out .i64 .i64 _ _ 0 rfl rfl rfl rfl (by rw [I4.out]; omega) (by unfold maxLen; omega) (Nat.zero_le _) ?_; intro w1 hgs hg1)
    have hb1 := below_more hb hg1 hb.size
    clear hgs hg1 hb
    generalize wr.heap.size = g0
    go_loopw [6] (fun i wr => i = .int .i64 0 ∧ Go.RowKit.Below w.heap.size w wr) (fun i _ => 0)
    case atStart => exact ⟨rfl, hb1⟩
    case round =>
      obtain ⟨rfl, hb⟩ := hrel
      clear hb1
      go_wp2
      go_loopw [9] (fun i wr => i = .int .i64 0 ∧ Go.RowKit.Below w.heap.size w wr) (fun i _ => 0)
      case atStart => exact ⟨rfl, hb⟩
      case round =>
        clear hb
        obtain ⟨rfl, hb⟩ := hrel
        go_wp2
        go_loopw [11] (fun i wr => i = .int .i64 0 ∧ Go.RowKit.Below w.heap.size w wr) (fun i _ => 0)
        case atStart => exact ⟨rfl, hb⟩
        case round =>
          clear hb
          obtain ⟨rfl, hb⟩ := hrel
          go_wp2
          go_loopw [14] (fun i wr => i = .int .i64 0 ∧ Go.RowKit.Below w.heap.size w wr) (fun i _ => 0)
          case atStart => exact ⟨rfl, hb⟩
          case round =>
            clear hb
            obtain ⟨rfl, hb⟩ := hrel
            go_wp2
            go_ret
            exact ⟨rfl, hb⟩

set_option maxRecDepth 100000 in
set_option maxHeartbeats 4000000 in
theorem flatn_Wants (w : World) :
    Calls Tryz.prog 40 #[.slice none 0 0] w fun e w' => e = .returned (.bool true) ∧ Go.RowKit.Below w.heap.size w w' := by
  obtain ⟨i1, hi1, hy0, hy1, hy2⟩ := info_parts (show (Tryz.prog.info? 118).map (fun i => (i.zero, i.size, i.bytes)) = some (some (.slice none 0 0), 1, 24) by kernel_rfl)
  have I1 := Lib.hid hi1
  have I2 := Lib.hid hy0
  have I3 := Lib.hid hy1
  have I4 := Lib.hid hy2
  clear hi1 hy0 hy1 hy2
  go_enter Tryz.func40, Tryz.ntmps40
  go_wp2
  go_loopw [3] (fun i wr => i = .int .i64 0 ∧ Go.RowKit.Below w.heap.size w wr) (fun i _ => 0)
  case atStart => exact ⟨rfl, Below.refl _ _⟩
  case round =>
    obtain ⟨rfl, hb⟩ := hrel
    go_wp2_with (at_make; refine wpList_make_full _ rfl _ _ 54 rfl 0 118 i1 (.slice none 0 0) 1 Tryz.underlying54 I1.out I2.out I3.out .i64 .i64 _ _ 0 rfl rfl rfl rfl (by rw [I4.out]; omega) (by unfold maxLen; omega) (Nat.zero_le _) ?_; intro w1 hgs hg1)
    have hb1 := below_more hb hg1 hb.size
    clear hgs hg1 hb
    generalize wr.heap.size = g0
    go_loopw [6] (fun i wr => i = .int .i64 0 ∧ Go.RowKit.Below w.heap.size w wr) (fun i _ => 0)
    case atStart => exact ⟨rfl, hb1⟩
    case round =>
      obtain ⟨rfl, hb⟩ := hrel
      clear hb1
      go_wp2
      go_loopw [9] (fun i wr => i = .int .i64 0 ∧ Go.RowKit.Below w.heap.size w wr) (fun i _ => 0)
      case atStart => exact ⟨rfl, hb⟩
      case round =>
        clear hb
        obtain ⟨rfl, hb⟩ := hrel
        go_wp2
        go_loopw [11] (fun i wr => i = .int .i64 0 ∧ Go.RowKit.Below w.heap.size w wr) (fun i _ => 0)
        case atStart => exact ⟨rfl, hb⟩
        case round =>
          clear hb
          obtain ⟨rfl, hb⟩ := hrel
          go_wp2
          go_loopw [14] (fun i wr => i = .int .i64 0 ∧ Go.RowKit.Below w.heap.size w wr) (fun i _ => 0)
          case atStart => exact ⟨rfl, hb⟩
          case round =>
            clear hb
            obtain ⟨rfl, hb⟩ := hrel
            go_wp2
            go_ret
            exact ⟨rfl, hb⟩

set_option maxRecDepth 100000 in
set_option maxHeartbeats 4000000 in
theorem flatn_Uses (w : World) :
    Calls Tryz.prog 41 #[.slice none 0 0] w fun e w' => e = .returned (.bool true) ∧ Go.RowKit.Below w.heap.size w w' := by
  obtain ⟨i1, hi1, hy0, hy1, hy2⟩ := info_parts (show (Tryz.prog.info? 122).map (fun i => (i.zero, i.size, i.bytes)) = some (some (.slice none 0 0), 1, 24) by kernel_rfl)
  have I1 := Lib.hid hi1
  have I2 := Lib.hid hy0
  have I3 := Lib.hid hy1
  have I4 := Lib.hid hy2
  clear hi1 hy0 hy1 hy2
  go_enter Tryz.func41, Tryz.ntmps41
  go_wp2
  go_loopw [3] (fun i wr => i = .int .i64 0 ∧ Go.RowKit.Below w.heap.size w wr) (fun i _ => 0)
  case atStart => exact ⟨rfl, Below.refl _ _⟩
  case round =>
    obtain ⟨rfl, hb⟩ := hrel
    go_wp2_with (at_make; refine wpList_make_full _ rfl _ _ 55 rfl 0 122 i1 (.slice none 0 0) 1 Tryz.underlying55 I1.out I2.out I3.out .i64 .i64 _ _ 0 rfl rfl rfl rfl (by rw [I4.out]; omega) (by unfold maxLen; omega) (Nat.zero_le _) ?_; intro w1 hgs hg1)
    have hb1 := below_more hb hg1 hb.size
    clear hgs hg1 hb
    generalize wr.heap.size = g0
    go_loopw [6] (fun i wr => i = .int .i64 0 ∧ Go.RowKit.Below w.heap.size w wr) (fun i _ => 0)
    case atStart => exact ⟨rfl, hb1⟩
    case round =>
      obtain ⟨rfl, hb⟩ := hrel
      clear hb1
      go_wp2
      go_loopw [9] (fun i wr => i = .int .i64 0 ∧ Go.RowKit.Below w.heap.size w wr) (fun i _ => 0)
      case atStart => exact ⟨rfl, hb⟩
      case round =>
        clear hb
        obtain ⟨rfl, hb⟩ := hrel
        go_wp2
        go_loopw [11] (fun i wr => i = .int .i64 0 ∧ Go.RowKit.Below w.heap.size w wr) (fun i _ => 0)
        case atStart => exact ⟨rfl, hb⟩
        case round =>
          clear hb
          obtain ⟨rfl, hb⟩ := hrel
          go_wp2
          go_loopw [14] (fun i wr => i = .int .i64 0 ∧ Go.RowKit.Below w.heap.size w wr) (fun i _ => 0)
          case atStart => exact ⟨rfl, hb⟩
          case round =>
            clear hb
            obtain ⟨rfl, hb⟩ := hrel
            go_wp2
            go_ret
            exact ⟨rfl, hb⟩

set_option maxRecDepth 100000 in
set_option maxHeartbeats 4000000 in
theorem flatn_Items (w : World) :
    Calls Tryz.prog 43 #[.slice none 0 0] w fun e w' => e = .returned (.bool true) ∧ Go.RowKit.Below w.heap.size w w' := by
  obtain ⟨i1, hi1, hy0, hy1, hy2⟩ := info_parts (show (Tryz.prog.info? 126).map (fun i => (i.zero, i.size, i.bytes)) = some (some (.slice none 0 0), 1, 24) by kernel_rfl)
  have I1 := Lib.hid hi1
  have I2 := Lib.hid hy0
  have I3 := Lib.hid hy1
  have I4 := Lib.hid hy2
  clear hi1 hy0 hy1 hy2
  go_enter Tryz.func43, Tryz.ntmps43
  go_wp2
  go_loopw [3] (fun i wr => i = .int .i64 0 ∧ Go.RowKit.Below w.heap.size w wr) (fun i _ => 0)
  case atStart => exact ⟨rfl, Below.refl _ _⟩
  case round =>
    obtain ⟨rfl, hb⟩ := hrel
    go_wp2_with (at_make; refine wpList_make_full _ rfl _ _ 56 rfl 0 126 i1 (.slice none 0 0) 1 Tryz.underlying56 I1.out I2.out I3.out .i64 .i64 _ _ 0 rfl rfl rfl rfl (by rw [I4.out]; omega) (by unfold maxLen; omega) (Nat.zero_le _) ?_; intro w1 hgs hg1)
    have hb1 := below_more hb hg1 hb.size
    clear hgs hg1 hb
    generalize wr.heap.size = g0
    go_loopw [6] (fun i wr => i = .int .i64 0 ∧ Go.RowKit.Below w.heap.size w wr) (fun i _ => 0)
    case atStart => exact ⟨rfl, hb1⟩
    case round =>
      obtain ⟨rfl, hb⟩ := hrel
      clear hb1
      go_wp2
      go_loopw [9] (fun i wr => i = .int .i64 0 ∧ Go.RowKit.Below w.heap.size w wr) (fun i _ => 0)
      case atStart => exact ⟨rfl, hb⟩
      case round =>
        clear hb
        obtain ⟨rfl, hb⟩ := hrel
        go_wp2
        go_loopw [11] (fun i wr => i = .int .i64 0 ∧ Go.RowKit.Below w.heap.size w wr) (fun i _ => 0)
        case atStart => exact ⟨rfl, hb⟩
        case round =>
          clear hb
          obtain ⟨rfl, hb⟩ := hrel
          go_wp2
          go_loopw [14] (fun i wr => i = .int .i64 0 ∧ Go.RowKit.Below w.heap.size w wr) (fun i _ => 0)
          case atStart => exact ⟨rfl, hb⟩
          case round =>
            clear hb
            obtain ⟨rfl, hb⟩ := hrel
            go_wp2
            go_ret
            exact ⟨rfl, hb⟩

set_option maxRecDepth 100000 in
set_option maxHeartbeats 4000000 in
theorem flatn_Lines (w : World) :
    Calls Tryz.prog 44 #[.slice none 0 0] w fun e w' => e = .returned (.bool true) ∧ Go.RowKit.Below w.heap.size w w' := by
  obtain ⟨i1, hi1, hy0, hy1, hy2⟩ := info_parts (show (Tryz.prog.info? 131).map (fun i => (i.zero, i.size, i.bytes)) = some (some (.slice none 0 0), 1, 24) by kernel_rfl)
  have I1 := Lib.hid hi1
  have I2 := Lib.hid hy0
  have I3 := Lib.hid hy1
  have I4 := Lib.hid hy2
  clear hi1 hy0 hy1 hy2
  go_enter Tryz.func44, Tryz.ntmps44
  go_wp2
  go_loopw [3] (fun i wr => i = .int .i64 0 ∧ Go.RowKit.Below w.heap.size w wr) (fun i _ => 0)
  case atStart => exact ⟨rfl, Below.refl _ _⟩
  case round =>
    obtain ⟨rfl, hb⟩ := hrel
    go_wp2_with (at_make; refine wpList_make_full _ rfl _ _ 57 rfl 0 131 i1 (.slice none 0 0) 1 Tryz.underlying57 I1.out I2.out I3.out .i64 .i64 _ _ 0 rfl rfl rfl rfl (by rw [I4.out]; omega) (by unfold maxLen; omega) (Nat.zero_le _) ?_; intro w1 hgs hg1)
    have hb1 := below_more hb hg1 hb.size
    clear hgs hg1 hb
    generalize wr.heap.size = g0
    go_loopw [6] (fun i wr => i = .int .i64 0 ∧ Go.RowKit.Below w.heap.size w wr) (fun i _ => 0)
    case atStart => exact ⟨rfl, hb1⟩
    case round =>
      obtain ⟨rfl, hb⟩ := hrel
      clear hb1
      go_wp2
      go_loopw [9] (fun i wr => i = .int .i64 0 ∧ Go.RowKit.Below w.heap.size w wr) (fun i _ => 0)
      case atStart => exact ⟨rfl, hb⟩
      case round =>
        clear hb
        obtain ⟨rfl, hb⟩ := hrel
        go_wp2
        go_loopw [11] (fun i wr => i = .int .i64 0 ∧ Go.RowKit.Below w.heap.size w wr) (fun i _ => 0)
        case atStart => exact ⟨rfl, hb⟩
        case round =>
          clear hb
          obtain ⟨rfl, hb⟩ := hrel
          go_wp2
          go_loopw [14] (fun i wr => i = .int .i64 0 ∧ Go.RowKit.Below w.heap.size w wr) (fun i _ => 0)
          case atStart => exact ⟨rfl, hb⟩
          case round =>
            clear hb
            obtain ⟨rfl, hb⟩ := hrel
            go_wp2
            go_ret
            exact ⟨rfl, hb⟩

set_option maxRecDepth 100000 in
set_option maxHeartbeats 4000000 in
theorem flatn_Asks (w : World) :
    Calls Tryz.prog 45 #[.slice none 0 0] w fun e w' => e = .returned (.bool true) ∧ Go.RowKit.Below w.heap.size w w' := by
  obtain ⟨i1, hi1, hy0, hy1, hy2⟩ := info_parts (show (Tryz.prog.info? 136).map (fun i => (i.zero, i.size, i.bytes)) = some (some (.slice none 0 0), 1, 24) by kernel_rfl)
  have I1 := Lib.hid hi1
  have I2 := Lib.hid hy0
  have I3 := Lib.hid hy1
  have I4 := Lib.hid hy2
  clear hi1 hy0 hy1 hy2
  go_enter Tryz.func45, Tryz.ntmps45
  go_wp2
  go_loopw [3] (fun i wr => i = .int .i64 0 ∧ Go.RowKit.Below w.heap.size w wr) (fun i _ => 0)
  case atStart => exact ⟨rfl, Below.refl _ _⟩
  case round =>
    obtain ⟨rfl, hb⟩ := hrel
    go_wp2_with (at_make; refine wpList_make_full _ rfl _ _ 58 rfl 0 136 i1 (.slice none 0 0) 1 Tryz.underlying58 I1.out I2.out I3.out .i64 .i64 _ _ 0 rfl rfl rfl rfl (by rw [I4.out]; omega) (by unfold maxLen; omega) (Nat.zero_le _) ?_; intro w1 hgs hg1)
    have hb1 := below_more hb hg1 hb.size
    clear hgs hg1 hb
    generalize wr.heap.size = g0
    go_loopw [6] (fun i wr => i = .int .i64 0 ∧ Go.RowKit.Below w.heap.size w wr) (fun i _ => 0)
    case atStart => exact ⟨rfl, hb1⟩
    case round =>
      obtain ⟨rfl, hb⟩ := hrel
      clear hb1
      go_wp2
      go_loopw [9] (fun i wr => i = .int .i64 0 ∧ Go.RowKit.Below w.heap.size w wr) (fun i _ => 0)
      case atStart => exact ⟨rfl, hb⟩
      case round =>
        clear hb
        obtain ⟨rfl, hb⟩ := hrel
        go_wp2
        go_loopw [11] (fun i wr => i = .int .i64 0 ∧ Go.RowKit.Below w.heap.size w wr) (fun i _ => 0)
        case atStart => exact ⟨rfl, hb⟩
        case round =>
          clear hb
          obtain ⟨rfl, hb⟩ := hrel
          go_wp2
          go_loopw [14] (fun i wr => i = .int .i64 0 ∧ Go.RowKit.Below w.heap.size w wr) (fun i _ => 0)
          case atStart => exact ⟨rfl, hb⟩
          case round =>
            clear hb
            obtain ⟨rfl, hb⟩ := hrel
            go_wp2
            go_ret
            exact ⟨rfl, hb⟩

set_option maxRecDepth 100000 in
set_option maxHeartbeats 4000000 in
theorem flatn_Tells (w : World) :
    Calls Tryz.prog 46 #[.slice none 0 0] w fun e w' => e = .returned (.bool true) ∧ Go.RowKit.Below w.heap.size w w' := by
  obtain ⟨i1, hi1, hy0, hy1, hy2⟩ := info_parts (show (Tryz.prog.info? 142).map (fun i => (i.zero, i.size, i.bytes)) = some (some (.slice none 0 0), 1, 24) by kernel_rfl)
  have I1 := Lib.hid hi1
  have I2 := Lib.hid hy0
  have I3 := Lib.hid hy1
  have I4 := Lib.hid hy2
  clear hi1 hy0 hy1 hy2
  go_enter Tryz.func46, Tryz.ntmps46
  go_wp2
  go_loopw [3] (fun i wr => i = .int .i64 0 ∧ Go.RowKit.Below w.heap.size w wr) (fun i _ => 0)
  case atStart => exact ⟨rfl, Below.refl _ _⟩
  case round =>
    obtain ⟨rfl, hb⟩ := hrel
    go_wp2_with (at_make; refine wpList_make_full _ rfl _ _ 59 rfl 0 142 i1 (.slice none 0 0) 1 Tryz.underlying59 I1.out I2.out I3.out .i64 .i64 _ _ 0 rfl rfl rfl rfl (by rw [I4.out]; omega) (by unfold maxLen; omega) (Nat.zero_le _) ?_; intro w1 hgs hg1)
    have hb1 := below_more hb hg1 hb.size
    clear hgs hg1 hb
    generalize wr.heap.size = g0
    go_loopw [6] (fun i wr => i = .int .i64 0 ∧ Go.RowKit.Below w.heap.size w wr) (fun i _ => 0)
    case atStart => exact ⟨rfl, hb1⟩
    case round =>
      obtain ⟨rfl, hb⟩ := hrel
      clear hb1
      go_wp2
      go_loopw [9] (fun i wr => i = .int .i64 0 ∧ Go.RowKit.Below w.heap.size w wr) (fun i _ => 0)
      case atStart => exact ⟨rfl, hb⟩
      case round =>
        clear hb
        obtain ⟨rfl, hb⟩ := hrel
        go_wp2
        go_loopw [11] (fun i wr => i = .int .i64 0 ∧ Go.RowKit.Below w.heap.size w wr) (fun i _ => 0)
        case atStart => exact ⟨rfl, hb⟩
        case round =>
          clear hb
          obtain ⟨rfl, hb⟩ := hrel
          go_wp2
          go_loopw [14] (fun i wr => i = .int .i64 0 ∧ Go.RowKit.Below w.heap.size w wr) (fun i _ => 0)
          case atStart => exact ⟨rfl, hb⟩
          case round =>
            clear hb
            obtain ⟨rfl, hb⟩ := hrel
            go_wp2
            go_ret
            exact ⟨rfl, hb⟩

set_option maxRecDepth 100000 in
set_option maxHeartbeats 4000000 in
theorem flatn_States (w : World) :
    Calls Tryz.prog 47 #[.slice none 0 0] w fun e w' => e = .returned (.bool true) ∧ Go.RowKit.Below w.heap.size w w' := by
  obtain ⟨i1, hi1, hy0, hy1, hy2⟩ := info_parts (show (Tryz.prog.info? 148).map (fun i => (i.zero, i.size, i.bytes)) = some (some (.slice none 0 0), 1, 24) by kernel_rfl)
  have I1 := Lib.hid hi1
  have I2 := Lib.hid hy0
  have I3 := Lib.hid hy1
  have I4 := Lib.hid hy2
  clear hi1 hy0 hy1 hy2
  go_enter Tryz.func47, Tryz.ntmps47
  go_wp2
  go_loopw [3] (fun i wr => i = .int .i64 0 ∧ Go.RowKit.Below w.heap.size w wr) (fun i _ => 0)
  case atStart => exact ⟨rfl, Below.refl _ _⟩
  case round =>
    obtain ⟨rfl, hb⟩ := hrel
    go_wp2_with (at_make; refine wpList_make_full _ rfl _ _ 60 rfl 0 148 i1 (.slice none 0 0) 1 Tryz.underlying60 I1.out I2.out I3.out .i64 .i64 _ _ 0 rfl rfl rfl rfl (by rw [I4.out]; omega) (by unfold maxLen; omega) (Nat.zero_le _) ?_; intro w1 hgs hg1)
    have hb1 := below_more hb hg1 hb.size
    clear hgs hg1 hb
    generalize wr.heap.size = g0
    go_loopw [6] (fun i wr => i = .int .i64 0 ∧ Go.RowKit.Below w.heap.size w wr) (fun i _ => 0)
    case atStart => exact ⟨rfl, hb1⟩
    case round =>
      obtain ⟨rfl, hb⟩ := hrel
      clear hb1
      go_wp2
      go_loopw [9] (fun i wr => i = .int .i64 0 ∧ Go.RowKit.Below w.heap.size w wr) (fun i _ => 0)
      case atStart => exact ⟨rfl, hb⟩
      case round =>
        clear hb
        obtain ⟨rfl, hb⟩ := hrel
        go_wp2
        go_loopw [11] (fun i wr => i = .int .i64 0 ∧ Go.RowKit.Below w.heap.size w wr) (fun i _ => 0)
        case atStart => exact ⟨rfl, hb⟩
        case round =>
          clear hb
          obtain ⟨rfl, hb⟩ := hrel
          go_wp2
          go_loopw [14] (fun i wr => i = .int .i64 0 ∧ Go.RowKit.Below w.heap.size w wr) (fun i _ => 0)
          case atStart => exact ⟨rfl, hb⟩
          case round =>
            clear hb
            obtain ⟨rfl, hb⟩ := hrel
            go_wp2
            go_ret
            exact ⟨rfl, hb⟩

set_option maxRecDepth 100000 in
set_option maxHeartbeats 4000000 in
theorem flatn_Rows (w : World) :
    Calls Tryz.prog 48 #[.slice none 0 0] w fun e w' => e = .returned (.bool true) ∧ Go.RowKit.Below w.heap.size w w' := by
  obtain ⟨i1, hi1, hy0, hy1, hy2⟩ := info_parts (show (Tryz.prog.info? 153).map (fun i => (i.zero, i.size, i.bytes)) = some (some (.slice none 0 0), 1, 24) by kernel_rfl)
  have I1 := Lib.hid hi1
  have I2 := Lib.hid hy0
  have I3 := Lib.hid hy1
  have I4 := Lib.hid hy2
  clear hi1 hy0 hy1 hy2
  go_enter Tryz.func48, Tryz.ntmps48
  go_wp2
  go_loopw [3] (fun i wr => i = .int .i64 0 ∧ Go.RowKit.Below w.heap.size w wr) (fun i _ => 0)
  case atStart => exact ⟨rfl, Below.refl _ _⟩
  case round =>
    obtain ⟨rfl, hb⟩ := hrel
    go_wp2_with (at_make; refine wpList_make_full _ rfl _ _ 61 rfl 0 153 i1 (.slice none 0 0) 1 Tryz.underlying61 I1.out I2.out I3.out .i64 .i64 _ _ 0 rfl rfl rfl rfl (by rw [I4.out]; omega) (by unfold maxLen; omega) (Nat.zero_le _) ?_; intro w1 hgs hg1)
    have hb1 := below_more hb hg1 hb.size
    clear hgs hg1 hb
    generalize wr.heap.size = g0
    go_loopw [6] (fun i wr => i = .int .i64 0 ∧ Go.RowKit.Below w.heap.size w wr) (fun i _ => 0)
    case atStart => exact ⟨rfl, hb1⟩
    case round =>
      obtain ⟨rfl, hb⟩ := hrel
      clear hb1
      go_wp2
      go_loopw [9] (fun i wr => i = .int .i64 0 ∧ Go.RowKit.Below w.heap.size w wr) (fun i _ => 0)
      case atStart => exact ⟨rfl, hb⟩
      case round =>
        clear hb
        obtain ⟨rfl, hb⟩ := hrel
        go_wp2
        go_loopw [11] (fun i wr => i = .int .i64 0 ∧ Go.RowKit.Below w.heap.size w wr) (fun i _ => 0)
        case atStart => exact ⟨rfl, hb⟩
        case round =>
          clear hb
          obtain ⟨rfl, hb⟩ := hrel
          go_wp2
          go_loopw [14] (fun i wr => i = .int .i64 0 ∧ Go.RowKit.Below w.heap.size w wr) (fun i _ => 0)
          case atStart => exact ⟨rfl, hb⟩
          case round =>
            clear hb
            obtain ⟨rfl, hb⟩ := hrel
            go_wp2
            go_ret
            exact ⟨rfl, hb⟩

set_option maxRecDepth 100000 in
set_option maxHeartbeats 4000000 in
theorem flatn_Turns (w : World) :
    Calls Tryz.prog 49 #[.slice none 0 0] w fun e w' => e = .returned (.bool true) ∧ Go.RowKit.Below w.heap.size w w' := by
  obtain ⟨i1, hi1, hy0, hy1, hy2⟩ := info_parts (show (Tryz.prog.info? 158).map (fun i => (i.zero, i.size, i.bytes)) = some (some (.slice none 0 0), 1, 24) by kernel_rfl)
  have I1 := Lib.hid hi1
  have I2 := Lib.hid hy0
  have I3 := Lib.hid hy1
  have I4 := Lib.hid hy2
  clear hi1 hy0 hy1 hy2
  go_enter Tryz.func49, Tryz.ntmps49
  go_wp2
  go_loopw [3] (fun i wr => i = .int .i64 0 ∧ Go.RowKit.Below w.heap.size w wr) (fun i _ => 0)
  case atStart => exact ⟨rfl, Below.refl _ _⟩
  case round =>
    obtain ⟨rfl, hb⟩ := hrel
    go_wp2_with (at_make; refine wpList_make_full _ rfl _ _ 62 rfl 0 158 i1 (.slice none 0 0) 1 Tryz.underlying62 I1.out I2.out I3.out .i64 .i64 _ _ 0 rfl rfl rfl rfl (by rw [I4.out]; omega) (by unfold maxLen; omega) (Nat.zero_le _) ?_; intro w1 hgs hg1)
    have hb1 := below_more hb hg1 hb.size
    clear hgs hg1 hb
    generalize wr.heap.size = g0
    go_loopw [6] (fun i wr => i = .int .i64 0 ∧ Go.RowKit.Below w.heap.size w wr) (fun i _ => 0)
    case atStart => exact ⟨rfl, hb1⟩
    case round =>
      obtain ⟨rfl, hb⟩ := hrel
      clear hb1
      go_wp2
      go_loopw [9] (fun i wr => i = .int .i64 0 ∧ Go.RowKit.Below w.heap.size w wr) (fun i _ => 0)
      case atStart => exact ⟨rfl, hb⟩
      case round =>
        clear hb
        obtain ⟨rfl, hb⟩ := hrel
        go_wp2
        go_loopw [11] (fun i wr => i = .int .i64 0 ∧ Go.RowKit.Below w.heap.size w wr) (fun i _ => 0)
        case atStart => exact ⟨rfl, hb⟩
        case round =>
          clear hb
          obtain ⟨rfl, hb⟩ := hrel
          go_wp2
          go_loopw [14] (fun i wr => i = .int .i64 0 ∧ Go.RowKit.Below w.heap.size w wr) (fun i _ => 0)
          case atStart => exact ⟨rfl, hb⟩
          case round =>
            clear hb
            obtain ⟨rfl, hb⟩ := hrel
            go_wp2
            go_ret
            exact ⟨rfl, hb⟩

set_option maxRecDepth 100000 in
set_option maxHeartbeats 4000000 in
theorem flatn_Fates (w : World) :
    Calls Tryz.prog 50 #[.slice none 0 0] w fun e w' => e = .returned (.bool true) ∧ Go.RowKit.Below w.heap.size w w' := by
  obtain ⟨i1, hi1, hy0, hy1, hy2⟩ := info_parts (show (Tryz.prog.info? 163).map (fun i => (i.zero, i.size, i.bytes)) = some (some (.slice none 0 0), 1, 24) by kernel_rfl)
  have I1 := Lib.hid hi1
  have I2 := Lib.hid hy0
  have I3 := Lib.hid hy1
  have I4 := Lib.hid hy2
  clear hi1 hy0 hy1 hy2
  go_enter Tryz.func50, Tryz.ntmps50
  go_wp2
  go_loopw [3] (fun i wr => i = .int .i64 0 ∧ Go.RowKit.Below w.heap.size w wr) (fun i _ => 0)
  case atStart => exact ⟨rfl, Below.refl _ _⟩
  case round =>
    obtain ⟨rfl, hb⟩ := hrel
    go_wp2_with (at_make; refine wpList_make_full _ rfl _ _ 63 rfl 0 163 i1 (.slice none 0 0) 1 Tryz.underlying63 I1.out I2.out I3.out .i64 .i64 _ _ 0 rfl rfl rfl rfl (by rw [I4.out]; omega) (by unfold maxLen; omega) (Nat.zero_le _) ?_; intro w1 hgs hg1)
    have hb1 := below_more hb hg1 hb.size
    clear hgs hg1 hb
    generalize wr.heap.size = g0
    go_loopw [6] (fun i wr => i = .int .i64 0 ∧ Go.RowKit.Below w.heap.size w wr) (fun i _ => 0)
    case atStart => exact ⟨rfl, hb1⟩
    case round =>
      obtain ⟨rfl, hb⟩ := hrel
      clear hb1
      go_wp2
      go_loopw [9] (fun i wr => i = .int .i64 0 ∧ Go.RowKit.Below w.heap.size w wr) (fun i _ => 0)
      case atStart => exact ⟨rfl, hb⟩
      case round =>
        clear hb
        obtain ⟨rfl, hb⟩ := hrel
        go_wp2
        go_loopw [11] (fun i wr => i = .int .i64 0 ∧ Go.RowKit.Below w.heap.size w wr) (fun i _ => 0)
        case atStart => exact ⟨rfl, hb⟩
        case round =>
          clear hb
          obtain ⟨rfl, hb⟩ := hrel
          go_wp2
          go_loopw [14] (fun i wr => i = .int .i64 0 ∧ Go.RowKit.Below w.heap.size w wr) (fun i _ => 0)
          case atStart => exact ⟨rfl, hb⟩
          case round =>
            clear hb
            obtain ⟨rfl, hb⟩ := hrel
            go_wp2
            go_ret
            exact ⟨rfl, hb⟩

set_option maxRecDepth 100000 in
set_option maxHeartbeats 4000000 in
theorem flatn_Dirties (w : World) :
    Calls Tryz.prog 51 #[.slice none 0 0] w fun e w' => e = .returned (.bool true) ∧ Go.RowKit.Below w.heap.size w w' := by
  obtain ⟨i1, hi1, hy0, hy1, hy2⟩ := info_parts (show (Tryz.prog.info? 167).map (fun i => (i.zero, i.size, i.bytes)) = some (some (.slice none 0 0), 1, 24) by kernel_rfl)
  have I1 := Lib.hid hi1
  have I2 := Lib.hid hy0
  have I3 := Lib.hid hy1
  have I4 := Lib.hid hy2
  clear hi1 hy0 hy1 hy2
  go_enter Tryz.func51, Tryz.ntmps51
  go_wp2
  go_loopw [3] (fun i wr => i = .int .i64 0 ∧ Go.RowKit.Below w.heap.size w wr) (fun i _ => 0)
  case atStart => exact ⟨rfl, Below.refl _ _⟩
  case round =>
    obtain ⟨rfl, hb⟩ := hrel
    go_wp2_with (at_make; refine wpList_make_full _ rfl _ _ 64 rfl 0 167 i1 (.slice none 0 0) 1 Tryz.underlying64 I1.out I2.out I3.out .i64 .i64 _ _ 0 rfl rfl rfl rfl (by rw [I4.out]; omega) (by unfold maxLen; omega) (Nat.zero_le _) ?_; intro w1 hgs hg1)
    have hb1 := below_more hb hg1 hb.size
    clear hgs hg1 hb
    generalize wr.heap.size = g0
    go_loopw [6] (fun i wr => i = .int .i64 0 ∧ Go.RowKit.Below w.heap.size w wr) (fun i _ => 0)
    case atStart => exact ⟨rfl, hb1⟩
    case round =>
      obtain ⟨rfl, hb⟩ := hrel
      clear hb1
      go_wp2
      go_loopw [9] (fun i wr => i = .int .i64 0 ∧ Go.RowKit.Below w.heap.size w wr) (fun i _ => 0)
      case atStart => exact ⟨rfl, hb⟩
      case round =>
        clear hb
        obtain ⟨rfl, hb⟩ := hrel
        go_wp2
        go_loopw [11] (fun i wr => i = .int .i64 0 ∧ Go.RowKit.Below w.heap.size w wr) (fun i _ => 0)
        case atStart => exact ⟨rfl, hb⟩
        case round =>
          clear hb
          obtain ⟨rfl, hb⟩ := hrel
          go_wp2
          go_loopw [14] (fun i wr => i = .int .i64 0 ∧ Go.RowKit.Below w.heap.size w wr) (fun i _ => 0)
          case atStart => exact ⟨rfl, hb⟩
          case round =>
            clear hb
            obtain ⟨rfl, hb⟩ := hrel
            go_wp2
            go_ret
            exact ⟨rfl, hb⟩

set_option maxRecDepth 100000 in
set_option maxHeartbeats 4000000 in
theorem flatn_Opens (w : World) :
    Calls Tryz.prog 52 #[.slice none 0 0] w fun e w' => e = .returned (.bool true) ∧ Go.RowKit.Below w.heap.size w w' := by
  obtain ⟨i1, hi1, hy0, hy1, hy2⟩ := info_parts (show (Tryz.prog.info? 171).map (fun i => (i.zero, i.size, i.bytes)) = some (some (.slice none 0 0), 1, 24) by kernel_rfl)
  have I1 := Lib.hid hi1
  have I2 := Lib.hid hy0
  have I3 := Lib.hid hy1
  have I4 := Lib.hid hy2
  clear hi1 hy0 hy1 hy2
  go_enter Tryz.func52, Tryz.ntmps52
  go_wp2
  go_loopw [3] (fun i wr => i = .int .i64 0 ∧ Go.RowKit.Below w.heap.size w wr) (fun i _ => 0)
  case atStart => exact ⟨rfl, Below.refl _ _⟩
  case round =>
    obtain ⟨rfl, hb⟩ := hrel
    go_wp2_with (at_make; refine wpList_make_full _ rfl _ _ 65 rfl 0 171 i1 (.slice none 0 0) 1 Tryz.underlying65 I1.out I2.out I3.out .i64 .i64 _ _ 0 rfl rfl rfl rfl (by rw [I4.out]; omega) (by unfold maxLen; omega) (Nat.zero_le _) ?_; intro w1 hgs hg1)
    have hb1 := below_more hb hg1 hb.size
    clear hgs hg1 hb
    generalize wr.heap.size = g0
    go_loopw [6] (fun i wr => i = .int .i64 0 ∧ Go.RowKit.Below w.heap.size w wr) (fun i _ => 0)
    case atStart => exact ⟨rfl, hb1⟩
    case round =>
      obtain ⟨rfl, hb⟩ := hrel
      clear hb1
      go_wp2
      go_loopw [9] (fun i wr => i = .int .i64 0 ∧ Go.RowKit.Below w.heap.size w wr) (fun i _ => 0)
      case atStart => exact ⟨rfl, hb⟩
      case round =>
        clear hb
        obtain ⟨rfl, hb⟩ := hrel
        go_wp2
        go_loopw [11] (fun i wr => i = .int .i64 0 ∧ Go.RowKit.Below w.heap.size w wr) (fun i _ => 0)
        case atStart => exact ⟨rfl, hb⟩
        case round =>
          clear hb
          obtain ⟨rfl, hb⟩ := hrel
          go_wp2
          go_loopw [14] (fun i wr => i = .int .i64 0 ∧ Go.RowKit.Below w.heap.size w wr) (fun i _ => 0)
          case atStart => exact ⟨rfl, hb⟩
          case round =>
            clear hb
            obtain ⟨rfl, hb⟩ := hrel
            go_wp2
            go_ret
            exact ⟨rfl, hb⟩

set_option maxRecDepth 100000 in
set_option maxHeartbeats 4000000 in
theorem flatn_Records (w : World) :
    Calls Tryz.prog 53 #[.slice none 0 0] w fun e w' => e = .returned (.bool true) ∧ Go.RowKit.Below w.heap.size w w' := by
  obtain ⟨i1, hi1, hy0, hy1, hy2⟩ := info_parts (show (Tryz.prog.info? 175).map (fun i => (i.zero, i.size, i.bytes)) = some (some (.slice none 0 0), 1, 24) by kernel_rfl)
  have I1 := Lib.hid hi1
  have I2 := Lib.hid hy0
  have I3 := Lib.hid hy1
  have I4 := Lib.hid hy2
  clear hi1 hy0 hy1 hy2
  go_enter Tryz.func53, Tryz.ntmps53
  go_wp2
  go_loopw [3] (fun i wr => i = .int .i64 0 ∧ Go.RowKit.Below w.heap.size w wr) (fun i _ => 0)
  case atStart => exact ⟨rfl, Below.refl _ _⟩
  case round =>
    obtain ⟨rfl, hb⟩ := hrel
    go_wp2_with (at_make; refine wpList_make_full _ rfl _ _ 66 rfl 0 175 i1 (.slice none 0 0) 1 Tryz.underlying66 I1.out I2.out I3.out .i64 .i64 _ _ 0 rfl rfl rfl rfl (by rw [I4.out]; omega) (by unfold maxLen; omega) (Nat.zero_le _) ?_; intro w1 hgs hg1)
    have hb1 := below_more hb hg1 hb.size
    clear hgs hg1 hb
    generalize wr.heap.size = g0
    go_loopw [6] (fun i wr => i = .int .i64 0 ∧ Go.RowKit.Below w.heap.size w wr) (fun i _ => 0)
    case atStart => exact ⟨rfl, hb1⟩
    case round =>
      obtain ⟨rfl, hb⟩ := hrel
      clear hb1
      go_wp2
      go_loopw [9] (fun i wr => i = .int .i64 0 ∧ Go.RowKit.Below w.heap.size w wr) (fun i _ => 0)
      case atStart => exact ⟨rfl, hb⟩
      case round =>
        clear hb
        obtain ⟨rfl, hb⟩ := hrel
        go_wp2
        go_loopw [11] (fun i wr => i = .int .i64 0 ∧ Go.RowKit.Below w.heap.size w wr) (fun i _ => 0)
        case atStart => exact ⟨rfl, hb⟩
        case round =>
          clear hb
          obtain ⟨rfl, hb⟩ := hrel
          go_wp2
          go_loopw [14] (fun i wr => i = .int .i64 0 ∧ Go.RowKit.Below w.heap.size w wr) (fun i _ => 0)
          case atStart => exact ⟨rfl, hb⟩
          case round =>
            clear hb
            obtain ⟨rfl, hb⟩ := hrel
            go_wp2
            go_ret
            exact ⟨rfl, hb⟩

set_option maxRecDepth 100000 in
set_option maxHeartbeats 4000000 in
theorem flatn_Steps (w : World) :
    Calls Tryz.prog 54 #[.slice none 0 0] w fun e w' => e = .returned (.bool true) ∧ Go.RowKit.Below w.heap.size w w' := by
  obtain ⟨i1, hi1, hy0, hy1, hy2⟩ := info_parts (show (Tryz.prog.info? 181).map (fun i => (i.zero, i.size, i.bytes)) = some (some (.slice none 0 0), 1, 24) by kernel_rfl)
  have I1 := Lib.hid hi1
  have I2 := Lib.hid hy0
  have I3 := Lib.hid hy1
  have I4 := Lib.hid hy2
  clear hi1 hy0 hy1 hy2
  go_enter Tryz.func54, Tryz.ntmps54
  go_wp2
  go_loopw [3] (fun i wr => i = .int .i64 0 ∧ Go.RowKit.Below w.heap.size w wr) (fun i _ => 0)
  case atStart => exact ⟨rfl, Below.refl _ _⟩
  case round =>
    obtain ⟨rfl, hb⟩ := hrel
    go_wp2_with (at_make; refine wpList_make_full _ rfl _ _ 67 rfl 0 181 i1 (.slice none 0 0) 1 Tryz.underlying67 I1.out I2.out I3.out .i64 .i64 _ _ 0 rfl rfl rfl rfl (by rw [I4.out]; omega) (by unfold maxLen; omega) (Nat.zero_le _) ?_; intro w1 hgs hg1)
    have hb1 := below_more hb hg1 hb.size
    clear hgs hg1 hb
    generalize wr.heap.size = g0
    go_loopw [6] (fun i wr => i = .int .i64 0 ∧ Go.RowKit.Below w.heap.size w wr) (fun i _ => 0)
    case atStart => exact ⟨rfl, hb1⟩
    case round =>
      obtain ⟨rfl, hb⟩ := hrel
      clear hb1
      go_wp2
      go_loopw [9] (fun i wr => i = .int .i64 0 ∧ Go.RowKit.Below w.heap.size w wr) (fun i _ => 0)
      case atStart => exact ⟨rfl, hb⟩
      case round =>
        clear hb
        obtain ⟨rfl, hb⟩ := hrel
        go_wp2
        go_loopw [11] (fun i wr => i = .int .i64 0 ∧ Go.RowKit.Below w.heap.size w wr) (fun i _ => 0)
        case atStart => exact ⟨rfl, hb⟩
        case round =>
          clear hb
          obtain ⟨rfl, hb⟩ := hrel
          go_wp2
          go_loopw [14] (fun i wr => i = .int .i64 0 ∧ Go.RowKit.Below w.heap.size w wr) (fun i _ => 0)
          case atStart => exact ⟨rfl, hb⟩
          case round =>
            clear hb
            obtain ⟨rfl, hb⟩ := hrel
            go_wp2
            go_ret
            exact ⟨rfl, hb⟩

set_option maxRecDepth 100000 in
set_option maxHeartbeats 4000000 in
theorem flatn_Tales (w : World) :
    Calls Tryz.prog 55 #[.slice none 0 0] w fun e w' => e = .returned (.bool true) ∧ Go.RowKit.Below w.heap.size w w' := by
  obtain ⟨i1, hi1, hy0, hy1, hy2⟩ := info_parts (show (Tryz.prog.info? 187).map (fun i => (i.zero, i.size, i.bytes)) = some (some (.slice none 0 0), 1, 24) by kernel_rfl)
  have I1 := Lib.hid hi1
  have I2 := Lib.hid hy0
  have I3 := Lib.hid hy1
  have I4 := Lib.hid hy2
  clear hi1 hy0 hy1 hy2
  go_enter Tryz.func55, Tryz.ntmps55
  go_wp2
  go_loopw [3] (fun i wr => i = .int .i64 0 ∧ Go.RowKit.Below w.heap.size w wr) (fun i _ => 0)
  case atStart => exact ⟨rfl, Below.refl _ _⟩
  case round =>
    obtain ⟨rfl, hb⟩ := hrel
    go_wp2_with (at_make; refine wpList_make_full _ rfl _ _ 68 rfl 0 187 i1 (.slice none 0 0) 1 Tryz.underlying68 I1.out I2.out I3.out .i64 .i64 _ _ 0 rfl rfl rfl rfl (by rw [I4.out]; omega) (by unfold maxLen; omega) (Nat.zero_le _) ?_; intro w1 hgs hg1)
    have hb1 := below_more hb hg1 hb.size
    clear hgs hg1 hb
    generalize wr.heap.size = g0
    go_loopw [6] (fun i wr => i = .int .i64 0 ∧ Go.RowKit.Below w.heap.size w wr) (fun i _ => 0)
    case atStart => exact ⟨rfl, hb1⟩
    case round =>
      obtain ⟨rfl, hb⟩ := hrel
      clear hb1
      go_wp2
      go_loopw [9] (fun i wr => i = .int .i64 0 ∧ Go.RowKit.Below w.heap.size w wr) (fun i _ => 0)
      case atStart => exact ⟨rfl, hb⟩
      case round =>
        clear hb
        obtain ⟨rfl, hb⟩ := hrel
        go_wp2
        go_loopw [11] (fun i wr => i = .int .i64 0 ∧ Go.RowKit.Below w.heap.size w wr) (fun i _ => 0)
        case atStart => exact ⟨rfl, hb⟩
        case round =>
          clear hb
          obtain ⟨rfl, hb⟩ := hrel
          go_wp2
          go_loopw [14] (fun i wr => i = .int .i64 0 ∧ Go.RowKit.Below w.heap.size w wr) (fun i _ => 0)
          case atStart => exact ⟨rfl, hb⟩
          case round =>
            clear hb
            obtain ⟨rfl, hb⟩ := hrel
            go_wp2
            go_ret
            exact ⟨rfl, hb⟩
end Go.Proofs.YtfppiigmibjbnaaGreat
