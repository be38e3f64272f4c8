/- storemankit.flat..: no list at all. -/
import Derived.Test.YtcdjefbeillfmaaGreatDoorBFlatH
namespace Go.Proofs.YtcdjefbeillfmaaGreatDoor
open Go.ChangeShapes Go.WideShapes Go.ChangeAt Go.RowKit Go.Sort
set_option linter.unusedVariables false

theorem below_more {B : Nat} {w w1 w2 : World} (h : Go.RowKit.Below B w w1) (hg : w1.grownBy w2 none) (hB : B ≤ w1.heap.size) : Go.RowKit.Below B w w2 := h.grown hg hB (fun j hj => by cases hj)

set_option maxRecDepth 100000 in
set_option maxHeartbeats 4000000 in
theorem flatn_Words (w : World) :
    Calls Tryz.prog 39 #[.slice none 0 0] w fun e w' => e = .returned (.bool true) ∧ Go.RowKit.Below w.heap.size w w' := by
  obtain ⟨i1, hi1, hy0, hy1, hy2⟩ := info_parts (show (Tryz.prog.info? 116).map (fun i => (i.zero, i.size, i.bytes)) = some (some (.slice none 0 0), 1, 24) by kernel_rfl)
  have I1 := Lib.hid hi1
  have I2 := Lib.hid hy0
  have I3 := Lib.hid hy1
  have I4 := Lib.hid hy2
  clear hi1 hy0 hy1 hy2
  go_enter Tryz.func39, Tryz.ntmps39
  go_wp2
  go_loopw [3] (fun i wr => i = .int .i64 0 ∧ Go.RowKit.Below w.heap.size w wr) (fun i _ => 0)
  case atStart => exact ⟨rfl, Below.refl _ _⟩
  case round =>
    obtain ⟨rfl, hb⟩ := hrel
    go_wp2_with (at_make; refine wpList_make_full _ rfl _ _ 42 rfl 0 116 i1 (.slice none 0 0) 1 Tryz.underlying42 I1.out I2.out I3.out .i64 .i64 _ _ 0 rfl rfl rfl rfl (by rw [I4.out]; omega) (by unfold maxLen; omega) (Nat.zero_le _) ?_; intro w1 hgs hg1)
    have hb1 := below_more hb hg1 hb.size
    clear hgs hg1 hb
    generalize wr.heap.size = g0
    go_loopw [6] (fun i wr => i = .int .i64 0 ∧ Go.RowKit.Below w.heap.size w wr) (fun i _ => 0)
    case atStart => exact ⟨rfl, hb1⟩
    case round =>
      obtain ⟨rfl, hb⟩ := hrel
      clear hb1
      go_wp2
      go_loopw [9] (fun i wr => i = .int .i64 0 ∧ Go.RowKit.Below w.heap.size w wr) (fun i _ => 0)
      case atStart => exact ⟨rfl, hb⟩
      case round =>
        clear hb
        obtain ⟨rfl, hb⟩ := hrel
        go_wp2
        go_loopw [11] (fun i wr => i = .int .i64 0 ∧ Go.RowKit.Below w.heap.size w wr) (fun i _ => 0)
        case atStart => exact ⟨rfl, hb⟩
        case round =>
          clear hb
          obtain ⟨rfl, hb⟩ := hrel
          go_wp2
          go_loopw [14] (fun i wr => i = .int .i64 0 ∧ Go.RowKit.Below w.heap.size w wr) (fun i _ => 0)
          case atStart => exact ⟨rfl, hb⟩
          case round =>
            clear hb
            obtain ⟨rfl, hb⟩ := hrel
            go_wp2
            go_ret
            exact ⟨rfl, hb⟩

set_option maxRecDepth 100000 in
set_option maxHeartbeats 4000000 in
theorem flatn_Ints (w : World) :
    Calls Tryz.prog 40 #[.slice none 0 0] w fun e w' => e = .returned (.bool true) ∧ Go.RowKit.Below w.heap.size w w' := by
  obtain ⟨i1, hi1, hy0, hy1, hy2⟩ := info_parts (show (Tryz.prog.info? 117).map (fun i => (i.zero, i.size, i.bytes)) = some (some (.slice none 0 0), 1, 24) by kernel_rfl)
  have I1 := Lib.hid hi1
  have I2 := Lib.hid hy0
  have I3 := Lib.hid hy1
  have I4 := Lib.hid hy2
  clear hi1 hy0 hy1 hy2
  go_enter Tryz.func40, Tryz.ntmps40
  go_wp2
  go_loopw [3] (fun i wr => i = .int .i64 0 ∧ Go.RowKit.Below w.heap.size w wr) (fun i _ => 0)
  case atStart => exact ⟨rfl, Below.refl _ _⟩
  case round =>
    obtain ⟨rfl, hb⟩ := hrel
    go_wp2_with (at_make; refine wpList_make_full _ rfl _ _ 43 rfl 0 117 i1 (.slice none 0 0) 1 Tryz.underlying43 I1.out I2.out I3.out .i64 .i64 _ _ 0 rfl rfl rfl rfl (by rw [I4.out]; omega) (by unfold maxLen; omega) (Nat.zero_le _) ?_; intro w1 hgs hg1)
    have hb1 := below_more hb hg1 hb.size
    clear hgs hg1 hb
    generalize wr.heap.size = g0
    go_loopw [6] (fun i wr => i = .int .i64 0 ∧ Go.RowKit.Below w.heap.size w wr) (fun i _ => 0)
    case atStart => exact ⟨rfl, hb1⟩
    case round =>
      obtain ⟨rfl, hb⟩ := hrel
      clear hb1
      go_wp2
      go_loopw [9] (fun i wr => i = .int .i64 0 ∧ Go.RowKit.Below w.heap.size w wr) (fun i _ => 0)
      case atStart => exact ⟨rfl, hb⟩
      case round =>
        clear hb
        obtain ⟨rfl, hb⟩ := hrel
        go_wp2
        go_loopw [11] (fun i wr => i = .int .i64 0 ∧ Go.RowKit.Below w.heap.size w wr) (fun i _ => 0)
        case atStart => exact ⟨rfl, hb⟩
        case round =>
          clear hb
          obtain ⟨rfl, hb⟩ := hrel
          go_wp2
          go_loopw [14] (fun i wr => i = .int .i64 0 ∧ Go.RowKit.Below w.heap.size w wr) (fun i _ => 0)
          case atStart => exact ⟨rfl, hb⟩
          case round =>
            clear hb
            obtain ⟨rfl, hb⟩ := hrel
            go_wp2
            go_ret
            exact ⟨rfl, hb⟩

set_option maxRecDepth 100000 in
set_option maxHeartbeats 4000000 in
theorem flatn_Longs (w : World) :
    Calls Tryz.prog 41 #[.slice none 0 0] w fun e w' => e = .returned (.bool true) ∧ Go.RowKit.Below w.heap.size w w' := by
  obtain ⟨i1, hi1, hy0, hy1, hy2⟩ := info_parts (show (Tryz.prog.info? 35).map (fun i => (i.zero, i.size, i.bytes)) = some (some (.slice none 0 0), 1, 24) by kernel_rfl)
  have I1 := Lib.hid hi1
  have I2 := Lib.hid hy0
  have I3 := Lib.hid hy1
  have I4 := Lib.hid hy2
  clear hi1 hy0 hy1 hy2
  go_enter Tryz.func41, Tryz.ntmps41
  go_wp2
  go_loopw [3] (fun i wr => i = .int .i64 0 ∧ Go.RowKit.Below w.heap.size w wr) (fun i _ => 0)
  case atStart => exact ⟨rfl, Below.refl _ _⟩
  case round =>
    obtain ⟨rfl, hb⟩ := hrel
    go_wp2_with (at_make; refine wpList_make_full _ rfl _ _ 44 rfl 0 35 i1 (.slice none 0 0) 1 Tryz.underlying44 I1.out I2.out I3.out .i64 .i64 _ _ 0 rfl rfl rfl rfl (by rw [I4.out]; omega) (by unfold maxLen; omega) (Nat.zero_le _) ?_; intro w1 hgs hg1)
    have hb1 := below_more hb hg1 hb.size
    clear hgs hg1 hb
    generalize wr.heap.size = g0
    go_loopw [6] (fun i wr => i = .int .i64 0 ∧ Go.RowKit.Below w.heap.size w wr) (fun i _ => 0)
    case atStart => exact ⟨rfl, hb1⟩
    case round =>
      obtain ⟨rfl, hb⟩ := hrel
      clear hb1
      go_wp2
      go_loopw [9] (fun i wr => i = .int .i64 0 ∧ Go.RowKit.Below w.heap.size w wr) (fun i _ => 0)
      case atStart => exact ⟨rfl, hb⟩
      case round =>
        clear hb
        obtain ⟨rfl, hb⟩ := hrel
        go_wp2
        go_loopw [11] (fun i wr => i = .int .i64 0 ∧ Go.RowKit.Below w.heap.size w wr) (fun i _ => 0)
        case atStart => exact ⟨rfl, hb⟩
        case round =>
          clear hb
          obtain ⟨rfl, hb⟩ := hrel
          go_wp2
          go_loopw [14] (fun i wr => i = .int .i64 0 ∧ Go.RowKit.Below w.heap.size w wr) (fun i _ => 0)
          case atStart => exact ⟨rfl, hb⟩
          case round =>
            clear hb
            obtain ⟨rfl, hb⟩ := hrel
            go_wp2
            go_ret
            exact ⟨rfl, hb⟩

set_option maxRecDepth 100000 in
set_option maxHeartbeats 4000000 in
theorem flatn_Texts (w : World) :
    Calls Tryz.prog 42 #[.slice none 0 0] w fun e w' => e = .returned (.bool true) ∧ Go.RowKit.Below w.heap.size w w' := by
  obtain ⟨i1, hi1, hy0, hy1, hy2⟩ := info_parts (show (Tryz.prog.info? 39).map (fun i => (i.zero, i.size, i.bytes)) = some (some (.slice none 0 0), 1, 24) by kernel_rfl)
  have I1 := Lib.hid hi1
  have I2 := Lib.hid hy0
  have I3 := Lib.hid hy1
  have I4 := Lib.hid hy2
  clear hi1 hy0 hy1 hy2
  go_enter Tryz.func42, Tryz.ntmps42
  go_wp2
  go_loopw [3] (fun i wr => i = .int .i64 0 ∧ Go.RowKit.Below w.heap.size w wr) (fun i _ => 0)
  case atStart => exact ⟨rfl, Below.refl _ _⟩
  case round =>
    obtain ⟨rfl, hb⟩ := hrel
    go_wp2_with (at_make; refine wpList_make_full _ rfl _ _ 45 rfl 0 39 i1 (.slice none 0 0) 1 Tryz.underlying45 I1.out I2.out I3.out .i64 .i64 _ _ 0 rfl rfl rfl rfl (by rw [I4.out]; omega) (by unfold maxLen; omega) (Nat.zero_le _) ?_; intro w1 hgs hg1)
    have hb1 := below_more hb hg1 hb.size
    clear hgs hg1 hb
    generalize wr.heap.size = g0
    go_loopw [6] (fun i wr => i = .int .i64 0 ∧ Go.RowKit.Below w.heap.size w wr) (fun i _ => 0)
    case atStart => exact ⟨rfl, hb1⟩
    case round =>
      obtain ⟨rfl, hb⟩ := hrel
      clear hb1
      go_wp2
      go_loopw [9] (fun i wr => i = .int .i64 0 ∧ Go.RowKit.Below w.heap.size w wr) (fun i _ => 0)
      case atStart => exact ⟨rfl, hb⟩
      case round =>
        clear hb
        obtain ⟨rfl, hb⟩ := hrel
        go_wp2
        go_loopw [11] (fun i wr => i = .int .i64 0 ∧ Go.RowKit.Below w.heap.size w wr) (fun i _ => 0)
        case atStart => exact ⟨rfl, hb⟩
        case round =>
          clear hb
          obtain ⟨rfl, hb⟩ := hrel
          go_wp2
          go_loopw [14] (fun i wr => i = .int .i64 0 ∧ Go.RowKit.Below w.heap.size w wr) (fun i _ => 0)
          case atStart => exact ⟨rfl, hb⟩
          case round =>
            clear hb
            obtain ⟨rfl, hb⟩ := hrel
            go_wp2
            go_ret
            exact ⟨rfl, hb⟩

set_option maxRecDepth 100000 in
set_option maxHeartbeats 4000000 in
theorem flatn_Windows (w : World) :
    Calls Tryz.prog 44 #[.slice none 0 0] w fun e w' => e = .returned (.bool true) ∧ Go.RowKit.Below w.heap.size w w' := by
  obtain ⟨i1, hi1, hy0, hy1, hy2⟩ := info_parts (show (Tryz.prog.info? 119).map (fun i => (i.zero, i.size, i.bytes)) = some (some (.slice none 0 0), 1, 24) by kernel_rfl)
  have I1 := Lib.hid hi1
  have I2 := Lib.hid hy0
  have I3 := Lib.hid hy1
  have I4 := Lib.hid hy2
  clear hi1 hy0 hy1 hy2
  go_enter Tryz.func44, Tryz.ntmps44
  go_wp2
  go_loopw [3] (fun i wr => i = .int .i64 0 ∧ Go.RowKit.Below w.heap.size w wr) (fun i _ => 0)
  case atStart => exact ⟨rfl, Below.refl _ _⟩
  case round =>
    obtain ⟨rfl, hb⟩ := hrel
    go_wp2_with (at_make; refine wpList_make_full _ rfl _ _ 46 rfl 0 119 i1 (.slice none 0 0) 1 Tryz.underlying46 I1.out I2.out I3.out .i64 .i64 _ _ 0 rfl rfl rfl rfl (by rw [I4.out]; omega) (by unfold maxLen; omega) (Nat.zero_le _) ?_; intro w1 hgs hg1)
    have hb1 := below_more hb hg1 hb.size
    clear hgs hg1 hb
    generalize wr.heap.size = g0
    go_loopw [6] (fun i wr => i = .int .i64 0 ∧ Go.RowKit.Below w.heap.size w wr) (fun i _ => 0)
    case atStart => exact ⟨rfl, hb1⟩
    case round =>
      obtain ⟨rfl, hb⟩ := hrel
      clear hb1
      go_wp2
      go_loopw [9] (fun i wr => i = .int .i64 0 ∧ Go.RowKit.Below w.heap.size w wr) (fun i _ => 0)
      case atStart => exact ⟨rfl, hb⟩
      case round =>
        clear hb
        obtain ⟨rfl, hb⟩ := hrel
        go_wp2
        go_loopw [11] (fun i wr => i = .int .i64 0 ∧ Go.RowKit.Below w.heap.size w wr) (fun i _ => 0)
        case atStart => exact ⟨rfl, hb⟩
        case round =>
          clear hb
          obtain ⟨rfl, hb⟩ := hrel
          go_wp2
          go_loopw [14] (fun i wr => i = .int .i64 0 ∧ Go.RowKit.Below w.heap.size w wr) (fun i _ => 0)
          case atStart => exact ⟨rfl, hb⟩
          case round =>
            clear hb
            obtain ⟨rfl, hb⟩ := hrel
            go_wp2
            go_ret
            exact ⟨rfl, hb⟩

set_option maxRecDepth 100000 in
set_option maxHeartbeats 4000000 in
theorem flatn_Lots (w : World) :
    Calls Tryz.prog 45 #[.slice none 0 0] w fun e w' => e = .returned (.bool true) ∧ Go.RowKit.Below w.heap.size w w' := by
  obtain ⟨i1, hi1, hy0, hy1, hy2⟩ := info_parts (show (Tryz.prog.info? 123).map (fun i => (i.zero, i.size, i.bytes)) = some (some (.slice none 0 0), 1, 24) by kernel_rfl)
  have I1 := Lib.hid hi1
  have I2 := Lib.hid hy0
  have I3 := Lib.hid hy1
  have I4 := Lib.hid hy2
  clear hi1 hy0 hy1 hy2
  go_enter Tryz.func45, Tryz.ntmps45
  go_wp2
  go_loopw [3] (fun i wr => i = .int .i64 0 ∧ Go.RowKit.Below w.heap.size w wr) (fun i _ => 0)
  case atStart => exact ⟨rfl, Below.refl _ _⟩
  case round =>
    obtain ⟨rfl, hb⟩ := hrel
    go_wp2_with (at_make; refine wpList_make_full _ rfl _ _ 47 rfl 0 123 i1 (.slice none 0 0) 1 Tryz.underlying47 I1.out I2.out I3.out .i64 .i64 _ _ 0 rfl rfl rfl rfl (by rw [I4.out]; omega) (by unfold maxLen; omega) (Nat.zero_le _) ?_; intro w1 hgs hg1)
    have hb1 := below_more hb hg1 hb.size
    clear hgs hg1 hb
    generalize wr.heap.size = g0
    go_loopw [6] (fun i wr => i = .int .i64 0 ∧ Go.RowKit.Below w.heap.size w wr) (fun i _ => 0)
    case atStart => exact ⟨rfl, hb1⟩
    case round =>
      obtain ⟨rfl, hb⟩ := hrel
      clear hb1
      go_wp2
      go_loopw [9] (fun i wr => i = .int .i64 0 ∧ Go.RowKit.Below w.heap.size w wr) (fun i _ => 0)
      case atStart => exact ⟨rfl, hb⟩
      case round =>
        clear hb
        obtain ⟨rfl, hb⟩ := hrel
        go_wp2
        go_loopw [11] (fun i wr => i = .int .i64 0 ∧ Go.RowKit.Below w.heap.size w wr) (fun i _ => 0)
        case atStart => exact ⟨rfl, hb⟩
        case round =>
          clear hb
          obtain ⟨rfl, hb⟩ := hrel
          go_wp2
          go_loopw [14] (fun i wr => i = .int .i64 0 ∧ Go.RowKit.Below w.heap.size w wr) (fun i _ => 0)
          case atStart => exact ⟨rfl, hb⟩
          case round =>
            clear hb
            obtain ⟨rfl, hb⟩ := hrel
            go_wp2
            go_ret
            exact ⟨rfl, hb⟩

set_option maxRecDepth 100000 in
set_option maxHeartbeats 4000000 in
theorem flatn_Wants (w : World) :
    Calls Tryz.prog 46 #[.slice none 0 0] w fun e w' => e = .returned (.bool true) ∧ Go.RowKit.Below w.heap.size w w' := by
  obtain ⟨i1, hi1, hy0, hy1, hy2⟩ := info_parts (show (Tryz.prog.info? 127).map (fun i => (i.zero, i.size, i.bytes)) = some (some (.slice none 0 0), 1, 24) by kernel_rfl)
  have I1 := Lib.hid hi1
  have I2 := Lib.hid hy0
  have I3 := Lib.hid hy1
  have I4 := Lib.hid hy2
  clear hi1 hy0 hy1 hy2
  go_enter Tryz.func46, Tryz.ntmps46
  go_wp2
  go_loopw [3] (fun i wr => i = .int .i64 0 ∧ Go.RowKit.Below w.heap.size w wr) (fun i _ => 0)
  case atStart => exact ⟨rfl, Below.refl _ _⟩
  case round =>
    obtain ⟨rfl, hb⟩ := hrel
    go_wp2_with (at_make; refine wpList_make_full _ rfl _ _ 48 rfl 0 127 i1 (.slice none 0 0) 1 Tryz.underlying48 I1.out I2.out I3.out .i64 .i64 _ _ 0 rfl rfl rfl rfl (by rw [I4.out]; omega) (by unfold maxLen; omega) (Nat.zero_le _) ?_; intro w1 hgs hg1)
    have hb1 := below_more hb hg1 hb.size
    clear hgs hg1 hb
    generalize wr.heap.size = g0
    go_loopw [6] (fun i wr => i = .int .i64 0 ∧ Go.RowKit.Below w.heap.size w wr) (fun i _ => 0)
    case atStart => exact ⟨rfl, hb1⟩
    case round =>
      obtain ⟨rfl, hb⟩ := hrel
      clear hb1
      go_wp2
      go_loopw [9] (fun i wr => i = .int .i64 0 ∧ Go.RowKit.Below w.heap.size w wr) (fun i _ => 0)
      case atStart => exact ⟨rfl, hb⟩
      case round =>
        clear hb
        obtain ⟨rfl, hb⟩ := hrel
        go_wp2
        go_loopw [11] (fun i wr => i = .int .i64 0 ∧ Go.RowKit.Below w.heap.size w wr) (fun i _ => 0)
        case atStart => exact ⟨rfl, hb⟩
        case round =>
          clear hb
          obtain ⟨rfl, hb⟩ := hrel
          go_wp2
          go_loopw [14] (fun i wr => i = .int .i64 0 ∧ Go.RowKit.Below w.heap.size w wr) (fun i _ => 0)
          case atStart => exact ⟨rfl, hb⟩
          case round =>
            clear hb
            obtain ⟨rfl, hb⟩ := hrel
            go_wp2
            go_ret
            exact ⟨rfl, hb⟩

set_option maxRecDepth 100000 in
set_option maxHeartbeats 4000000 in
theorem flatn_Uses (w : World) :
    Calls Tryz.prog 47 #[.slice none 0 0] w fun e w' => e = .returned (.bool true) ∧ Go.RowKit.Below w.heap.size w w' := by
  obtain ⟨i1, hi1, hy0, hy1, hy2⟩ := info_parts (show (Tryz.prog.info? 131).map (fun i => (i.zero, i.size, i.bytes)) = some (some (.slice none 0 0), 1, 24) by kernel_rfl)
  have I1 := Lib.hid hi1
  have I2 := Lib.hid hy0
  have I3 := Lib.hid hy1
  have I4 := Lib.hid hy2
  clear hi1 hy0 hy1 hy2
  go_enter Tryz.func47, Tryz.ntmps47
  go_wp2
  go_loopw [3] (fun i wr => i = .int .i64 0 ∧ Go.RowKit.Below w.heap.size w wr) (fun i _ => 0)
  case atStart => exact ⟨rfl, Below.refl _ _⟩
  case round =>
    obtain ⟨rfl, hb⟩ := hrel
    go_wp2_with (at_make; refine wpList_make_full _ rfl _ _ 49 rfl 0 131 i1 (.slice none 0 0) 1 Tryz.underlying49 I1.out I2.out I3.out .i64 .i64 _ _ 0 rfl rfl rfl rfl (by rw [I4.out]; omega) (by unfold maxLen; omega) (Nat.zero_le _) ?_; intro w1 hgs hg1)
    have hb1 := below_more hb hg1 hb.size
    clear hgs hg1 hb
    generalize wr.heap.size = g0
    go_loopw [6] (fun i wr => i = .int .i64 0 ∧ Go.RowKit.Below w.heap.size w wr) (fun i _ => 0)
    case atStart => exact ⟨rfl, hb1⟩
    case round =>
      obtain ⟨rfl, hb⟩ := hrel
      clear hb1
      go_wp2
      go_loopw [9] (fun i wr => i = .int .i64 0 ∧ Go.RowKit.Below w.heap.size w wr) (fun i _ => 0)
      case atStart => exact ⟨rfl, hb⟩
      case round =>
        clear hb
        obtain ⟨rfl, hb⟩ := hrel
        go_wp2
        go_loopw [11] (fun i wr => i = .int .i64 0 ∧ Go.RowKit.Below w.heap.size w wr) (fun i _ => 0)
        case atStart => exact ⟨rfl, hb⟩
        case round =>
          clear hb
          obtain ⟨rfl, hb⟩ := hrel
          go_wp2
          go_loopw [14] (fun i wr => i = .int .i64 0 ∧ Go.RowKit.Below w.heap.size w wr) (fun i _ => 0)
          case atStart => exact ⟨rfl, hb⟩
          case round =>
            clear hb
            obtain ⟨rfl, hb⟩ := hrel
            go_wp2
            go_ret
            exact ⟨rfl, hb⟩

set_option maxRecDepth 100000 in
set_option maxHeartbeats 4000000 in
theorem flatn_Parts (w : World) :
    Calls Tryz.prog 48 #[.slice none 0 0] w fun e w' => e = .returned (.bool true) ∧ Go.RowKit.Below w.heap.size w w' := by
  obtain ⟨i1, hi1, hy0, hy1, hy2⟩ := info_parts (show (Tryz.prog.info? 135).map (fun i => (i.zero, i.size, i.bytes)) = some (some (.slice none 0 0), 1, 24) by kernel_rfl)
  have I1 := Lib.hid hi1
  have I2 := Lib.hid hy0
  have I3 := Lib.hid hy1
  have I4 := Lib.hid hy2
  clear hi1 hy0 hy1 hy2
  go_enter Tryz.func48, Tryz.ntmps48
  go_wp2
  go_loopw [3] (fun i wr => i = .int .i64 0 ∧ Go.RowKit.Below w.heap.size w wr) (fun i _ => 0)
  case atStart => exact ⟨rfl, Below.refl _ _⟩
  case round =>
    obtain ⟨rfl, hb⟩ := hrel
    go_wp2_with (at_make; refine wpList_make_full _ rfl _ _ 50 rfl 0 135 i1 (.slice none 0 0) 1 Tryz.underlying50 I1.out I2.out I3.out .i64 .i64 _ _ 0 rfl rfl rfl rfl (by rw [I4.out]; omega) (by unfold maxLen; omega) (Nat.zero_le _) ?_; intro w1 hgs hg1)
    have hb1 := below_more hb hg1 hb.size
    clear hgs hg1 hb
    generalize wr.heap.size = g0
    go_loopw [6] (fun i wr => i = .int .i64 0 ∧ Go.RowKit.Below w.heap.size w wr) (fun i _ => 0)
    case atStart => exact ⟨rfl, hb1⟩
    case round =>
      obtain ⟨rfl, hb⟩ := hrel
      clear hb1
      go_wp2
      go_loopw [9] (fun i wr => i = .int .i64 0 ∧ Go.RowKit.Below w.heap.size w wr) (fun i _ => 0)
      case atStart => exact ⟨rfl, hb⟩
      case round =>
        clear hb
        obtain ⟨rfl, hb⟩ := hrel
        go_wp2
        go_loopw [11] (fun i wr => i = .int .i64 0 ∧ Go.RowKit.Below w.heap.size w wr) (fun i _ => 0)
        case atStart => exact ⟨rfl, hb⟩
        case round =>
          clear hb
          obtain ⟨rfl, hb⟩ := hrel
          go_wp2
          go_loopw [14] (fun i wr => i = .int .i64 0 ∧ Go.RowKit.Below w.heap.size w wr) (fun i _ => 0)
          case atStart => exact ⟨rfl, hb⟩
          case round =>
            clear hb
            obtain ⟨rfl, hb⟩ := hrel
            go_wp2
            go_ret
            exact ⟨rfl, hb⟩

set_option maxRecDepth 100000 in
set_option maxHeartbeats 4000000 in
theorem flatn_Items (w : World) :
    Calls Tryz.prog 49 #[.slice none 0 0] w fun e w' => e = .returned (.bool true) ∧ Go.RowKit.Below w.heap.size w w' := by
  obtain ⟨i1, hi1, hy0, hy1, hy2⟩ := info_parts (show (Tryz.prog.info? 139).map (fun i => (i.zero, i.size, i.bytes)) = some (some (.slice none 0 0), 1, 24) by kernel_rfl)
  have I1 := Lib.hid hi1
  have I2 := Lib.hid hy0
  have I3 := Lib.hid hy1
  have I4 := Lib.hid hy2
  clear hi1 hy0 hy1 hy2
  go_enter Tryz.func49, Tryz.ntmps49
  go_wp2
  go_loopw [3] (fun i wr => i = .int .i64 0 ∧ Go.RowKit.Below w.heap.size w wr) (fun i _ => 0)
  case atStart => exact ⟨rfl, Below.refl _ _⟩
  case round =>
    obtain ⟨rfl, hb⟩ := hrel
    go_wp2_with (at_make; refine wpList_make_full _ rfl _ _ 51 rfl 0 139 i1 (.slice none 0 0) 1 Tryz.underlying51 I1.out I2.out I3.out .i64 .i64 _ _ 0 rfl rfl rfl rfl (by rw [I4.out]; omega) (by unfold maxLen; omega) (Nat.zero_le _) ?_; intro w1 hgs hg1)
    have hb1 := below_more hb hg1 hb.size
    clear hgs hg1 hb
    generalize wr.heap.size = g0
    go_loopw [6] (fun i wr => i = .int .i64 0 ∧ Go.RowKit.Below w.heap.size w wr) (fun i _ => 0)
    case atStart => exact ⟨rfl, hb1⟩
    case round =>
      obtain ⟨rfl, hb⟩ := hrel
      clear hb1
      go_wp2
      go_loopw [9] (fun i wr => i = .int .i64 0 ∧ Go.RowKit.Below w.heap.size w wr) (fun i _ => 0)
      case atStart => exact ⟨rfl, hb⟩
      case round =>
        clear hb
        obtain ⟨rfl, hb⟩ := hrel
        go_wp2
        go_loopw [11] (fun i wr => i = .int .i64 0 ∧ Go.RowKit.Below w.heap.size w wr) (fun i _ => 0)
        case atStart => exact ⟨rfl, hb⟩
        case round =>
          clear hb
          obtain ⟨rfl, hb⟩ := hrel
          go_wp2
          go_loopw [14] (fun i wr => i = .int .i64 0 ∧ Go.RowKit.Below w.heap.size w wr) (fun i _ => 0)
          case atStart => exact ⟨rfl, hb⟩
          case round =>
            clear hb
            obtain ⟨rfl, hb⟩ := hrel
            go_wp2
            go_ret
            exact ⟨rfl, hb⟩

set_option maxRecDepth 100000 in
set_option maxHeartbeats 4000000 in
theorem flatn_Lines (w : World) :
    Calls Tryz.prog 50 #[.slice none 0 0] w fun e w' => e = .returned (.bool true) ∧ Go.RowKit.Below w.heap.size w w' := by
  obtain ⟨i1, hi1, hy0, hy1, hy2⟩ := info_parts (show (Tryz.prog.info? 144).map (fun i => (i.zero, i.size, i.bytes)) = some (some (.slice none 0 0), 1, 24) by kernel_rfl)
  have I1 := Lib.hid hi1
  have I2 := Lib.hid hy0
  have I3 := Lib.hid hy1
  have I4 := Lib.hid hy2
  clear hi1 hy0 hy1 hy2
  go_enter Tryz.func50, Tryz.ntmps50
  go_wp2
  go_loopw [3] (fun i wr => i = .int .i64 0 ∧ Go.RowKit.Below w.heap.size w wr) (fun i _ => 0)
  case atStart => exact ⟨rfl, Below.refl _ _⟩
  case round =>
    obtain ⟨rfl, hb⟩ := hrel
    go_wp2_with (at_make; refine wpList_make_full _ rfl _ _ 52 rfl 0 144 i1 (.slice none 0 0) 1 Tryz.underlying52 I1.out I2.out I3.out .i64 .i64 _ _ 0 rfl rfl rfl rfl (by rw [I4.out]; omega) (by unfold maxLen; omega) (Nat.zero_le _) ?_; intro w1 hgs hg1)
    have hb1 := below_more hb hg1 hb.size
    clear hgs hg1 hb
    generalize wr.heap.size = g0
    go_loopw [6] (fun i wr => i = .int .i64 0 ∧ Go.RowKit.Below w.heap.size w wr) (fun i _ => 0)
    case atStart => exact ⟨rfl, hb1⟩
    case round =>
      obtain ⟨rfl, hb⟩ := hrel
      clear hb1
      go_wp2
      go_loopw [9] (fun i wr => i = .int .i64 0 ∧ Go.RowKit.Below w.heap.size w wr) (fun i _ => 0)
      case atStart => exact ⟨rfl, hb⟩
      case round =>
        clear hb
        obtain ⟨rfl, hb⟩ := hrel
        go_wp2
        go_loopw [11] (fun i wr => i = .int .i64 0 ∧ Go.RowKit.Below w.heap.size w wr) (fun i _ => 0)
        case atStart => exact ⟨rfl, hb⟩
        case round =>
          clear hb
          obtain ⟨rfl, hb⟩ := hrel
          go_wp2
          go_loopw [14] (fun i wr => i = .int .i64 0 ∧ Go.RowKit.Below w.heap.size w wr) (fun i _ => 0)
          case atStart => exact ⟨rfl, hb⟩
          case round =>
            clear hb
            obtain ⟨rfl, hb⟩ := hrel
            go_wp2
            go_ret
            exact ⟨rfl, hb⟩

set_option maxRecDepth 100000 in
set_option maxHeartbeats 4000000 in
theorem flatn_Asks (w : World) :
    Calls Tryz.prog 51 #[.slice none 0 0] w fun e w' => e = .returned (.bool true) ∧ Go.RowKit.Below w.heap.size w w' := by
  obtain ⟨i1, hi1, hy0, hy1, hy2⟩ := info_parts (show (Tryz.prog.info? 149).map (fun i => (i.zero, i.size, i.bytes)) = some (some (.slice none 0 0), 1, 24) by kernel_rfl)
  have I1 := Lib.hid hi1
  have I2 := Lib.hid hy0
  have I3 := Lib.hid hy1
  have I4 := Lib.hid hy2
  clear hi1 hy0 hy1 hy2
  go_enter Tryz.func51, Tryz.ntmps51
  go_wp2
  go_loopw [3] (fun i wr => i = .int .i64 0 ∧ Go.RowKit.Below w.heap.size w wr) (fun i _ => 0)
  case atStart => exact ⟨rfl, Below.refl _ _⟩
  case round =>
    obtain ⟨rfl, hb⟩ := hrel
    go_wp2_with (at_make; refine wpList_make_full _ rfl _ _ 53 rfl 0 149 i1 (.slice none 0 0) 1 Tryz.underlying53 I1.out I2.out I3.out .i64 .i64 _ _ 0 rfl rfl rfl rfl (by rw [I4.out]; omega) (by unfold maxLen; omega) (Nat.zero_le _) ?_; intro w1 hgs hg1)
    have hb1 := below_more hb hg1 hb.size
    clear hgs hg1 hb
    generalize wr.heap.size = g0
    go_loopw [6] (fun i wr => i = .int .i64 0 ∧ Go.RowKit.Below w.heap.size w wr) (fun i _ => 0)
    case atStart => exact ⟨rfl, hb1⟩
    case round =>
      obtain ⟨rfl, hb⟩ := hrel
      clear hb1
      go_wp2
      go_loopw [9] (fun i wr => i = .int .i64 0 ∧ Go.RowKit.Below w.heap.size w wr) (fun i _ => 0)
      case atStart => exact ⟨rfl, hb⟩
      case round =>
        clear hb
        obtain ⟨rfl, hb⟩ := hrel
        go_wp2
        go_loopw [11] (fun i wr => i = .int .i64 0 ∧ Go.RowKit.Below w.heap.size w wr) (fun i _ => 0)
        case atStart => exact ⟨rfl, hb⟩
        case round =>
          clear hb
          obtain ⟨rfl, hb⟩ := hrel
          go_wp2
          go_loopw [14] (fun i wr => i = .int .i64 0 ∧ Go.RowKit.Below w.heap.size w wr) (fun i _ => 0)
          case atStart => exact ⟨rfl, hb⟩
          case round =>
            clear hb
            obtain ⟨rfl, hb⟩ := hrel
            go_wp2
            go_ret
            exact ⟨rfl, hb⟩

set_option maxRecDepth 100000 in
set_option maxHeartbeats 4000000 in
theorem flatn_Tells (w : World) :
    Calls Tryz.prog 52 #[.slice none 0 0] w fun e w' => e = .returned (.bool true) ∧ Go.RowKit.Below w.heap.size w w' := by
  obtain ⟨i1, hi1, hy0, hy1, hy2⟩ := info_parts (show (Tryz.prog.info? 155).map (fun i => (i.zero, i.size, i.bytes)) = some (some (.slice none 0 0), 1, 24) by kernel_rfl)
  have I1 := Lib.hid hi1
  have I2 := Lib.hid hy0
  have I3 := Lib.hid hy1
  have I4 := Lib.hid hy2
  clear hi1 hy0 hy1 hy2
  go_enter Tryz.func52, Tryz.ntmps52
  go_wp2
  go_loopw [3] (fun i wr => i = .int .i64 0 ∧ Go.RowKit.Below w.heap.size w wr) (fun i _ => 0)
  case atStart => exact ⟨rfl, Below.refl _ _⟩
  case round =>
    obtain ⟨rfl, hb⟩ := hrel
    go_wp2_with (at_make; refine wpList_make_full _ rfl _ _ 54 rfl 0 155 i1 (.slice none 0 0) 1 Tryz.underlying54 I1.out I2.out I3.out .i64 .i64 _ _ 0 rfl rfl rfl rfl (by rw [I4.out]; omega) (by unfold maxLen; omega) (Nat.zero_le _) ?_; intro w1 hgs hg1)
    have hb1 := below_more hb hg1 hb.size
    clear hgs hg1 hb
    generalize wr.heap.size = g0
    go_loopw [6] (fun i wr => i = .int .i64 0 ∧ Go.RowKit.Below w.heap.size w wr) (fun i _ => 0)
    case atStart => exact ⟨rfl, hb1⟩
    case round =>
      obtain ⟨rfl, hb⟩ := hrel
      clear hb1
      go_wp2
      go_loopw [9] (fun i wr => i = .int .i64 0 ∧ Go.RowKit.Below w.heap.size w wr) (fun i _ => 0)
      case atStart => exact ⟨rfl, hb⟩
      case round =>
        clear hb
        obtain ⟨rfl, hb⟩ := hrel
        go_wp2
        go_loopw [11] (fun i wr => i = .int .i64 0 ∧ Go.RowKit.Below w.heap.size w wr) (fun i _ => 0)
        case atStart => exact ⟨rfl, hb⟩
        case round =>
          clear hb
          obtain ⟨rfl, hb⟩ := hrel
          go_wp2
          go_loopw [14] (fun i wr => i = .int .i64 0 ∧ Go.RowKit.Below w.heap.size w wr) (fun i _ => 0)
          case atStart => exact ⟨rfl, hb⟩
          case round =>
            clear hb
            obtain ⟨rfl, hb⟩ := hrel
            go_wp2
            go_ret
            exact ⟨rfl, hb⟩

set_option maxRecDepth 100000 in
set_option maxHeartbeats 4000000 in
theorem flatn_States (w : World) :
    Calls Tryz.prog 53 #[.slice none 0 0] w fun e w' => e = .returned (.bool true) ∧ Go.RowKit.Below w.heap.size w w' := by
  obtain ⟨i1, hi1, hy0, hy1, hy2⟩ := info_parts (show (Tryz.prog.info? 161).map (fun i => (i.zero, i.size, i.bytes)) = some (some (.slice none 0 0), 1, 24) by kernel_rfl)
  have I1 := Lib.hid hi1
  have I2 := Lib.hid hy0
  have I3 := Lib.hid hy1
  have I4 := Lib.hid hy2
  clear hi1 hy0 hy1 hy2
  go_enter Tryz.func53, Tryz.ntmps53
  go_wp2
  go_loopw [3] (fun i wr => i = .int .i64 0 ∧ Go.RowKit.Below w.heap.size w wr) (fun i _ => 0)
  case atStart => exact ⟨rfl, Below.refl _ _⟩
  case round =>
    obtain ⟨rfl, hb⟩ := hrel
    go_wp2_with (at_make; refine wpList_make_full _ rfl _ _ 55 rfl 0 161 i1 (.slice none 0 0) 1 Tryz.underlying55 I1.out I2.out I3.out .i64 .i64 _ _ 0 rfl rfl rfl rfl (by rw [I4.out]; omega) (by unfold maxLen; omega) (Nat.zero_le _) ?_; intro w1 hgs hg1)
    have hb1 := below_more hb hg1 hb.size
    clear hgs hg1 hb
    generalize wr.heap.size = g0
    go_loopw [6] (fun i wr => i = .int .i64 0 ∧ Go.RowKit.Below w.heap.size w wr) (fun i _ => 0)
    case atStart => exact ⟨rfl, hb1⟩
    case round =>
      obtain ⟨rfl, hb⟩ := hrel
      clear hb1
      go_wp2
      go_loopw [9] (fun i wr => i = .int .i64 0 ∧ Go.RowKit.Below w.heap.size w wr) (fun i _ => 0)
      case atStart => exact ⟨rfl, hb⟩
      case round =>
        clear hb
        obtain ⟨rfl, hb⟩ := hrel
        go_wp2
        go_loopw [11] (fun i wr => i = .int .i64 0 ∧ Go.RowKit.Below w.heap.size w wr) (fun i _ => 0)
        case atStart => exact ⟨rfl, hb⟩
        case round =>
          clear hb
          obtain ⟨rfl, hb⟩ := hrel
          go_wp2
          go_loopw [14] (fun i wr => i = .int .i64 0 ∧ Go.RowKit.Below w.heap.size w wr) (fun i _ => 0)
          case atStart => exact ⟨rfl, hb⟩
          case round =>
            clear hb
            obtain ⟨rfl, hb⟩ := hrel
            go_wp2
            go_ret
            exact ⟨rfl, hb⟩

set_option maxRecDepth 100000 in
set_option maxHeartbeats 4000000 in
theorem flatn_Rows (w : World) :
    Calls Tryz.prog 54 #[.slice none 0 0] w fun e w' => e = .returned (.bool true) ∧ Go.RowKit.Below w.heap.size w w' := by
  obtain ⟨i1, hi1, hy0, hy1, hy2⟩ := info_parts (show (Tryz.prog.info? 166).map (fun i => (i.zero, i.size, i.bytes)) = some (some (.slice none 0 0), 1, 24) by kernel_rfl)
  have I1 := Lib.hid hi1
  have I2 := Lib.hid hy0
  have I3 := Lib.hid hy1
  have I4 := Lib.hid hy2
  clear hi1 hy0 hy1 hy2
  go_enter Tryz.func54, Tryz.ntmps54
  go_wp2
  go_loopw [3] (fun i wr => i = .int .i64 0 ∧ Go.RowKit.Below w.heap.size w wr) (fun i _ => 0)
  case atStart => exact ⟨rfl, Below.refl _ _⟩
  case round =>
    obtain ⟨rfl, hb⟩ := hrel
    go_wp2_with (at_make; refine wpList_make_full _ rfl _ _ 56 rfl 0 166 i1 (.slice none 0 0) 1 Tryz.underlying56 I1.out I2.out I3.out .i64 .i64 _ _ 0 rfl rfl rfl rfl (by rw [I4.out]; omega) (by unfold maxLen; omega) (Nat.zero_le _) ?_; intro w1 hgs hg1)
    have hb1 := below_more hb hg1 hb.size
    clear hgs hg1 hb
    generalize wr.heap.size = g0
    go_loopw [6] (fun i wr => i = .int .i64 0 ∧ Go.RowKit.Below w.heap.size w wr) (fun i _ => 0)
    case atStart => exact ⟨rfl, hb1⟩
    case round =>
      obtain ⟨rfl, hb⟩ := hrel
      clear hb1
      go_wp2
      go_loopw [9] (fun i wr => i = .int .i64 0 ∧ Go.RowKit.Below w.heap.size w wr) (fun i _ => 0)
      case atStart => exact ⟨rfl, hb⟩
      case round =>
        clear hb
        obtain ⟨rfl, hb⟩ := hrel
        go_wp2
        go_loopw [11] (fun i wr => i = .int .i64 0 ∧ Go.RowKit.Below w.heap.size w wr) (fun i _ => 0)
        case atStart => exact ⟨rfl, hb⟩
        case round =>
          clear hb
          obtain ⟨rfl, hb⟩ := hrel
          go_wp2
          go_loopw [14] (fun i wr => i = .int .i64 0 ∧ Go.RowKit.Below w.heap.size w wr) (fun i _ => 0)
          case atStart => exact ⟨rfl, hb⟩
          case round =>
            clear hb
            obtain ⟨rfl, hb⟩ := hrel
            go_wp2
            go_ret
            exact ⟨rfl, hb⟩

set_option maxRecDepth 100000 in
set_option maxHeartbeats 4000000 in
theorem flatn_Turns (w : World) :
    Calls Tryz.prog 55 #[.slice none 0 0] w fun e w' => e = .returned (.bool true) ∧ Go.RowKit.Below w.heap.size w w' := by
  obtain ⟨i1, hi1, hy0, hy1, hy2⟩ := info_parts (show (Tryz.prog.info? 171).map (fun i => (i.zero, i.size, i.bytes)) = some (some (.slice none 0 0), 1, 24) by kernel_rfl)
  have I1 := Lib.hid hi1
  have I2 := Lib.hid hy0
  have I3 := Lib.hid hy1
  have I4 := Lib.hid hy2
  clear hi1 hy0 hy1 hy2
  go_enter Tryz.func55, Tryz.ntmps55
  go_wp2
  go_loopw [3] (fun i wr => i = .int .i64 0 ∧ Go.RowKit.Below w.heap.size w wr) (fun i _ => 0)
  case atStart => exact ⟨rfl, Below.refl _ _⟩
  case round =>
    obtain ⟨rfl, hb⟩ := hrel
    go_wp2_with (at_make; refine wpList_make_full _ rfl _ _ 57 rfl 0 171 i1 (.slice none 0 0) 1 Tryz.underlying57 I1.out I2.out I3.out .i64 .i64 _ _ 0 rfl rfl rfl rfl (by rw [I4.out]; omega) (by unfold maxLen; omega) (Nat.zero_le _) ?_; intro w1 hgs hg1)
    have hb1 := below_more hb hg1 hb.size
    clear hgs hg1 hb
    generalize wr.heap.size = g0
    go_loopw [6] (fun i wr => i = .int .i64 0 ∧ Go.RowKit.Below w.heap.size w wr) (fun i _ => 0)
    case atStart => exact ⟨rfl, hb1⟩
    case round =>
      obtain ⟨rfl, hb⟩ := hrel
      clear hb1
      go_wp2
      go_loopw [9] (fun i wr => i = .int .i64 0 ∧ Go.RowKit.Below w.heap.size w wr) (fun i _ => 0)
      case atStart => exact ⟨rfl, hb⟩
      case round =>
        clear hb
        obtain ⟨rfl, hb⟩ := hrel
        go_wp2
        go_loopw [11] (fun i wr => i = .int .i64 0 ∧ Go.RowKit.Below w.heap.size w wr) (fun i _ => 0)
        case atStart => exact ⟨rfl, hb⟩
        case round =>
          clear hb
          obtain ⟨rfl, hb⟩ := hrel
          go_wp2
          go_loopw [14] (fun i wr => i = .int .i64 0 ∧ Go.RowKit.Below w.heap.size w wr) (fun i _ => 0)
          case atStart => exact ⟨rfl, hb⟩
          case round =>
            clear hb
            obtain ⟨rfl, hb⟩ := hrel
            go_wp2
            go_ret
            exact ⟨rfl, hb⟩

set_option maxRecDepth 100000 in
set_option maxHeartbeats 4000000 in
theorem flatn_Fates (w : World) :
    Calls Tryz.prog 56 #[.slice none 0 0] w fun e w' => e = .returned (.bool true) ∧ Go.RowKit.Below w.heap.size w w' := by
  obtain ⟨i1, hi1, hy0, hy1, hy2⟩ := info_parts (show (Tryz.prog.info? 176).map (fun i => (i.zero, i.size, i.bytes)) = some (some (.slice none 0 0), 1, 24) by kernel_rfl)
  have I1 := Lib.hid hi1
  have I2 := Lib.hid hy0
  have I3 := Lib.hid hy1
  have I4 := Lib.hid hy2
  clear hi1 hy0 hy1 hy2
  go_enter Tryz.func56, Tryz.ntmps56
  go_wp2
  go_loopw [3] (fun i wr => i = .int .i64 0 ∧ Go.RowKit.Below w.heap.size w wr) (fun i _ => 0)
  case atStart => exact ⟨rfl, Below.refl _ _⟩
  case round =>
    obtain ⟨rfl, hb⟩ := hrel
    go_wp2_with (at_make; refine wpList_make_full _ rfl _ _ 58 rfl 0 176 i1 (.slice none 0 0) 1 Tryz.underlying58 I1.out I2.out I3.out .i64 .i64 _ _ 0 rfl rfl rfl rfl (by rw [I4.out]; omega) (by unfold maxLen; omega) (Nat.zero_le _) ?_; intro w1 hgs hg1)
    have hb1 := below_more hb hg1 hb.size
    clear hgs hg1 hb
    generalize wr.heap.size = g0
    go_loopw [6] (fun i wr => i = .int .i64 0 ∧ Go.RowKit.Below w.heap.size w wr) (fun i _ => 0)
    case atStart => exact ⟨rfl, hb1⟩
    case round =>
      obtain ⟨rfl, hb⟩ := hrel
      clear hb1
      go_wp2
      go_loopw [9] (fun i wr => i = .int .i64 0 ∧ Go.RowKit.Below w.heap.size w wr) (fun i _ => 0)
      case atStart => exact ⟨rfl, hb⟩
      case round =>
        clear hb
        obtain ⟨rfl, hb⟩ := hrel
        go_wp2
        go_loopw [11] (fun i wr => i = .int .i64 0 ∧ Go.RowKit.Below w.heap.size w wr) (fun i _ => 0)
        case atStart => exact ⟨rfl, hb⟩
        case round =>
          clear hb
          obtain ⟨rfl, hb⟩ := hrel
          go_wp2
          go_loopw [14] (fun i wr => i = .int .i64 0 ∧ Go.RowKit.Below w.heap.size w wr) (fun i _ => 0)
          case atStart => exact ⟨rfl, hb⟩
          case round =>
            clear hb
            obtain ⟨rfl, hb⟩ := hrel
            go_wp2
            go_ret
            exact ⟨rfl, hb⟩

set_option maxRecDepth 100000 in
set_option maxHeartbeats 4000000 in
theorem flatn_Dirties (w : World) :
    Calls Tryz.prog 57 #[.slice none 0 0] w fun e w' => e = .returned (.bool true) ∧ Go.RowKit.Below w.heap.size w w' := by
  obtain ⟨i1, hi1, hy0, hy1, hy2⟩ := info_parts (show (Tryz.prog.info? 180).map (fun i => (i.zero, i.size, i.bytes)) = some (some (.slice none 0 0), 1, 24) by kernel_rfl)
  have I1 := Lib.hid hi1
  have I2 := Lib.hid hy0
  have I3 := Lib.hid hy1
  have I4 := Lib.hid hy2
  clear hi1 hy0 hy1 hy2
  go_enter Tryz.func57, Tryz.ntmps57
  go_wp2
  go_loopw [3] (fun i wr => i = .int .i64 0 ∧ Go.RowKit.Below w.heap.size w wr) (fun i _ => 0)
  case atStart => exact ⟨rfl, Below.refl _ _⟩
  case round =>
    obtain ⟨rfl, hb⟩ := hrel
    go_wp2_with (at_make; refine wpList_make_full _ rfl _ _ 59 rfl 0 180 i1 (.slice none 0 0) 1 Tryz.underlying59 I1.out I2.out I3.out .i64 .i64 _ _ 0 rfl rfl rfl rfl (by rw [I4.out]; omega) (by unfold maxLen; omega) (Nat.zero_le _) ?_; intro w1 hgs hg1)
    have hb1 := below_more hb hg1 hb.size
    clear hgs hg1 hb
    generalize wr.heap.size = g0
    go_loopw [6] (fun i wr => i = .int .i64 0 ∧ Go.RowKit.Below w.heap.size w wr) (fun i _ => 0)
    case atStart => exact ⟨rfl, hb1⟩
    case round =>
      obtain ⟨rfl, hb⟩ := hrel
      clear hb1
      go_wp2
      go_loopw [9] (fun i wr => i = .int .i64 0 ∧ Go.RowKit.Below w.heap.size w wr) (fun i _ => 0)
      case atStart => exact ⟨rfl, hb⟩
      case round =>
        clear hb
        obtain ⟨rfl, hb⟩ := hrel
        go_wp2
        go_loopw [11] (fun i wr => i = .int .i64 0 ∧ Go.RowKit.Below w.heap.size w wr) (fun i _ => 0)
        case atStart => exact ⟨rfl, hb⟩
        case round =>
          clear hb
          obtain ⟨rfl, hb⟩ := hrel
          go_wp2
          go_loopw [14] (fun i wr => i = .int .i64 0 ∧ Go.RowKit.Below w.heap.size w wr) (fun i _ => 0)
          case atStart => exact ⟨rfl, hb⟩
          case round =>
            clear hb
            obtain ⟨rfl, hb⟩ := hrel
            go_wp2
            go_ret
            exact ⟨rfl, hb⟩

set_option maxRecDepth 100000 in
set_option maxHeartbeats 4000000 in
theorem flatn_Opens (w : World) :
    Calls Tryz.prog 58 #[.slice none 0 0] w fun e w' => e = .returned (.bool true) ∧ Go.RowKit.Below w.heap.size w w' := by
  obtain ⟨i1, hi1, hy0, hy1, hy2⟩ := info_parts (show (Tryz.prog.info? 184).map (fun i => (i.zero, i.size, i.bytes)) = some (some (.slice none 0 0), 1, 24) by kernel_rfl)
  have I1 := Lib.hid hi1
  have I2 := Lib.hid hy0
  have I3 := Lib.hid hy1
  have I4 := Lib.hid hy2
  clear hi1 hy0 hy1 hy2
  go_enter Tryz.func58, Tryz.ntmps58
  go_wp2
  go_loopw [3] (fun i wr => i = .int .i64 0 ∧ Go.RowKit.Below w.heap.size w wr) (fun i _ => 0)
  case atStart => exact ⟨rfl, Below.refl _ _⟩
  case round =>
    obtain ⟨rfl, hb⟩ := hrel
    go_wp2_with (at_make; refine wpList_make_full _ rfl _ _ 60 rfl 0 184 i1 (.slice none 0 0) 1 Tryz.underlying60 I1.out I2.out I3.out .i64 .i64 _ _ 0 rfl rfl rfl rfl (by rw [I4.out]; omega) (by unfold maxLen; omega) (Nat.zero_le _) ?_; intro w1 hgs hg1)
    have hb1 := below_more hb hg1 hb.size
    clear hgs hg1 hb
    generalize wr.heap.size = g0
    go_loopw [6] (fun i wr => i = .int .i64 0 ∧ Go.RowKit.Below w.heap.size w wr) (fun i _ => 0)
    case atStart => exact ⟨rfl, hb1⟩
    case round =>
      obtain ⟨rfl, hb⟩ := hrel
      clear hb1
      go_wp2
      go_loopw [9] (fun i wr => i = .int .i64 0 ∧ Go.RowKit.Below w.heap.size w wr) (fun i _ => 0)
      case atStart => exact ⟨rfl, hb⟩
      case round =>
        clear hb
        obtain ⟨rfl, hb⟩ := hrel
        go_wp2
        go_loopw [11] (fun i wr => i = .int .i64 0 ∧ Go.RowKit.Below w.heap.size w wr) (fun i _ => 0)
        case atStart => exact ⟨rfl, hb⟩
        case round =>
          clear hb
          obtain ⟨rfl, hb⟩ := hrel
          go_wp2
          go_loopw [14] (fun i wr => i = .int .i64 0 ∧ Go.RowKit.Below w.heap.size w wr) (fun i _ => 0)
          case atStart => exact ⟨rfl, hb⟩
          case round =>
            clear hb
            obtain ⟨rfl, hb⟩ := hrel
            go_wp2
            go_ret
            exact ⟨rfl, hb⟩

set_option maxRecDepth 100000 in
set_option maxHeartbeats 4000000 in
theorem flatn_Records (w : World) :
    Calls Tryz.prog 59 #[.slice none 0 0] w fun e w' => e = .returned (.bool true) ∧ Go.RowKit.Below w.heap.size w w' := by
  obtain ⟨i1, hi1, hy0, hy1, hy2⟩ := info_parts (show (Tryz.prog.info? 188).map (fun i => (i.zero, i.size, i.bytes)) = some (some (.slice none 0 0), 1, 24) by kernel_rfl)
  have I1 := Lib.hid hi1
  have I2 := Lib.hid hy0
  have I3 := Lib.hid hy1
  have I4 := Lib.hid hy2
  clear hi1 hy0 hy1 hy2
  go_enter Tryz.func59, Tryz.ntmps59
  go_wp2
  go_loopw [3] (fun i wr => i = .int .i64 0 ∧ Go.RowKit.Below w.heap.size w wr) (fun i _ => 0)
  case atStart => exact ⟨rfl, Below.refl _ _⟩
  case round =>
    obtain ⟨rfl, hb⟩ := hrel
    go_wp2_with (at_make; refine wpList_make_full _ rfl _ _ 61 rfl 0 188 i1 (.slice none 0 0) 1 Tryz.underlying61 I1.out I2.out I3.out .i64 .i64 _ _ 0 rfl rfl rfl rfl (by rw [I4.out]; omega) (by unfold maxLen; omega) (Nat.zero_le _) ?_; intro w1 hgs hg1)
    have hb1 := below_more hb hg1 hb.size
    clear hgs hg1 hb
    generalize wr.heap.size = g0
    go_loopw [6] (fun i wr => i = .int .i64 0 ∧ Go.RowKit.Below w.heap.size w wr) (fun i _ => 0)
    case atStart => exact ⟨rfl, hb1⟩
    case round =>
      obtain ⟨rfl, hb⟩ := hrel
      clear hb1
      go_wp2
      go_loopw [9] (fun i wr => i = .int .i64 0 ∧ Go.RowKit.Below w.heap.size w wr) (fun i _ => 0)
      case atStart => exact ⟨rfl, hb⟩
      case round =>
        clear hb
        obtain ⟨rfl, hb⟩ := hrel
        go_wp2
        go_loopw [11] (fun i wr => i = .int .i64 0 ∧ Go.RowKit.Below w.heap.size w wr) (fun i _ => 0)
        case atStart => exact ⟨rfl, hb⟩
        case round =>
          clear hb
          obtain ⟨rfl, hb⟩ := hrel
          go_wp2
          go_loopw [14] (fun i wr => i = .int .i64 0 ∧ Go.RowKit.Below w.heap.size w wr) (fun i _ => 0)
          case atStart => exact ⟨rfl, hb⟩
          case round =>
            clear hb
            obtain ⟨rfl, hb⟩ := hrel
            go_wp2
            go_ret
            exact ⟨rfl, hb⟩

set_option maxRecDepth 100000 in
set_option maxHeartbeats 4000000 in
theorem flatn_Steps (w : World) :
    Calls Tryz.prog 60 #[.slice none 0 0] w fun e w' => e = .returned (.bool true) ∧ Go.RowKit.Below w.heap.size w w' := by
  obtain ⟨i1, hi1, hy0, hy1, hy2⟩ := info_parts (show (Tryz.prog.info? 194).map (fun i => (i.zero, i.size, i.bytes)) = some (some (.slice none 0 0), 1, 24) by kernel_rfl)
  have I1 := Lib.hid hi1
  have I2 := Lib.hid hy0
  have I3 := Lib.hid hy1
  have I4 := Lib.hid hy2
  clear hi1 hy0 hy1 hy2
  go_enter Tryz.func60, Tryz.ntmps60
  go_wp2
  go_loopw [3] (fun i wr => i = .int .i64 0 ∧ Go.RowKit.Below w.heap.size w wr) (fun i _ => 0)
  case atStart => exact ⟨rfl, Below.refl _ _⟩
  case round =>
    obtain ⟨rfl, hb⟩ := hrel
    go_wp2_with (at_make; refine wpList_make_full _ rfl _ _ 62 rfl 0 194 i1 (.slice none 0 0) 1 Tryz.underlying62 I1.out I2.out I3.out .i64 .i64 _ _ 0 rfl rfl rfl rfl (by rw [I4.out]; omega) (by unfold maxLen; omega) (Nat.zero_le _) ?_; intro w1 hgs hg1)
    have hb1 := below_more hb hg1 hb.size
    clear hgs hg1 hb
    generalize wr.heap.size = g0
    go_loopw [6] (fun i wr => i = .int .i64 0 ∧ Go.RowKit.Below w.heap.size w wr) (fun i _ => 0)
    case atStart => exact ⟨rfl, hb1⟩
    case round =>
      obtain ⟨rfl, hb⟩ := hrel
      clear hb1
      go_wp2
      go_loopw [9] (fun i wr => i = .int .i64 0 ∧ Go.RowKit.Below w.heap.size w wr) (fun i _ => 0)
      case atStart => exact ⟨rfl, hb⟩
      case round =>
        clear hb
        obtain ⟨rfl, hb⟩ := hrel
        go_wp2
        go_loopw [11] (fun i wr => i = .int .i64 0 ∧ Go.RowKit.Below w.heap.size w wr) (fun i _ => 0)
        case atStart => exact ⟨rfl, hb⟩
        case round =>
          clear hb
          obtain ⟨rfl, hb⟩ := hrel
          go_wp2
          go_loopw [14] (fun i wr => i = .int .i64 0 ∧ Go.RowKit.Below w.heap.size w wr) (fun i _ => 0)
          case atStart => exact ⟨rfl, hb⟩
          case round =>
            clear hb
            obtain ⟨rfl, hb⟩ := hrel
            go_wp2
            go_ret
            exact ⟨rfl, hb⟩

set_option maxRecDepth 100000 in
set_option maxHeartbeats 4000000 in
theorem flatn_Tales (w : World) :
    Calls Tryz.prog 61 #[.slice none 0 0] w fun e w' => e = .returned (.bool true) ∧ Go.RowKit.Below w.heap.size w w' := by
  obtain ⟨i1, hi1, hy0, hy1, hy2⟩ := info_parts (show (Tryz.prog.info? 200).map (fun i => (i.zero, i.size, i.bytes)) = some (some (.slice none 0 0), 1, 24) by kernel_rfl)
  have I1 := Lib.hid hi1
  have I2 := Lib.hid hy0
  have I3 := Lib.hid hy1
  have I4 := Lib.hid hy2
  clear hi1 hy0 hy1 hy2
  go_enter Tryz.func61, Tryz.ntmps61
  go_wp2
  go_loopw [3] (fun i wr => i = .int .i64 0 ∧ Go.RowKit.Below w.heap.size w wr) (fun i _ => 0)
  case atStart => exact ⟨rfl, Below.refl _ _⟩
  case round =>
    obtain ⟨rfl, hb⟩ := hrel
    go_wp2_with (at_make; refine wpList_make_full _ rfl _ _ 63 rfl 0 200 i1 (.slice none 0 0) 1 Tryz.underlying63 I1.out I2.out I3.out .i64 .i64 _ _ 0 rfl rfl rfl rfl (by rw [I4.out]; omega) (by unfold maxLen; omega) (Nat.zero_le _) ?_; intro w1 hgs hg1)
    have hb1 := below_more hb hg1 hb.size
    clear hgs hg1 hb
    generalize wr.heap.size = g0
    go_loopw [6] (fun i wr => i = .int .i64 0 ∧ Go.RowKit.Below w.heap.size w wr) (fun i _ => 0)
    case atStart => exact ⟨rfl, hb1⟩
    case round =>
      obtain ⟨rfl, hb⟩ := hrel
      clear hb1
      go_wp2
      go_loopw [9] (fun i wr => i = .int .i64 0 ∧ Go.RowKit.Below w.heap.size w wr) (fun i _ => 0)
      case atStart => exact ⟨rfl, hb⟩
      case round =>
        clear hb
        obtain ⟨rfl, hb⟩ := hrel
        go_wp2
        go_loopw [11] (fun i wr => i = .int .i64 0 ∧ Go.RowKit.Below w.heap.size w wr) (fun i _ => 0)
        case atStart => exact ⟨rfl, hb⟩
        case round =>
          clear hb
          obtain ⟨rfl, hb⟩ := hrel
          go_wp2
          go_loopw [14] (fun i wr => i = .int .i64 0 ∧ Go.RowKit.Below w.heap.size w wr) (fun i _ => 0)
          case atStart => exact ⟨rfl, hb⟩
          case round =>
            clear hb
            obtain ⟨rfl, hb⟩ := hrel
            go_wp2
            go_ret
            exact ⟨rfl, hb⟩
end Go.Proofs.YtcdjefbeillfmaaGreatDoor
