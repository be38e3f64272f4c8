/- Texts of this proof, one behind the other. -/
import Derived.Test.YtepkmgmooadbjaaGreatB04
import Derived.Test.YtepkmgmooadbjaaGreatB05
section
/- storemankit.flat..: no list at all. -/
namespace Go.Proofs.YtepkmgmooadbjaaGreat
open Go.ChangeShapes Go.WideShapes Go.ChangeAt Go.RowKit Go.Maps Go.Sort
set_option linter.unusedVariables false

theorem below_more {B : Nat} {w w1 w2 : World} (h : Go.RowKit.Below B w w1) (hg : w1.grownBy w2 none) (hB : B ≤ w1.heap.size) : Go.RowKit.Below B w w2 := h.grown hg hB (fun j hj => by cases hj)

set_option maxRecDepth 100000 in
set_option maxHeartbeats 4000000 in
theorem flatn_Words (w : World) :
    Calls Tryz.prog 39 #[.slice none 0 0] w fun e w' => e = .returned (.bool true) ∧ Go.RowKit.Below w.heap.size w w' := by
  obtain ⟨i1, hi1, hy0, hy1, hy2⟩ := info_parts (show (Tryz.prog.info? 102).map (fun i => (i.zero, i.size, i.bytes)) = some (some (.slice none 0 0), 1, 24) by kernel_rfl)
  have I1 := Lib.hid hi1
  have I2 := Lib.hid hy0
  have I3 := Lib.hid hy1
  have I4 := Lib.hid hy2
  clear hi1 hy0 hy1 hy2
  go_enter Tryz.func39, Tryz.ntmps39
  go_wp2
  go_loopw [3] (fun i wr => i = .int .i64 0 ∧ Go.RowKit.Below w.heap.size w wr) (fun i _ => 0)
  case atStart => exact ⟨rfl, Below.refl _ _⟩
  case round =>
    obtain ⟨rfl, hb⟩ := hrel
    go_wp2_with (at_make; refine wpList_make_full _ rfl _ _ 47 rfl 0 102 i1 (.slice none 0 0) 1 Tryz.underlying47 I1.out I2.out I3.out .i64 .i64 _ _ 0 rfl rfl rfl rfl (by rw [I4.out]; omega) (by unfold maxLen; omega) (Nat.zero_le _) ?_; intro w1 hgs hg1)
    have hb1 := below_more hb hg1 hb.size
    clear hgs hg1 hb
    generalize wr.heap.size = g0
    go_loopw [6] (fun i wr => i = .int .i64 0 ∧ Go.RowKit.Below w.heap.size w wr) (fun i _ => 0)
    case atStart => exact ⟨rfl, hb1⟩
    case round =>
      obtain ⟨rfl, hb⟩ := hrel
      clear hb1
      go_wp2
      go_loopw [9] (fun i wr => i = .int .i64 0 ∧ Go.RowKit.Below w.heap.size w wr) (fun i _ => 0)
      case atStart => exact ⟨rfl, hb⟩
      case round =>
        clear hb
        obtain ⟨rfl, hb⟩ := hrel
        go_wp2
        go_loopw [11] (fun i wr => i = .int .i64 0 ∧ Go.RowKit.Below w.heap.size w wr) (fun i _ => 0)
        case atStart => exact ⟨rfl, hb⟩
        case round =>
          clear hb
          obtain ⟨rfl, hb⟩ := hrel
          go_wp2
          go_loopw [14] (fun i wr => i = .int .i64 0 ∧ Go.RowKit.Below w.heap.size w wr) (fun i _ => 0)
          case atStart => exact ⟨rfl, hb⟩
          case round =>
            clear hb
            obtain ⟨rfl, hb⟩ := hrel
            go_wp2
            go_ret
            exact ⟨rfl, hb⟩

set_option maxRecDepth 100000 in
set_option maxHeartbeats 4000000 in
theorem flatn_Ints (w : World) :
    Calls Tryz.prog 40 #[.slice none 0 0] w fun e w' => e = .returned (.bool true) ∧ Go.RowKit.Below w.heap.size w w' := by
  obtain ⟨i1, hi1, hy0, hy1, hy2⟩ := info_parts (show (Tryz.prog.info? 32).map (fun i => (i.zero, i.size, i.bytes)) = some (some (.slice none 0 0), 1, 24) by kernel_rfl)
  have I1 := Lib.hid hi1
  have I2 := Lib.hid hy0
  have I3 := Lib.hid hy1
  have I4 := Lib.hid hy2
  clear hi1 hy0 hy1 hy2
  go_enter Tryz.func40, Tryz.ntmps40
  go_wp2
  go_loopw [3] (fun i wr => i = .int .i64 0 ∧ Go.RowKit.Below w.heap.size w wr) (fun i _ => 0)
  case atStart => exact ⟨rfl, Below.refl _ _⟩
  case round =>
    obtain ⟨rfl, hb⟩ := hrel
    go_wp2_with (at_make; refine wpList_make_full _ rfl _ _ 48 rfl 0 32 i1 (.slice none 0 0) 1 Tryz.underlying48 I1.out I2.out I3.out .i64 .i64 _ _ 0 rfl rfl rfl rfl (by rw [I4.out]; omega) (by unfold maxLen; omega) (Nat.zero_le _) ?_; intro w1 hgs hg1)
    have hb1 := below_more hb hg1 hb.size
    clear hgs hg1 hb
    generalize wr.heap.size = g0
    go_loopw [6] (fun i wr => i = .int .i64 0 ∧ Go.RowKit.Below w.heap.size w wr) (fun i _ => 0)
    case atStart => exact ⟨rfl, hb1⟩
    case round =>
      obtain ⟨rfl, hb⟩ := hrel
      clear hb1
      go_wp2
      go_loopw [9] (fun i wr => i = .int .i64 0 ∧ Go.RowKit.Below w.heap.size w wr) (fun i _ => 0)
      case atStart => exact ⟨rfl, hb⟩
      case round =>
        clear hb
        obtain ⟨rfl, hb⟩ := hrel
        go_wp2
        go_loopw [11] (fun i wr => i = .int .i64 0 ∧ Go.RowKit.Below w.heap.size w wr) (fun i _ => 0)
        case atStart => exact ⟨rfl, hb⟩
        case round =>
          clear hb
          obtain ⟨rfl, hb⟩ := hrel
          go_wp2
          go_loopw [14] (fun i wr => i = .int .i64 0 ∧ Go.RowKit.Below w.heap.size w wr) (fun i _ => 0)
          case atStart => exact ⟨rfl, hb⟩
          case round =>
            clear hb
            obtain ⟨rfl, hb⟩ := hrel
            go_wp2
            go_ret
            exact ⟨rfl, hb⟩

set_option maxRecDepth 100000 in
set_option maxHeartbeats 4000000 in
theorem flatn_Longs (w : World) :
    Calls Tryz.prog 41 #[.slice none 0 0] w fun e w' => e = .returned (.bool true) ∧ Go.RowKit.Below w.heap.size w w' := by
  obtain ⟨i1, hi1, hy0, hy1, hy2⟩ := info_parts (show (Tryz.prog.info? 33).map (fun i => (i.zero, i.size, i.bytes)) = some (some (.slice none 0 0), 1, 24) by kernel_rfl)
  have I1 := Lib.hid hi1
  have I2 := Lib.hid hy0
  have I3 := Lib.hid hy1
  have I4 := Lib.hid hy2
  clear hi1 hy0 hy1 hy2
  go_enter Tryz.func41, Tryz.ntmps41
  go_wp2
  go_loopw [3] (fun i wr => i = .int .i64 0 ∧ Go.RowKit.Below w.heap.size w wr) (fun i _ => 0)
  case atStart => exact ⟨rfl, Below.refl _ _⟩
  case round =>
    obtain ⟨rfl, hb⟩ := hrel
    go_wp2_with (at_make; refine wpList_make_full _ rfl _ _ 49 rfl 0 33 i1 (.slice none 0 0) 1 Tryz.underlying49 I1.out I2.out I3.out .i64 .i64 _ _ 0 rfl rfl rfl rfl (by rw [I4.out]; omega) (by unfold maxLen; omega) (Nat.zero_le _) ?_; intro w1 hgs hg1)
    have hb1 := below_more hb hg1 hb.size
    clear hgs hg1 hb
    generalize wr.heap.size = g0
    go_loopw [6] (fun i wr => i = .int .i64 0 ∧ Go.RowKit.Below w.heap.size w wr) (fun i _ => 0)
    case atStart => exact ⟨rfl, hb1⟩
    case round =>
      obtain ⟨rfl, hb⟩ := hrel
      clear hb1
      go_wp2
      go_loopw [9] (fun i wr => i = .int .i64 0 ∧ Go.RowKit.Below w.heap.size w wr) (fun i _ => 0)
      case atStart => exact ⟨rfl, hb⟩
      case round =>
        clear hb
        obtain ⟨rfl, hb⟩ := hrel
        go_wp2
        go_loopw [11] (fun i wr => i = .int .i64 0 ∧ Go.RowKit.Below w.heap.size w wr) (fun i _ => 0)
        case atStart => exact ⟨rfl, hb⟩
        case round =>
          clear hb
          obtain ⟨rfl, hb⟩ := hrel
          go_wp2
          go_loopw [14] (fun i wr => i = .int .i64 0 ∧ Go.RowKit.Below w.heap.size w wr) (fun i _ => 0)
          case atStart => exact ⟨rfl, hb⟩
          case round =>
            clear hb
            obtain ⟨rfl, hb⟩ := hrel
            go_wp2
            go_ret
            exact ⟨rfl, hb⟩

set_option maxRecDepth 100000 in
set_option maxHeartbeats 4000000 in
theorem flatn_Texts (w : World) :
    Calls Tryz.prog 42 #[.slice none 0 0] w fun e w' => e = .returned (.bool true) ∧ Go.RowKit.Below w.heap.size w w' := by
  obtain ⟨i1, hi1, hy0, hy1, hy2⟩ := info_parts (show (Tryz.prog.info? 34).map (fun i => (i.zero, i.size, i.bytes)) = some (some (.slice none 0 0), 1, 24) by kernel_rfl)
  have I1 := Lib.hid hi1
  have I2 := Lib.hid hy0
  have I3 := Lib.hid hy1
  have I4 := Lib.hid hy2
  clear hi1 hy0 hy1 hy2
  go_enter Tryz.func42, Tryz.ntmps42
  go_wp2
  go_loopw [3] (fun i wr => i = .int .i64 0 ∧ Go.RowKit.Below w.heap.size w wr) (fun i _ => 0)
  case atStart => exact ⟨rfl, Below.refl _ _⟩
  case round =>
    obtain ⟨rfl, hb⟩ := hrel
    go_wp2_with (at_make; refine wpList_make_full _ rfl _ _ 50 rfl 0 34 i1 (.slice none 0 0) 1 Tryz.underlying50 I1.out I2.out I3.out .i64 .i64 _ _ 0 rfl rfl rfl rfl (by rw [I4.out]; omega) (by unfold maxLen; omega) (Nat.zero_le _) ?_; intro w1 hgs hg1)
    have hb1 := below_more hb hg1 hb.size
    clear hgs hg1 hb
    generalize wr.heap.size = g0
    go_loopw [6] (fun i wr => i = .int .i64 0 ∧ Go.RowKit.Below w.heap.size w wr) (fun i _ => 0)
    case atStart => exact ⟨rfl, hb1⟩
    case round =>
      obtain ⟨rfl, hb⟩ := hrel
      clear hb1
      go_wp2
      go_loopw [9] (fun i wr => i = .int .i64 0 ∧ Go.RowKit.Below w.heap.size w wr) (fun i _ => 0)
      case atStart => exact ⟨rfl, hb⟩
      case round =>
        clear hb
        obtain ⟨rfl, hb⟩ := hrel
        go_wp2
        go_loopw [11] (fun i wr => i = .int .i64 0 ∧ Go.RowKit.Below w.heap.size w wr) (fun i _ => 0)
        case atStart => exact ⟨rfl, hb⟩
        case round =>
          clear hb
          obtain ⟨rfl, hb⟩ := hrel
          go_wp2
          go_loopw [14] (fun i wr => i = .int .i64 0 ∧ Go.RowKit.Below w.heap.size w wr) (fun i _ => 0)
          case atStart => exact ⟨rfl, hb⟩
          case round =>
            clear hb
            obtain ⟨rfl, hb⟩ := hrel
            go_wp2
            go_ret
            exact ⟨rfl, hb⟩

set_option maxRecDepth 100000 in
set_option maxHeartbeats 4000000 in
theorem flatn_Bytes (w : World) :
    Calls Tryz.prog 43 #[.slice none 0 0] w fun e w' => e = .returned (.bool true) ∧ Go.RowKit.Below w.heap.size w w' := by
  obtain ⟨i1, hi1, hy0, hy1, hy2⟩ := info_parts (show (Tryz.prog.info? 105).map (fun i => (i.zero, i.size, i.bytes)) = some (some (.slice none 0 0), 1, 24) by kernel_rfl)
  have I1 := Lib.hid hi1
  have I2 := Lib.hid hy0
  have I3 := Lib.hid hy1
  have I4 := Lib.hid hy2
  clear hi1 hy0 hy1 hy2
  go_enter Tryz.func43, Tryz.ntmps43
  go_wp2
  go_loopw [3] (fun i wr => i = .int .i64 0 ∧ Go.RowKit.Below w.heap.size w wr) (fun i _ => 0)
  case atStart => exact ⟨rfl, Below.refl _ _⟩
  case round =>
    obtain ⟨rfl, hb⟩ := hrel
    go_wp2_with (at_make; refine wpList_make_full _ rfl _ _ 51 rfl 0 105 i1 (.slice none 0 0) 1 Tryz.underlying51 I1.out I2.out I3.out .i64 .i64 _ _ 0 rfl rfl rfl rfl (by rw [I4.out]; omega) (by unfold maxLen; omega) (Nat.zero_le _) ?_; intro w1 hgs hg1)
    have hb1 := below_more hb hg1 hb.size
    clear hgs hg1 hb
    generalize wr.heap.size = g0
    go_loopw [6] (fun i wr => i = .int .i64 0 ∧ Go.RowKit.Below w.heap.size w wr) (fun i _ => 0)
    case atStart => exact ⟨rfl, hb1⟩
    case round =>
      obtain ⟨rfl, hb⟩ := hrel
      clear hb1
      go_wp2
      go_loopw [9] (fun i wr => i = .int .i64 0 ∧ Go.RowKit.Below w.heap.size w wr) (fun i _ => 0)
      case atStart => exact ⟨rfl, hb⟩
      case round =>
        clear hb
        obtain ⟨rfl, hb⟩ := hrel
        go_wp2
        go_loopw [11] (fun i wr => i = .int .i64 0 ∧ Go.RowKit.Below w.heap.size w wr) (fun i _ => 0)
        case atStart => exact ⟨rfl, hb⟩
        case round =>
          clear hb
          obtain ⟨rfl, hb⟩ := hrel
          go_wp2
          go_loopw [14] (fun i wr => i = .int .i64 0 ∧ Go.RowKit.Below w.heap.size w wr) (fun i _ => 0)
          case atStart => exact ⟨rfl, hb⟩
          case round =>
            clear hb
            obtain ⟨rfl, hb⟩ := hrel
            go_wp2
            go_ret
            exact ⟨rfl, hb⟩

set_option maxRecDepth 100000 in
set_option maxHeartbeats 4000000 in
theorem flatn_Windows (w : World) :
    Calls Tryz.prog 44 #[.slice none 0 0] w fun e w' => e = .returned (.bool true) ∧ Go.RowKit.Below w.heap.size w w' := by
  obtain ⟨i1, hi1, hy0, hy1, hy2⟩ := info_parts (show (Tryz.prog.info? 107).map (fun i => (i.zero, i.size, i.bytes)) = some (some (.slice none 0 0), 1, 24) by kernel_rfl)
  have I1 := Lib.hid hi1
  have I2 := Lib.hid hy0
  have I3 := Lib.hid hy1
  have I4 := Lib.hid hy2
  clear hi1 hy0 hy1 hy2
  go_enter Tryz.func44, Tryz.ntmps44
  go_wp2
  go_loopw [3] (fun i wr => i = .int .i64 0 ∧ Go.RowKit.Below w.heap.size w wr) (fun i _ => 0)
  case atStart => exact ⟨rfl, Below.refl _ _⟩
  case round =>
    obtain ⟨rfl, hb⟩ := hrel
    go_wp2_with (at_make; refine wpList_make_full _ rfl _ _ 52 rfl 0 107 i1 (.slice none 0 0) 1 Tryz.underlying52 I1.out I2.out I3.out .i64 .i64 _ _ 0 rfl rfl rfl rfl (by rw [I4.out]; omega) (by unfold maxLen; omega) (Nat.zero_le _) ?_; intro w1 hgs hg1)
    have hb1 := below_more hb hg1 hb.size
    clear hgs hg1 hb
    generalize wr.heap.size = g0
    go_loopw [6] (fun i wr => i = .int .i64 0 ∧ Go.RowKit.Below w.heap.size w wr) (fun i _ => 0)
    case atStart => exact ⟨rfl, hb1⟩
    case round =>
      obtain ⟨rfl, hb⟩ := hrel
      clear hb1
      go_wp2
      go_loopw [9] (fun i wr => i = .int .i64 0 ∧ Go.RowKit.Below w.heap.size w wr) (fun i _ => 0)
      case atStart => exact ⟨rfl, hb⟩
      case round =>
        clear hb
        obtain ⟨rfl, hb⟩ := hrel
        go_wp2
        go_loopw [11] (fun i wr => i = .int .i64 0 ∧ Go.RowKit.Below w.heap.size w wr) (fun i _ => 0)
        case atStart => exact ⟨rfl, hb⟩
        case round =>
          clear hb
          obtain ⟨rfl, hb⟩ := hrel
          go_wp2
          go_loopw [14] (fun i wr => i = .int .i64 0 ∧ Go.RowKit.Below w.heap.size w wr) (fun i _ => 0)
          case atStart => exact ⟨rfl, hb⟩
          case round =>
            clear hb
            obtain ⟨rfl, hb⟩ := hrel
            go_wp2
            go_ret
            exact ⟨rfl, hb⟩

set_option maxRecDepth 100000 in
set_option maxHeartbeats 4000000 in
theorem flatn_Lots (w : World) :
    Calls Tryz.prog 45 #[.slice none 0 0] w fun e w' => e = .returned (.bool true) ∧ Go.RowKit.Below w.heap.size w w' := by
  obtain ⟨i1, hi1, hy0, hy1, hy2⟩ := info_parts (show (Tryz.prog.info? 111).map (fun i => (i.zero, i.size, i.bytes)) = some (some (.slice none 0 0), 1, 24) by kernel_rfl)
  have I1 := Lib.hid hi1
  have I2 := Lib.hid hy0
  have I3 := Lib.hid hy1
  have I4 := Lib.hid hy2
  clear hi1 hy0 hy1 hy2
  go_enter Tryz.func45, Tryz.ntmps45
  go_wp2
  go_loopw [3] (fun i wr => i = .int .i64 0 ∧ Go.RowKit.Below w.heap.size w wr) (fun i _ => 0)
  case atStart => exact ⟨rfl, Below.refl _ _⟩
  case round =>
    obtain ⟨rfl, hb⟩ := hrel
    go_wp2_with (at_make; refine wpList_make_full _ rfl _ _ 53 rfl 0 111 i1 (.slice none 0 0) 1 Tryz.underlying53 I1.out I2.out I3.out .i64 .i64 _ _ 0 rfl rfl rfl rfl (by rw [I4.out]; omega) (by unfold maxLen; omega) (Nat.zero_le _) ?_; intro w1 hgs hg1)
    have hb1 := below_more hb hg1 hb.size
    clear hgs hg1 hb
    generalize wr.heap.size = g0
    go_loopw [6] (fun i wr => i = .int .i64 0 ∧ Go.RowKit.Below w.heap.size w wr) (fun i _ => 0)
    case atStart => exact ⟨rfl, hb1⟩
    case round =>
      obtain ⟨rfl, hb⟩ := hrel
      clear hb1
      go_wp2
      go_loopw [9] (fun i wr => i = .int .i64 0 ∧ Go.RowKit.Below w.heap.size w wr) (fun i _ => 0)
      case atStart => exact ⟨rfl, hb⟩
      case round =>
        clear hb
        obtain ⟨rfl, hb⟩ := hrel
        go_wp2
        go_loopw [11] (fun i wr => i = .int .i64 0 ∧ Go.RowKit.Below w.heap.size w wr) (fun i _ => 0)
        case atStart => exact ⟨rfl, hb⟩
        case round =>
          clear hb
          obtain ⟨rfl, hb⟩ := hrel
          go_wp2
          go_loopw [14] (fun i wr => i = .int .i64 0 ∧ Go.RowKit.Below w.heap.size w wr) (fun i _ => 0)
          case atStart => exact ⟨rfl, hb⟩
          case round =>
            clear hb
            obtain ⟨rfl, hb⟩ := hrel
            go_wp2
            go_ret
            exact ⟨rfl, hb⟩

set_option maxRecDepth 100000 in
set_option maxHeartbeats 4000000 in
theorem flatn_Wants (w : World) :
    Calls Tryz.prog 46 #[.slice none 0 0] w fun e w' => e = .returned (.bool true) ∧ Go.RowKit.Below w.heap.size w w' := by
  obtain ⟨i1, hi1, hy0, hy1, hy2⟩ := info_parts (show (Tryz.prog.info? 115).map (fun i => (i.zero, i.size, i.bytes)) = some (some (.slice none 0 0), 1, 24) by kernel_rfl)
  have I1 := Lib.hid hi1
  have I2 := Lib.hid hy0
  have I3 := Lib.hid hy1
  have I4 := Lib.hid hy2
  clear hi1 hy0 hy1 hy2
  go_enter Tryz.func46, Tryz.ntmps46
  go_wp2
  go_loopw [3] (fun i wr => i = .int .i64 0 ∧ Go.RowKit.Below w.heap.size w wr) (fun i _ => 0)
  case atStart => exact ⟨rfl, Below.refl _ _⟩
  case round =>
    obtain ⟨rfl, hb⟩ := hrel
    go_wp2_with (at_make; refine wpList_make_full _ rfl _ _ 54 rfl 0 115 i1 (.slice none 0 0) 1 Tryz.underlying54 I1.out I2.out I3.out .i64 .i64 _ _ 0 rfl rfl rfl rfl (by rw [I4.out]; omega) (by unfold maxLen; omega) (Nat.zero_le _) ?_; intro w1 hgs hg1)
    have hb1 := below_more hb hg1 hb.size
    clear hgs hg1 hb
    generalize wr.heap.size = g0
    go_loopw [6] (fun i wr => i = .int .i64 0 ∧ Go.RowKit.Below w.heap.size w wr) (fun i _ => 0)
    case atStart => exact ⟨rfl, hb1⟩
    case round =>
      obtain ⟨rfl, hb⟩ := hrel
      clear hb1
      go_wp2
      go_loopw [9] (fun i wr => i = .int .i64 0 ∧ Go.RowKit.Below w.heap.size w wr) (fun i _ => 0)
      case atStart => exact ⟨rfl, hb⟩
      case round =>
        clear hb
        obtain ⟨rfl, hb⟩ := hrel
        go_wp2
        go_loopw [11] (fun i wr => i = .int .i64 0 ∧ Go.RowKit.Below w.heap.size w wr) (fun i _ => 0)
        case atStart => exact ⟨rfl, hb⟩
        case round =>
          clear hb
          obtain ⟨rfl, hb⟩ := hrel
          go_wp2
          go_loopw [14] (fun i wr => i = .int .i64 0 ∧ Go.RowKit.Below w.heap.size w wr) (fun i _ => 0)
          case atStart => exact ⟨rfl, hb⟩
          case round =>
            clear hb
            obtain ⟨rfl, hb⟩ := hrel
            go_wp2
            go_ret
            exact ⟨rfl, hb⟩

set_option maxRecDepth 100000 in
set_option maxHeartbeats 4000000 in
theorem flatn_Uses (w : World) :
    Calls Tryz.prog 47 #[.slice none 0 0] w fun e w' => e = .returned (.bool true) ∧ Go.RowKit.Below w.heap.size w w' := by
  obtain ⟨i1, hi1, hy0, hy1, hy2⟩ := info_parts (show (Tryz.prog.info? 119).map (fun i => (i.zero, i.size, i.bytes)) = some (some (.slice none 0 0), 1, 24) by kernel_rfl)
  have I1 := Lib.hid hi1
  have I2 := Lib.hid hy0
  have I3 := Lib.hid hy1
  have I4 := Lib.hid hy2
  clear hi1 hy0 hy1 hy2
  go_enter Tryz.func47, Tryz.ntmps47
  go_wp2
  go_loopw [3] (fun i wr => i = .int .i64 0 ∧ Go.RowKit.Below w.heap.size w wr) (fun i _ => 0)
  case atStart => exact ⟨rfl, Below.refl _ _⟩
  case round =>
    obtain ⟨rfl, hb⟩ := hrel
    go_wp2_with (at_make; refine wpList_make_full _ rfl _ _ 55 rfl 0 119 i1 (.slice none 0 0) 1 Tryz.underlying55 I1.out I2.out I3.out .i64 .i64 _ _ 0 rfl rfl rfl rfl (by rw [I4.out]; omega) (by unfold maxLen; omega) (Nat.zero_le _) ?_; intro w1 hgs hg1)
    have hb1 := below_more hb hg1 hb.size
    clear hgs hg1 hb
    generalize wr.heap.size = g0
    go_loopw [6] (fun i wr => i = .int .i64 0 ∧ Go.RowKit.Below w.heap.size w wr) (fun i _ => 0)
    case atStart => exact ⟨rfl, hb1⟩
    case round =>
      obtain ⟨rfl, hb⟩ := hrel
      clear hb1
      go_wp2
      go_loopw [9] (fun i wr => i = .int .i64 0 ∧ Go.RowKit.Below w.heap.size w wr) (fun i _ => 0)
      case atStart => exact ⟨rfl, hb⟩
      case round =>
        clear hb
        obtain ⟨rfl, hb⟩ := hrel
        go_wp2
        go_loopw [11] (fun i wr => i = .int .i64 0 ∧ Go.RowKit.Below w.heap.size w wr) (fun i _ => 0)
        case atStart => exact ⟨rfl, hb⟩
        case round =>
          clear hb
          obtain ⟨rfl, hb⟩ := hrel
          go_wp2
          go_loopw [14] (fun i wr => i = .int .i64 0 ∧ Go.RowKit.Below w.heap.size w wr) (fun i _ => 0)
          case atStart => exact ⟨rfl, hb⟩
          case round =>
            clear hb
            obtain ⟨rfl, hb⟩ := hrel
            go_wp2
            go_ret
            exact ⟨rfl, hb⟩

set_option maxRecDepth 100000 in
set_option maxHeartbeats 4000000 in
theorem flatn_Parts (w : World) :
    Calls Tryz.prog 48 #[.slice none 0 0] w fun e w' => e = .returned (.bool true) ∧ Go.RowKit.Below w.heap.size w w' := by
  obtain ⟨i1, hi1, hy0, hy1, hy2⟩ := info_parts (show (Tryz.prog.info? 123).map (fun i => (i.zero, i.size, i.bytes)) = some (some (.slice none 0 0), 1, 24) by kernel_rfl)
  have I1 := Lib.hid hi1
  have I2 := Lib.hid hy0
  have I3 := Lib.hid hy1
  have I4 := Lib.hid hy2
  clear hi1 hy0 hy1 hy2
  go_enter Tryz.func48, Tryz.ntmps48
  go_wp2
  go_loopw [3] (fun i wr => i = .int .i64 0 ∧ Go.RowKit.Below w.heap.size w wr) (fun i _ => 0)
  case atStart => exact ⟨rfl, Below.refl _ _⟩
  case round =>
    obtain ⟨rfl, hb⟩ := hrel
    go_wp2_with (at_make; refine wpList_make_full _ rfl _ _ 56 rfl 0 123 i1 (.slice none 0 0) 1 Tryz.underlying56 I1.out I2.out I3.out .i64 .i64 _ _ 0 rfl rfl rfl rfl (by rw [I4.out]; omega) (by unfold maxLen; omega) (Nat.zero_le _) ?_; intro w1 hgs hg1)
    have hb1 := below_more hb hg1 hb.size
    clear hgs hg1 hb
    generalize wr.heap.size = g0
    go_loopw [6] (fun i wr => i = .int .i64 0 ∧ Go.RowKit.Below w.heap.size w wr) (fun i _ => 0)
    case atStart => exact ⟨rfl, hb1⟩
    case round =>
      obtain ⟨rfl, hb⟩ := hrel
      clear hb1
      go_wp2
      go_loopw [9] (fun i wr => i = .int .i64 0 ∧ Go.RowKit.Below w.heap.size w wr) (fun i _ => 0)
      case atStart => exact ⟨rfl, hb⟩
      case round =>
        clear hb
        obtain ⟨rfl, hb⟩ := hrel
        go_wp2
        go_loopw [11] (fun i wr => i = .int .i64 0 ∧ Go.RowKit.Below w.heap.size w wr) (fun i _ => 0)
        case atStart => exact ⟨rfl, hb⟩
        case round =>
          clear hb
          obtain ⟨rfl, hb⟩ := hrel
          go_wp2
          go_loopw [14] (fun i wr => i = .int .i64 0 ∧ Go.RowKit.Below w.heap.size w wr) (fun i _ => 0)
          case atStart => exact ⟨rfl, hb⟩
          case round =>
            clear hb
            obtain ⟨rfl, hb⟩ := hrel
            go_wp2
            go_ret
            exact ⟨rfl, hb⟩

set_option maxRecDepth 100000 in
set_option maxHeartbeats 4000000 in
theorem flatn_Items (w : World) :
    Calls Tryz.prog 49 #[.slice none 0 0] w fun e w' => e = .returned (.bool true) ∧ Go.RowKit.Below w.heap.size w w' := by
  obtain ⟨i1, hi1, hy0, hy1, hy2⟩ := info_parts (show (Tryz.prog.info? 127).map (fun i => (i.zero, i.size, i.bytes)) = some (some (.slice none 0 0), 1, 24) by kernel_rfl)
  have I1 := Lib.hid hi1
  have I2 := Lib.hid hy0
  have I3 := Lib.hid hy1
  have I4 := Lib.hid hy2
  clear hi1 hy0 hy1 hy2
  go_enter Tryz.func49, Tryz.ntmps49
  go_wp2
  go_loopw [3] (fun i wr => i = .int .i64 0 ∧ Go.RowKit.Below w.heap.size w wr) (fun i _ => 0)
  case atStart => exact ⟨rfl, Below.refl _ _⟩
  case round =>
    obtain ⟨rfl, hb⟩ := hrel
    go_wp2_with (at_make; refine wpList_make_full _ rfl _ _ 57 rfl 0 127 i1 (.slice none 0 0) 1 Tryz.underlying57 I1.out I2.out I3.out .i64 .i64 _ _ 0 rfl rfl rfl rfl (by rw [I4.out]; omega) (by unfold maxLen; omega) (Nat.zero_le _) ?_; intro w1 hgs hg1)
    have hb1 := below_more hb hg1 hb.size
    clear hgs hg1 hb
    generalize wr.heap.size = g0
    go_loopw [6] (fun i wr => i = .int .i64 0 ∧ Go.RowKit.Below w.heap.size w wr) (fun i _ => 0)
    case atStart => exact ⟨rfl, hb1⟩
    case round =>
      obtain ⟨rfl, hb⟩ := hrel
      clear hb1
      go_wp2
      go_loopw [9] (fun i wr => i = .int .i64 0 ∧ Go.RowKit.Below w.heap.size w wr) (fun i _ => 0)
      case atStart => exact ⟨rfl, hb⟩
      case round =>
        clear hb
        obtain ⟨rfl, hb⟩ := hrel
        go_wp2
        go_loopw [11] (fun i wr => i = .int .i64 0 ∧ Go.RowKit.Below w.heap.size w wr) (fun i _ => 0)
        case atStart => exact ⟨rfl, hb⟩
        case round =>
          clear hb
          obtain ⟨rfl, hb⟩ := hrel
          go_wp2
          go_loopw [14] (fun i wr => i = .int .i64 0 ∧ Go.RowKit.Below w.heap.size w wr) (fun i _ => 0)
          case atStart => exact ⟨rfl, hb⟩
          case round =>
            clear hb
            obtain ⟨rfl, hb⟩ := hrel
            go_wp2
            go_ret
            exact ⟨rfl, hb⟩

set_option maxRecDepth 100000 in
set_option maxHeartbeats 4000000 in
theorem flatn_Asks (w : World) :
    Calls Tryz.prog 51 #[.slice none 0 0] w fun e w' => e = .returned (.bool true) ∧ Go.RowKit.Below w.heap.size w w' := by
  obtain ⟨i1, hi1, hy0, hy1, hy2⟩ := info_parts (show (Tryz.prog.info? 132).map (fun i => (i.zero, i.size, i.bytes)) = some (some (.slice none 0 0), 1, 24) by kernel_rfl)
  have I1 := Lib.hid hi1
  have I2 := Lib.hid hy0
  have I3 := Lib.hid hy1
  have I4 := Lib.hid hy2
  clear hi1 hy0 hy1 hy2
  go_enter Tryz.func51, Tryz.ntmps51
  go_wp2
  go_loopw [3] (fun i wr => i = .int .i64 0 ∧ Go.RowKit.Below w.heap.size w wr) (fun i _ => 0)
  case atStart => exact ⟨rfl, Below.refl _ _⟩
  case round =>
    obtain ⟨rfl, hb⟩ := hrel
    go_wp2_with (at_make; refine wpList_make_full _ rfl _ _ 58 rfl 0 132 i1 (.slice none 0 0) 1 Tryz.underlying58 I1.out I2.out I3.out .i64 .i64 _ _ 0 rfl rfl rfl rfl (by rw [I4.out]; omega) (by unfold maxLen; omega) (Nat.zero_le _) ?_; intro w1 hgs hg1)
    have hb1 := below_more hb hg1 hb.size
    clear hgs hg1 hb
    generalize wr.heap.size = g0
    go_loopw [6] (fun i wr => i = .int .i64 0 ∧ Go.RowKit.Below w.heap.size w wr) (fun i _ => 0)
    case atStart => exact ⟨rfl, hb1⟩
    case round =>
      obtain ⟨rfl, hb⟩ := hrel
      clear hb1
      go_wp2
      go_loopw [9] (fun i wr => i = .int .i64 0 ∧ Go.RowKit.Below w.heap.size w wr) (fun i _ => 0)
      case atStart => exact ⟨rfl, hb⟩
      case round =>
        clear hb
        obtain ⟨rfl, hb⟩ := hrel
        go_wp2
        go_loopw [11] (fun i wr => i = .int .i64 0 ∧ Go.RowKit.Below w.heap.size w wr) (fun i _ => 0)
        case atStart => exact ⟨rfl, hb⟩
        case round =>
          clear hb
          obtain ⟨rfl, hb⟩ := hrel
          go_wp2
          go_loopw [14] (fun i wr => i = .int .i64 0 ∧ Go.RowKit.Below w.heap.size w wr) (fun i _ => 0)
          case atStart => exact ⟨rfl, hb⟩
          case round =>
            clear hb
            obtain ⟨rfl, hb⟩ := hrel
            go_wp2
            go_ret
            exact ⟨rfl, hb⟩

set_option maxRecDepth 100000 in
set_option maxHeartbeats 4000000 in
theorem flatn_Tells (w : World) :
    Calls Tryz.prog 52 #[.slice none 0 0] w fun e w' => e = .returned (.bool true) ∧ Go.RowKit.Below w.heap.size w w' := by
  obtain ⟨i1, hi1, hy0, hy1, hy2⟩ := info_parts (show (Tryz.prog.info? 138).map (fun i => (i.zero, i.size, i.bytes)) = some (some (.slice none 0 0), 1, 24) by kernel_rfl)
  have I1 := Lib.hid hi1
  have I2 := Lib.hid hy0
  have I3 := Lib.hid hy1
  have I4 := Lib.hid hy2
  clear hi1 hy0 hy1 hy2
  go_enter Tryz.func52, Tryz.ntmps52
  go_wp2
  go_loopw [3] (fun i wr => i = .int .i64 0 ∧ Go.RowKit.Below w.heap.size w wr) (fun i _ => 0)
  case atStart => exact ⟨rfl, Below.refl _ _⟩
  case round =>
    obtain ⟨rfl, hb⟩ := hrel
    go_wp2_with (at_make; refine wpList_make_full _ rfl _ _ 59 rfl 0 138 i1 (.slice none 0 0) 1 Tryz.underlying59 I1.out I2.out I3.out .i64 .i64 _ _ 0 rfl rfl rfl rfl (by rw [I4.out]; omega) (by unfold maxLen; omega) (Nat.zero_le _) ?_; intro w1 hgs hg1)
    have hb1 := below_more hb hg1 hb.size
    clear hgs hg1 hb
    generalize wr.heap.size = g0
    go_loopw [6] (fun i wr => i = .int .i64 0 ∧ Go.RowKit.Below w.heap.size w wr) (fun i _ => 0)
    case atStart => exact ⟨rfl, hb1⟩
    case round =>
      obtain ⟨rfl, hb⟩ := hrel
      clear hb1
      go_wp2
      go_loopw [9] (fun i wr => i = .int .i64 0 ∧ Go.RowKit.Below w.heap.size w wr) (fun i _ => 0)
      case atStart => exact ⟨rfl, hb⟩
      case round =>
        clear hb
        obtain ⟨rfl, hb⟩ := hrel
        go_wp2
        go_loopw [11] (fun i wr => i = .int .i64 0 ∧ Go.RowKit.Below w.heap.size w wr) (fun i _ => 0)
        case atStart => exact ⟨rfl, hb⟩
        case round =>
          clear hb
          obtain ⟨rfl, hb⟩ := hrel
          go_wp2
          go_loopw [14] (fun i wr => i = .int .i64 0 ∧ Go.RowKit.Below w.heap.size w wr) (fun i _ => 0)
          case atStart => exact ⟨rfl, hb⟩
          case round =>
            clear hb
            obtain ⟨rfl, hb⟩ := hrel
            go_wp2
            go_ret
            exact ⟨rfl, hb⟩

set_option maxRecDepth 100000 in
set_option maxHeartbeats 4000000 in
theorem flatn_States (w : World) :
    Calls Tryz.prog 53 #[.slice none 0 0] w fun e w' => e = .returned (.bool true) ∧ Go.RowKit.Below w.heap.size w w' := by
  obtain ⟨i1, hi1, hy0, hy1, hy2⟩ := info_parts (show (Tryz.prog.info? 144).map (fun i => (i.zero, i.size, i.bytes)) = some (some (.slice none 0 0), 1, 24) by kernel_rfl)
  have I1 := Lib.hid hi1
  have I2 := Lib.hid hy0
  have I3 := Lib.hid hy1
  have I4 := Lib.hid hy2
  clear hi1 hy0 hy1 hy2
  go_enter Tryz.func53, Tryz.ntmps53
  go_wp2
  go_loopw [3] (fun i wr => i = .int .i64 0 ∧ Go.RowKit.Below w.heap.size w wr) (fun i _ => 0)
  case atStart => exact ⟨rfl, Below.refl _ _⟩
  case round =>
    obtain ⟨rfl, hb⟩ := hrel
    go_wp2_with (at_make; refine wpList_make_full _ rfl _ _ 60 rfl 0 144 i1 (.slice none 0 0) 1 Tryz.underlying60 I1.out I2.out I3.out .i64 .i64 _ _ 0 rfl rfl rfl rfl (by rw [I4.out]; omega) (by unfold maxLen; omega) (Nat.zero_le _) ?_; intro w1 hgs hg1)
    have hb1 := below_more hb hg1 hb.size
    clear hgs hg1 hb
    generalize wr.heap.size = g0
    go_loopw [6] (fun i wr => i = .int .i64 0 ∧ Go.RowKit.Below w.heap.size w wr) (fun i _ => 0)
    case atStart => exact ⟨rfl, hb1⟩
    case round =>
      obtain ⟨rfl, hb⟩ := hrel
      clear hb1
      go_wp2
      go_loopw [9] (fun i wr => i = .int .i64 0 ∧ Go.RowKit.Below w.heap.size w wr) (fun i _ => 0)
      case atStart => exact ⟨rfl, hb⟩
      case round =>
        clear hb
        obtain ⟨rfl, hb⟩ := hrel
        go_wp2
        go_loopw [11] (fun i wr => i = .int .i64 0 ∧ Go.RowKit.Below w.heap.size w wr) (fun i _ => 0)
        case atStart => exact ⟨rfl, hb⟩
        case round =>
          clear hb
          obtain ⟨rfl, hb⟩ := hrel
          go_wp2
          go_loopw [14] (fun i wr => i = .int .i64 0 ∧ Go.RowKit.Below w.heap.size w wr) (fun i _ => 0)
          case atStart => exact ⟨rfl, hb⟩
          case round =>
            clear hb
            obtain ⟨rfl, hb⟩ := hrel
            go_wp2
            go_ret
            exact ⟨rfl, hb⟩

set_option maxRecDepth 100000 in
set_option maxHeartbeats 4000000 in
theorem flatn_Rows (w : World) :
    Calls Tryz.prog 54 #[.slice none 0 0] w fun e w' => e = .returned (.bool true) ∧ Go.RowKit.Below w.heap.size w w' := by
  obtain ⟨i1, hi1, hy0, hy1, hy2⟩ := info_parts (show (Tryz.prog.info? 149).map (fun i => (i.zero, i.size, i.bytes)) = some (some (.slice none 0 0), 1, 24) by kernel_rfl)
  have I1 := Lib.hid hi1
  have I2 := Lib.hid hy0
  have I3 := Lib.hid hy1
  have I4 := Lib.hid hy2
  clear hi1 hy0 hy1 hy2
  go_enter Tryz.func54, Tryz.ntmps54
  go_wp2
  go_loopw [3] (fun i wr => i = .int .i64 0 ∧ Go.RowKit.Below w.heap.size w wr) (fun i _ => 0)
  case atStart => exact ⟨rfl, Below.refl _ _⟩
  case round =>
    obtain ⟨rfl, hb⟩ := hrel
    go_wp2_with (at_make; refine wpList_make_full _ rfl _ _ 61 rfl 0 149 i1 (.slice none 0 0) 1 Tryz.underlying61 I1.out I2.out I3.out .i64 .i64 _ _ 0 rfl rfl rfl rfl (by rw [I4.out]; omega) (by unfold maxLen; omega) (Nat.zero_le _) ?_; intro w1 hgs hg1)
    have hb1 := below_more hb hg1 hb.size
    clear hgs hg1 hb
    generalize wr.heap.size = g0
    go_loopw [6] (fun i wr => i = .int .i64 0 ∧ Go.RowKit.Below w.heap.size w wr) (fun i _ => 0)
    case atStart => exact ⟨rfl, hb1⟩
    case round =>
      obtain ⟨rfl, hb⟩ := hrel
      clear hb1
      go_wp2
      go_loopw [9] (fun i wr => i = .int .i64 0 ∧ Go.RowKit.Below w.heap.size w wr) (fun i _ => 0)
      case atStart => exact ⟨rfl, hb⟩
      case round =>
        clear hb
        obtain ⟨rfl, hb⟩ := hrel
        go_wp2
        go_loopw [11] (fun i wr => i = .int .i64 0 ∧ Go.RowKit.Below w.heap.size w wr) (fun i _ => 0)
        case atStart => exact ⟨rfl, hb⟩
        case round =>
          clear hb
          obtain ⟨rfl, hb⟩ := hrel
          go_wp2
          go_loopw [14] (fun i wr => i = .int .i64 0 ∧ Go.RowKit.Below w.heap.size w wr) (fun i _ => 0)
          case atStart => exact ⟨rfl, hb⟩
          case round =>
            clear hb
            obtain ⟨rfl, hb⟩ := hrel
            go_wp2
            go_ret
            exact ⟨rfl, hb⟩

set_option maxRecDepth 100000 in
set_option maxHeartbeats 4000000 in
theorem flatn_Turns (w : World) :
    Calls Tryz.prog 55 #[.slice none 0 0] w fun e w' => e = .returned (.bool true) ∧ Go.RowKit.Below w.heap.size w w' := by
  obtain ⟨i1, hi1, hy0, hy1, hy2⟩ := info_parts (show (Tryz.prog.info? 154).map (fun i => (i.zero, i.size, i.bytes)) = some (some (.slice none 0 0), 1, 24) by kernel_rfl)
  have I1 := Lib.hid hi1
  have I2 := Lib.hid hy0
  have I3 := Lib.hid hy1
  have I4 := Lib.hid hy2
  clear hi1 hy0 hy1 hy2
  go_enter Tryz.func55, Tryz.ntmps55
  go_wp2
  go_loopw [3] (fun i wr => i = .int .i64 0 ∧ Go.RowKit.Below w.heap.size w wr) (fun i _ => 0)
  case atStart => exact ⟨rfl, Below.refl _ _⟩
  case round =>
    obtain ⟨rfl, hb⟩ := hrel
    go_wp2_with (at_make; refine wpList_make_full _ rfl _ _ 62 rfl 0 154 i1 (.slice none 0 0) 1 Tryz.underlying62 I1.out I2.out I3.out .i64 .i64 _ _ 0 rfl rfl rfl rfl (by rw [I4.out]; omega) (by unfold maxLen; omega) (Nat.zero_le _) ?_; intro w1 hgs hg1)
    have hb1 := below_more hb hg1 hb.size
    clear hgs hg1 hb
    generalize wr.heap.size = g0
    go_loopw [6] (fun i wr => i = .int .i64 0 ∧ Go.RowKit.Below w.heap.size w wr) (fun i _ => 0)
    case atStart => exact ⟨rfl, hb1⟩
    case round =>
      obtain ⟨rfl, hb⟩ := hrel
      clear hb1
      go_wp2
      go_loopw [9] (fun i wr => i = .int .i64 0 ∧ Go.RowKit.Below w.heap.size w wr) (fun i _ => 0)
      case atStart => exact ⟨rfl, hb⟩
      case round =>
        clear hb
        obtain ⟨rfl, hb⟩ := hrel
        go_wp2
        go_loopw [11] (fun i wr => i = .int .i64 0 ∧ Go.RowKit.Below w.heap.size w wr) (fun i _ => 0)
        case atStart => exact ⟨rfl, hb⟩
        case round =>
          clear hb
          obtain ⟨rfl, hb⟩ := hrel
          go_wp2
          go_loopw [14] (fun i wr => i = .int .i64 0 ∧ Go.RowKit.Below w.heap.size w wr) (fun i _ => 0)
          case atStart => exact ⟨rfl, hb⟩
          case round =>
            clear hb
            obtain ⟨rfl, hb⟩ := hrel
            go_wp2
            go_ret
            exact ⟨rfl, hb⟩

set_option maxRecDepth 100000 in
set_option maxHeartbeats 4000000 in
theorem flatn_Fates (w : World) :
    Calls Tryz.prog 56 #[.slice none 0 0] w fun e w' => e = .returned (.bool true) ∧ Go.RowKit.Below w.heap.size w w' := by
  obtain ⟨i1, hi1, hy0, hy1, hy2⟩ := info_parts (show (Tryz.prog.info? 159).map (fun i => (i.zero, i.size, i.bytes)) = some (some (.slice none 0 0), 1, 24) by kernel_rfl)
  have I1 := Lib.hid hi1
  have I2 := Lib.hid hy0
  have I3 := Lib.hid hy1
  have I4 := Lib.hid hy2
  clear hi1 hy0 hy1 hy2
  go_enter Tryz.func56, Tryz.ntmps56
  go_wp2
  go_loopw [3] (fun i wr => i = .int .i64 0 ∧ Go.RowKit.Below w.heap.size w wr) (fun i _ => 0)
  case atStart => exact ⟨rfl, Below.refl _ _⟩
  case round =>
    obtain ⟨rfl, hb⟩ := hrel
    go_wp2_with (at_make; refine wpList_make_full _ rfl _ _ 63 rfl 0 159 i1 (.slice none 0 0) 1 Tryz.underlying63 I1.out I2.out I3.out .i64 .i64 _ _ 0 rfl rfl rfl rfl (by rw [I4.out]; omega) (by unfold maxLen; omega) (Nat.zero_le _) ?_; intro w1 hgs hg1)
    have hb1 := below_more hb hg1 hb.size
    clear hgs hg1 hb
    generalize wr.heap.size = g0
    go_loopw [6] (fun i wr => i = .int .i64 0 ∧ Go.RowKit.Below w.heap.size w wr) (fun i _ => 0)
    case atStart => exact ⟨rfl, hb1⟩
    case round =>
      obtain ⟨rfl, hb⟩ := hrel
      clear hb1
      go_wp2
      go_loopw [9] (fun i wr => i = .int .i64 0 ∧ Go.RowKit.Below w.heap.size w wr) (fun i _ => 0)
      case atStart => exact ⟨rfl, hb⟩
      case round =>
        clear hb
        obtain ⟨rfl, hb⟩ := hrel
        go_wp2
        go_loopw [11] (fun i wr => i = .int .i64 0 ∧ Go.RowKit.Below w.heap.size w wr) (fun i _ => 0)
        case atStart => exact ⟨rfl, hb⟩
        case round =>
          clear hb
          obtain ⟨rfl, hb⟩ := hrel
          go_wp2
          go_loopw [14] (fun i wr => i = .int .i64 0 ∧ Go.RowKit.Below w.heap.size w wr) (fun i _ => 0)
          case atStart => exact ⟨rfl, hb⟩
          case round =>
            clear hb
            obtain ⟨rfl, hb⟩ := hrel
            go_wp2
            go_ret
            exact ⟨rfl, hb⟩

set_option maxRecDepth 100000 in
set_option maxHeartbeats 4000000 in
theorem flatn_Dirties (w : World) :
    Calls Tryz.prog 57 #[.slice none 0 0] w fun e w' => e = .returned (.bool true) ∧ Go.RowKit.Below w.heap.size w w' := by
  obtain ⟨i1, hi1, hy0, hy1, hy2⟩ := info_parts (show (Tryz.prog.info? 163).map (fun i => (i.zero, i.size, i.bytes)) = some (some (.slice none 0 0), 1, 24) by kernel_rfl)
  have I1 := Lib.hid hi1
  have I2 := Lib.hid hy0
  have I3 := Lib.hid hy1
  have I4 := Lib.hid hy2
  clear hi1 hy0 hy1 hy2
  go_enter Tryz.func57, Tryz.ntmps57
  go_wp2
  go_loopw [3] (fun i wr => i = .int .i64 0 ∧ Go.RowKit.Below w.heap.size w wr) (fun i _ => 0)
  case atStart => exact ⟨rfl, Below.refl _ _⟩
  case round =>
    obtain ⟨rfl, hb⟩ := hrel
    go_wp2_with (at_make; refine wpList_make_full _ rfl _ _ 64 rfl 0 163 i1 (.slice none 0 0) 1 Tryz.underlying64 I1.out I2.out I3.out .i64 .i64 _ _ 0 rfl rfl rfl rfl (by rw [I4.out]; omega) (by unfold maxLen; omega) (Nat.zero_le _) ?_; intro w1 hgs hg1)
    have hb1 := below_more hb hg1 hb.size
    clear hgs hg1 hb
    generalize wr.heap.size = g0
    go_loopw [6] (fun i wr => i = .int .i64 0 ∧ Go.RowKit.Below w.heap.size w wr) (fun i _ => 0)
    case atStart => exact ⟨rfl, hb1⟩
    case round =>
      obtain ⟨rfl, hb⟩ := hrel
      clear hb1
      go_wp2
      go_loopw [9] (fun i wr => i = .int .i64 0 ∧ Go.RowKit.Below w.heap.size w wr) (fun i _ => 0)
      case atStart => exact ⟨rfl, hb⟩
      case round =>
        clear hb
        obtain ⟨rfl, hb⟩ := hrel
        go_wp2
        go_loopw [11] (fun i wr => i = .int .i64 0 ∧ Go.RowKit.Below w.heap.size w wr) (fun i _ => 0)
        case atStart => exact ⟨rfl, hb⟩
        case round =>
          clear hb
          obtain ⟨rfl, hb⟩ := hrel
          go_wp2
          go_loopw [14] (fun i wr => i = .int .i64 0 ∧ Go.RowKit.Below w.heap.size w wr) (fun i _ => 0)
          case atStart => exact ⟨rfl, hb⟩
          case round =>
            clear hb
            obtain ⟨rfl, hb⟩ := hrel
            go_wp2
            go_ret
            exact ⟨rfl, hb⟩

set_option maxRecDepth 100000 in
set_option maxHeartbeats 4000000 in
theorem flatn_Opens (w : World) :
    Calls Tryz.prog 58 #[.slice none 0 0] w fun e w' => e = .returned (.bool true) ∧ Go.RowKit.Below w.heap.size w w' := by
  obtain ⟨i1, hi1, hy0, hy1, hy2⟩ := info_parts (show (Tryz.prog.info? 167).map (fun i => (i.zero, i.size, i.bytes)) = some (some (.slice none 0 0), 1, 24) by kernel_rfl)
  have I1 := Lib.hid hi1
  have I2 := Lib.hid hy0
  have I3 := Lib.hid hy1
  have I4 := Lib.hid hy2
  clear hi1 hy0 hy1 hy2
  go_enter Tryz.func58, Tryz.ntmps58
  go_wp2
  go_loopw [3] (fun i wr => i = .int .i64 0 ∧ Go.RowKit.Below w.heap.size w wr) (fun i _ => 0)
  case atStart => exact ⟨rfl, Below.refl _ _⟩
  case round =>
    obtain ⟨rfl, hb⟩ := hrel
    go_wp2_with (at_make; refine wpList_make_full _ rfl _ _ 65 rfl 0 167 i1 (.slice none 0 0) 1 Tryz.underlying65 I1.out I2.out I3.out .i64 .i64 _ _ 0 rfl rfl rfl rfl (by rw [I4.out]; omega) (by unfold maxLen; omega) (Nat.zero_le _) ?_; intro w1 hgs hg1)
    have hb1 := below_more hb hg1 hb.size
    clear hgs hg1 hb
    generalize wr.heap.size = g0
    go_loopw [6] (fun i wr => i = .int .i64 0 ∧ Go.RowKit.Below w.heap.size w wr) (fun i _ => 0)
    case atStart => exact ⟨rfl, hb1⟩
    case round =>
      obtain ⟨rfl, hb⟩ := hrel
      clear hb1
      go_wp2
      go_loopw [9] (fun i wr => i = .int .i64 0 ∧ Go.RowKit.Below w.heap.size w wr) (fun i _ => 0)
      case atStart => exact ⟨rfl, hb⟩
      case round =>
        clear hb
        obtain ⟨rfl, hb⟩ := hrel
        go_wp2
        go_loopw [11] (fun i wr => i = .int .i64 0 ∧ Go.RowKit.Below w.heap.size w wr) (fun i _ => 0)
        case atStart => exact ⟨rfl, hb⟩
        case round =>
          clear hb
          obtain ⟨rfl, hb⟩ := hrel
          go_wp2
          go_loopw [14] (fun i wr => i = .int .i64 0 ∧ Go.RowKit.Below w.heap.size w wr) (fun i _ => 0)
          case atStart => exact ⟨rfl, hb⟩
          case round =>
            clear hb
            obtain ⟨rfl, hb⟩ := hrel
            go_wp2
            go_ret
            exact ⟨rfl, hb⟩

set_option maxRecDepth 100000 in
set_option maxHeartbeats 4000000 in
theorem flatn_Records (w : World) :
    Calls Tryz.prog 59 #[.slice none 0 0] w fun e w' => e = .returned (.bool true) ∧ Go.RowKit.Below w.heap.size w w' := by
  obtain ⟨i1, hi1, hy0, hy1, hy2⟩ := info_parts (show (Tryz.prog.info? 171).map (fun i => (i.zero, i.size, i.bytes)) = some (some (.slice none 0 0), 1, 24) by kernel_rfl)
  have I1 := Lib.hid hi1
  have I2 := Lib.hid hy0
  have I3 := Lib.hid hy1
  have I4 := Lib.hid hy2
  clear hi1 hy0 hy1 hy2
  go_enter Tryz.func59, Tryz.ntmps59
  go_wp2
  go_loopw [3] (fun i wr => i = .int .i64 0 ∧ Go.RowKit.Below w.heap.size w wr) (fun i _ => 0)
  case atStart => exact ⟨rfl, Below.refl _ _⟩
  case round =>
    obtain ⟨rfl, hb⟩ := hrel
    go_wp2_with (at_make; refine wpList_make_full _ rfl _ _ 66 rfl 0 171 i1 (.slice none 0 0) 1 Tryz.underlying66 I1.out I2.out I3.out .i64 .i64 _ _ 0 rfl rfl rfl rfl (by rw [I4.out]; omega) (by unfold maxLen; omega) (Nat.zero_le _) ?_; intro w1 hgs hg1)
    have hb1 := below_more hb hg1 hb.size
    clear hgs hg1 hb
    generalize wr.heap.size = g0
    go_loopw [6] (fun i wr => i = .int .i64 0 ∧ Go.RowKit.Below w.heap.size w wr) (fun i _ => 0)
    case atStart => exact ⟨rfl, hb1⟩
    case round =>
      obtain ⟨rfl, hb⟩ := hrel
      clear hb1
      go_wp2
      go_loopw [9] (fun i wr => i = .int .i64 0 ∧ Go.RowKit.Below w.heap.size w wr) (fun i _ => 0)
      case atStart => exact ⟨rfl, hb⟩
      case round =>
        clear hb
        obtain ⟨rfl, hb⟩ := hrel
        go_wp2
        go_loopw [11] (fun i wr => i = .int .i64 0 ∧ Go.RowKit.Below w.heap.size w wr) (fun i _ => 0)
        case atStart => exact ⟨rfl, hb⟩
        case round =>
          clear hb
          obtain ⟨rfl, hb⟩ := hrel
          go_wp2
          go_loopw [14] (fun i wr => i = .int .i64 0 ∧ Go.RowKit.Below w.heap.size w wr) (fun i _ => 0)
          case atStart => exact ⟨rfl, hb⟩
          case round =>
            clear hb
            obtain ⟨rfl, hb⟩ := hrel
            go_wp2
            go_ret
            exact ⟨rfl, hb⟩

set_option maxRecDepth 100000 in
set_option maxHeartbeats 4000000 in
theorem flatn_Steps (w : World) :
    Calls Tryz.prog 60 #[.slice none 0 0] w fun e w' => e = .returned (.bool true) ∧ Go.RowKit.Below w.heap.size w w' := by
  obtain ⟨i1, hi1, hy0, hy1, hy2⟩ := info_parts (show (Tryz.prog.info? 177).map (fun i => (i.zero, i.size, i.bytes)) = some (some (.slice none 0 0), 1, 24) by kernel_rfl)
  have I1 := Lib.hid hi1
  have I2 := Lib.hid hy0
  have I3 := Lib.hid hy1
  have I4 := Lib.hid hy2
  clear hi1 hy0 hy1 hy2
  go_enter Tryz.func60, Tryz.ntmps60
  go_wp2
  go_loopw [3] (fun i wr => i = .int .i64 0 ∧ Go.RowKit.Below w.heap.size w wr) (fun i _ => 0)
  case atStart => exact ⟨rfl, Below.refl _ _⟩
  case round =>
    obtain ⟨rfl, hb⟩ := hrel
    go_wp2_with (at_make; refine wpList_make_full _ rfl _ _ 67 rfl 0 177 i1 (.slice none 0 0) 1 Tryz.underlying67 I1.out I2.out I3.out .i64 .i64 _ _ 0 rfl rfl rfl rfl (by rw [I4.out]; omega) (by unfold maxLen; omega) (Nat.zero_le _) ?_; intro w1 hgs hg1)
    have hb1 := below_more hb hg1 hb.size
    clear hgs hg1 hb
    generalize wr.heap.size = g0
    go_loopw [6] (fun i wr => i = .int .i64 0 ∧ Go.RowKit.Below w.heap.size w wr) (fun i _ => 0)
    case atStart => exact ⟨rfl, hb1⟩
    case round =>
      obtain ⟨rfl, hb⟩ := hrel
      clear hb1
      go_wp2
      go_loopw [9] (fun i wr => i = .int .i64 0 ∧ Go.RowKit.Below w.heap.size w wr) (fun i _ => 0)
      case atStart => exact ⟨rfl, hb⟩
      case round =>
        clear hb
        obtain ⟨rfl, hb⟩ := hrel
        go_wp2
        go_loopw [11] (fun i wr => i = .int .i64 0 ∧ Go.RowKit.Below w.heap.size w wr) (fun i _ => 0)
        case atStart => exact ⟨rfl, hb⟩
        case round =>
          clear hb
          obtain ⟨rfl, hb⟩ := hrel
          go_wp2
          go_loopw [14] (fun i wr => i = .int .i64 0 ∧ Go.RowKit.Below w.heap.size w wr) (fun i _ => 0)
          case atStart => exact ⟨rfl, hb⟩
          case round =>
            clear hb
            obtain ⟨rfl, hb⟩ := hrel
            go_wp2
            go_ret
            exact ⟨rfl, hb⟩

set_option maxRecDepth 100000 in
set_option maxHeartbeats 4000000 in
theorem flatn_Tales (w : World) :
    Calls Tryz.prog 61 #[.slice none 0 0] w fun e w' => e = .returned (.bool true) ∧ Go.RowKit.Below w.heap.size w w' := by
  obtain ⟨i1, hi1, hy0, hy1, hy2⟩ := info_parts (show (Tryz.prog.info? 183).map (fun i => (i.zero, i.size, i.bytes)) = some (some (.slice none 0 0), 1, 24) by kernel_rfl)
  have I1 := Lib.hid hi1
  have I2 := Lib.hid hy0
  have I3 := Lib.hid hy1
  have I4 := Lib.hid hy2
  clear hi1 hy0 hy1 hy2
  go_enter Tryz.func61, Tryz.ntmps61
  go_wp2
  go_loopw [3] (fun i wr => i = .int .i64 0 ∧ Go.RowKit.Below w.heap.size w wr) (fun i _ => 0)
  case atStart => exact ⟨rfl, Below.refl _ _⟩
  case round =>
    obtain ⟨rfl, hb⟩ := hrel
    go_wp2_with (at_make; refine wpList_make_full _ rfl _ _ 68 rfl 0 183 i1 (.slice none 0 0) 1 Tryz.underlying68 I1.out I2.out I3.out .i64 .i64 _ _ 0 rfl rfl rfl rfl (by rw [I4.out]; omega) (by unfold maxLen; omega) (Nat.zero_le _) ?_; intro w1 hgs hg1)
    have hb1 := below_more hb hg1 hb.size
    clear hgs hg1 hb
    generalize wr.heap.size = g0
    go_loopw [6] (fun i wr => i = .int .i64 0 ∧ Go.RowKit.Below w.heap.size w wr) (fun i _ => 0)
    case atStart => exact ⟨rfl, hb1⟩
    case round =>
      obtain ⟨rfl, hb⟩ := hrel
      clear hb1
      go_wp2
      go_loopw [9] (fun i wr => i = .int .i64 0 ∧ Go.RowKit.Below w.heap.size w wr) (fun i _ => 0)
      case atStart => exact ⟨rfl, hb⟩
      case round =>
        clear hb
        obtain ⟨rfl, hb⟩ := hrel
        go_wp2
        go_loopw [11] (fun i wr => i = .int .i64 0 ∧ Go.RowKit.Below w.heap.size w wr) (fun i _ => 0)
        case atStart => exact ⟨rfl, hb⟩
        case round =>
          clear hb
          obtain ⟨rfl, hb⟩ := hrel
          go_wp2
          go_loopw [14] (fun i wr => i = .int .i64 0 ∧ Go.RowKit.Below w.heap.size w wr) (fun i _ => 0)
          case atStart => exact ⟨rfl, hb⟩
          case round =>
            clear hb
            obtain ⟨rfl, hb⟩ := hrel
            go_wp2
            go_ret
            exact ⟨rfl, hb⟩
end Go.Proofs.YtepkmgmooadbjaaGreat
end
section
/- storemankit.putLines: one list more in the bag. -/
namespace Go.Proofs.YtepkmgmooadbjaaGreat
open Go.ChangeShapes Go.WideShapes Go.ChangeAt Go.RowKit Go.Maps Go.Sort
set_option linter.unusedVariables false

def bagOf (v : Value) : List Value := List.replicate 11 (.slice none 0 0) ++ [v] ++ List.replicate 11 (.slice none 0 0)
theorem bagOf_set (v u : Value) : (bagOf v).set 11 u = bagOf u := rfl
theorem infoSl2 : (Tryz.prog.info? 22).map (fun i => (i.zero, i.size, i.bytes)) = some (some (.slice none 0 0), 1, 24) := by kernel_rfl
theorem one_new_at (w : World) (t : TypeId) (u : Value) : ∀ j x, [u][j]? = some x → (w.alloc (.cells #[u] t)).cell? ((⟨w.heap.size, 0, none⟩ : Addr).add j) = some x := by
  intro j x hx
  rw [addr0]
  match j with
  | 0 =>
    simp only [List.getElem?_cons_zero, Option.some.injEq] at hx
    subst hx
    simp only [World.cell?, heap_alloc_new]
    rfl
  | k + 1 => simp at hx

theorem grew_kept {w w' : World} {base base' e1 s1 e size n m nn : Nat} {gv v' v : Value} {xs ys : List Value} (hgv : OwnC w base e1 s1 gv nn xs) (hO : OwnC w base' e size v n ys) (hne : e1 ≠ e) (hg : Grew w w' gv v' nn m) : OwnC w' base' e size v n ys := by
  rcases hg with ⟨g, cap, hv, _, hgr⟩ | ⟨cap, _, hgr⟩
  · exact hO.kept hgr (.inr (own_ne hgv hO hne (by rw [hv]; rfl)))
  · exact hO.kept hgr (by cases v.ownBlock <;> simp)
theorem grew_below {a w w' : World} {B base nn m e1 s1 : Nat} {gv v' : Value} {xs : List Value} (hb : Go.RowKit.Below B a w) (hgv : OwnC w base e1 s1 gv nn xs) (hB : B ≤ base) (hBw : B ≤ w.heap.size) (hg : Grew w w' gv v' nn m) : Go.RowKit.Below B a w' := by
  rcases hg with ⟨g, cap, hv, _, hgr⟩ | ⟨cap, _, hgr⟩
  · refine hb.grown hgr hBw (fun k hk => ?_)
    cases hk
    have := (hgv.lt g (by rw [hv]; rfl)).1
    omega
  · exact hb.grown hgr hBw (fun k hk => by cases hk)

set_option maxRecDepth 100000 in
set_option maxHeartbeats 4000000 in
theorem putl_any (bb gb bv n B : Nat) (v : Value) (Al : Option Addr) (nl cl : Nat) (xs : List Value) (w : World) (hbag : OwnC w bb 70 23 (.slice (some ⟨gb, 0, none⟩) 1 1) 1 (bagOf v)) (hv : OwnC w bv 22 1 v n xs)
    (hn : n ≤ 1000) (hB1 : B ≤ bb) (hB2 : B ≤ bv) (hB3 : bv ≤ w.heap.size) :
    Calls Tryz.prog 28 #[.pointer (some ⟨gb, 0, none⟩), .slice Al nl cl] w fun e w' => e = .returned (.tuple #[]) ∧ ∃ v', OwnC w' bb 70 23 (.slice (some ⟨gb, 0, none⟩) 1 1) 1 (bagOf v') ∧ OwnC w' bv 22 1 v' (n + 1) (xs ++ [.slice Al nl cl]) ∧ Go.RowKit.Below B w w' := by
  obtain ⟨i1, hi1, hy0, hy1, hy2⟩ := info_parts infoSl2
  have I1 := Lib.hid hi1
  have I2 := Lib.hid hy0
  have I3 := Lib.hid hy1
  have I4 := Lib.hid hy2
  clear hi1 hy0 hy1 hy2
  obtain ⟨A, c, rfl, hc1, hc2, _⟩ := own_formC hv
  have hc9 : w.cell? ⟨gb, 11, none⟩ = some (.slice A n c) := hbag.cellAt 11 (by decide)
  have hf9 := hbag.frozenAt 11
  have hgb := (hbag.lt gb rfl).2
  go_enter Tryz.func28, Tryz.ntmps28
  go_wp2_with (at_builtin; refine wpList_append_two _ rfl (.tmp 8) (.tmp 10) 30 rfl bv 22 i1 _ 1 24 Tryz.underlying30 I1.out I2.out I3.out I4.out rfl (by decide) _ n _ rfl (hv.alloc _) ⟨w.heap.size, 0, none⟩ 1 1 [.slice Al nl cl] rfl rfl (one_new_at _ _ _) (fun u hu => by simp at hu; subst hu; rfl) (by omega) (by unfold maxLen; omega) (by omega) (by simp only [World.size_alloc]; omega) ?_; intro v3 w3 hown3 hgrew3; obtain ⟨gg3, cg3, rfl, _, hggl3, _, _⟩ := own_some hown3 (by omega); have hb3 := grew_kept (hv.alloc _) (hbag.alloc _) (by decide) hgrew3.out; have hcb3 := hb3.cellAt 11 (by decide); have hfb3 := hb3.frozenAt 11; have hgb3 := (hb3.lt gb rfl).2)
  go_end0
  have hst := hb3.stored 11 (.slice (some ⟨gg3, 0, none⟩) (n + 1) cg3)
  refine ⟨rfl, _, by have := hst.1; rw [bagOf_set] at this; exact this, hown3.kept hst.2 (.inr (own_ne hb3 hown3 (by decide) rfl)), ?_⟩
  exact (grew_below ((Below.refl B w).alloc (by omega) _) (hv.alloc _) hB2 (by simp only [World.size_alloc]; omega) hgrew3.out).setCell (p := ⟨gb, 11, none⟩) (by have := (hbag.lt gb rfl).1; show B ≤ gb; omega) _
end Go.Proofs.YtepkmgmooadbjaaGreat
end
section
/- storemankit.bag.apart: a bag of parts that lie apart. -/
namespace Go.Proofs.YtepkmgmooadbjaaGreat
open Go.ChangeShapes Go.WideShapes Go.ChangeAt Go.RowKit Go.Maps Go.Sort
set_option linter.unusedVariables false

structure BagIn (wr w : World) (B0 bb gb base K go co : Nat) (val : Nat → Value) (len : Nat → Nat) (X0 : Nat → List Value) : Prop where
  bag : OwnC wr bb 70 23 (.slice (some ⟨gb, 0, none⟩) 1 1) 1 (bagOf (.slice (some ⟨go, 0, none⟩) K co))
  list : OwnC wr bb 22 1 (.slice (some ⟨go, 0, none⟩) K co) K (listOf K val)
  fam : Fam wr base K val len X0
  kept : Kept2 B0 w wr
  bhi : base ≤ w.heap.size
  blo : B0 ≤ base
  size : w.heap.size ≤ wr.heap.size
structure BagOut (wr w : World) (B0 bb gb K go co : Nat) : Prop where
  bag : OwnC wr bb 70 23 (.slice (some ⟨gb, 0, none⟩) 1 1) 1 (bagOf (.slice (some ⟨go, 0, none⟩) K co))
  below : Go.RowKit.Below B0 w wr
  size : B0 ≤ wr.heap.size
theorem BagIn.still {wr w w1 : World} {B0 bb gb base K go co : Nat} {val : Nat → Value} {len : Nat → Nat} {X0 : Nat → List Value} (h : BagIn wr w B0 bb gb base K go co val len X0) (hg : wr.grownBy w1 none) : BagIn w1 w B0 bb gb base K go co val len X0 :=
  ⟨h.bag.kept hg (.inr (by simp [Value.ownBlock])), h.list.kept hg (.inr (by simp [Value.ownBlock])), h.fam.keep hg, h.kept.still hg, h.bhi, h.blo, Nat.le_trans h.size hg.size⟩
theorem BagIn.after {wr w w1 : World} {B0 bb gb base K go co : Nat} {val : Nat → Value} {len : Nat → Nat} {X0 : Nat → List Value} (h : BagIn wr w B0 bb gb base K go co val len X0) (hk : Kept2 B0 wr w1) : BagOut w1 w B0 bb gb K go co :=
  ⟨hk.rows _ _ _ _ _ _ (by decide) (by decide) h.bag, h.kept.below.trans hk.below, by have := hk.size; have := h.size; have := h.bhi; have := h.blo; omega⟩
theorem BagOut.still {wr w w1 : World} {B0 bb gb K go co : Nat} (h : BagOut wr w B0 bb gb K go co) (hg : wr.grownBy w1 none) : BagOut w1 w B0 bb gb K go co :=
  ⟨h.bag.kept hg (.inr (by simp [Value.ownBlock])), h.below.grown hg h.size (fun j hj => by cases hj), Nat.le_trans h.size hg.size⟩

set_option maxRecDepth 100000 in
set_option maxHeartbeats 4000000 in
theorem bapart_any (w0 w : World) (B0 bb gb base K go co : Nat) (val : Nat → Value) (len : Nat → Nat) (X0 : Nat → List Value) (hK1 : 0 < K) (hK : K ≤ 1000) (hlen : ∀ j, j < K → len j ≤ 1048576) (h : BagIn w w0 B0 bb gb base K go co val len X0) (hLone : Lone K val) (hB : B0 ≤ base) :
    Calls Tryz.prog 29 #[.pointer (some ⟨gb, 0, none⟩)] w fun e w' => e = .returned (.bool true) ∧ Go.RowKit.Below B0 w0 w' := by
  have HA := Lib.hid h
  have HLone := Lib.hid hLone
  have hc : w.cell? ⟨gb, 0, none⟩ = some (.slice none 0 0) := h.bag.cellAt 0 (by decide)
  clear h hLone
  go_enter Tryz.func29, Tryz.ntmps29
  go_wp2_with (first
      | (go_at_call 39; ((with_reducible refine (flatn_Words _).mono ?_); rintro e w1 ⟨rfl, hk1⟩; have HA2 := Lib.hid (HA.out.still (below_none hk1)); clear HA hk1; have HA := HA2; clear HA2; have hc : w1.cell? ⟨gb, 1, none⟩ = some (.slice none 0 0) := HA.out.bag.cellAt 1 (by decide)))
      | (go_at_call 40; ((with_reducible refine (flatn_Ints _).mono ?_); rintro e w1 ⟨rfl, hk1⟩; have HA2 := Lib.hid (HA.out.still (below_none hk1)); clear HA hk1; have HA := HA2; clear HA2; have hc : w1.cell? ⟨gb, 2, none⟩ = some (.slice none 0 0) := HA.out.bag.cellAt 2 (by decide)))
      | (go_at_call 41; ((with_reducible refine (flatn_Longs _).mono ?_); rintro e w1 ⟨rfl, hk1⟩; have HA2 := Lib.hid (HA.out.still (below_none hk1)); clear HA hk1; have HA := HA2; clear HA2; have hc : w1.cell? ⟨gb, 3, none⟩ = some (.slice none 0 0) := HA.out.bag.cellAt 3 (by decide)))
      | (go_at_call 42; ((with_reducible refine (flatn_Texts _).mono ?_); rintro e w1 ⟨rfl, hk1⟩; have HA2 := Lib.hid (HA.out.still (below_none hk1)); clear HA hk1; have HA := HA2; clear HA2; have hc : w1.cell? ⟨gb, 4, none⟩ = some (.slice none 0 0) := HA.out.bag.cellAt 4 (by decide)))
      | (go_at_call 43; ((with_reducible refine (flatn_Bytes _).mono ?_); rintro e w1 ⟨rfl, hk1⟩; have HA2 := Lib.hid (HA.out.still (below_none hk1)); clear HA hk1; have HA := HA2; clear HA2; have hc : w1.cell? ⟨gb, 5, none⟩ = some (.slice none 0 0) := HA.out.bag.cellAt 5 (by decide)))
      | (go_at_call 44; ((with_reducible refine (flatn_Windows _).mono ?_); rintro e w1 ⟨rfl, hk1⟩; have HA2 := Lib.hid (HA.out.still (below_none hk1)); clear HA hk1; have HA := HA2; clear HA2; have hc : w1.cell? ⟨gb, 6, none⟩ = some (.slice none 0 0) := HA.out.bag.cellAt 6 (by decide)))
      | (go_at_call 45; ((with_reducible refine (flatn_Lots _).mono ?_); rintro e w1 ⟨rfl, hk1⟩; have HA2 := Lib.hid (HA.out.still (below_none hk1)); clear HA hk1; have HA := HA2; clear HA2; have hc : w1.cell? ⟨gb, 7, none⟩ = some (.slice none 0 0) := HA.out.bag.cellAt 7 (by decide)))
      | (go_at_call 46; ((with_reducible refine (flatn_Wants _).mono ?_); rintro e w1 ⟨rfl, hk1⟩; have HA2 := Lib.hid (HA.out.still (below_none hk1)); clear HA hk1; have HA := HA2; clear HA2; have hc : w1.cell? ⟨gb, 8, none⟩ = some (.slice none 0 0) := HA.out.bag.cellAt 8 (by decide)))
      | (go_at_call 47; ((with_reducible refine (flatn_Uses _).mono ?_); rintro e w1 ⟨rfl, hk1⟩; have HA2 := Lib.hid (HA.out.still (below_none hk1)); clear HA hk1; have HA := HA2; clear HA2; have hc : w1.cell? ⟨gb, 9, none⟩ = some (.slice none 0 0) := HA.out.bag.cellAt 9 (by decide)))
      | (go_at_call 48; ((with_reducible refine (flatn_Parts _).mono ?_); rintro e w1 ⟨rfl, hk1⟩; have HA2 := Lib.hid (HA.out.still (below_none hk1)); clear HA hk1; have HA := HA2; clear HA2; have hc : w1.cell? ⟨gb, 10, none⟩ = some (.slice none 0 0) := HA.out.bag.cellAt 10 (by decide)))
      | (go_at_call 49; ((with_reducible refine (flatn_Items _).mono ?_); rintro e w1 ⟨rfl, hk1⟩; have HA2 := Lib.hid (HA.out.still (below_none hk1)); clear HA hk1; have HA := HA2; clear HA2; have hc : w1.cell? ⟨gb, 11, none⟩ = some (.slice (some ⟨go, 0, none⟩) K co) := HA.out.bag.cellAt 11 (by decide)))
      | (go_at_call 50; ((with_reducible refine (flatl_any K go co bb base B0 val len X0 _ hK1 hK hlen HA.out.list HA.out.fam HLone.out hB (by have := HA.out.size; have := HA.out.bhi; omega) (by have := HA.out.size; have := HA.out.bhi; omega)).mono ?_); rintro e w1 ⟨rfl, hk1⟩; have HB := Lib.hid (HA.out.after hk1); clear HA hk1; have hc : w1.cell? ⟨gb, 12, none⟩ = some (.slice none 0 0) := HB.out.bag.cellAt 12 (by decide)))
      | (go_at_call 51; ((with_reducible refine (flatn_Asks _).mono ?_); rintro e w1 ⟨rfl, hk1⟩; have HB2 := Lib.hid (HB.out.still (below_none hk1)); clear HB hk1; have HB := HB2; clear HB2; have hc : w1.cell? ⟨gb, 13, none⟩ = some (.slice none 0 0) := HB.out.bag.cellAt 13 (by decide)))
      | (go_at_call 52; ((with_reducible refine (flatn_Tells _).mono ?_); rintro e w1 ⟨rfl, hk1⟩; have HB2 := Lib.hid (HB.out.still (below_none hk1)); clear HB hk1; have HB := HB2; clear HB2; have hc : w1.cell? ⟨gb, 14, none⟩ = some (.slice none 0 0) := HB.out.bag.cellAt 14 (by decide)))
      | (go_at_call 53; ((with_reducible refine (flatn_States _).mono ?_); rintro e w1 ⟨rfl, hk1⟩; have HB2 := Lib.hid (HB.out.still (below_none hk1)); clear HB hk1; have HB := HB2; clear HB2; have hc : w1.cell? ⟨gb, 15, none⟩ = some (.slice none 0 0) := HB.out.bag.cellAt 15 (by decide)))
      | (go_at_call 54; ((with_reducible refine (flatn_Rows _).mono ?_); rintro e w1 ⟨rfl, hk1⟩; have HB2 := Lib.hid (HB.out.still (below_none hk1)); clear HB hk1; have HB := HB2; clear HB2; have hc : w1.cell? ⟨gb, 16, none⟩ = some (.slice none 0 0) := HB.out.bag.cellAt 16 (by decide)))
      | (go_at_call 55; ((with_reducible refine (flatn_Turns _).mono ?_); rintro e w1 ⟨rfl, hk1⟩; have HB2 := Lib.hid (HB.out.still (below_none hk1)); clear HB hk1; have HB := HB2; clear HB2; have hc : w1.cell? ⟨gb, 17, none⟩ = some (.slice none 0 0) := HB.out.bag.cellAt 17 (by decide)))
      | (go_at_call 56; ((with_reducible refine (flatn_Fates _).mono ?_); rintro e w1 ⟨rfl, hk1⟩; have HB2 := Lib.hid (HB.out.still (below_none hk1)); clear HB hk1; have HB := HB2; clear HB2; have hc : w1.cell? ⟨gb, 18, none⟩ = some (.slice none 0 0) := HB.out.bag.cellAt 18 (by decide)))
      | (go_at_call 57; ((with_reducible refine (flatn_Dirties _).mono ?_); rintro e w1 ⟨rfl, hk1⟩; have HB2 := Lib.hid (HB.out.still (below_none hk1)); clear HB hk1; have HB := HB2; clear HB2; have hc : w1.cell? ⟨gb, 19, none⟩ = some (.slice none 0 0) := HB.out.bag.cellAt 19 (by decide)))
      | (go_at_call 58; ((with_reducible refine (flatn_Opens _).mono ?_); rintro e w1 ⟨rfl, hk1⟩; have HB2 := Lib.hid (HB.out.still (below_none hk1)); clear HB hk1; have HB := HB2; clear HB2; have hc : w1.cell? ⟨gb, 20, none⟩ = some (.slice none 0 0) := HB.out.bag.cellAt 20 (by decide)))
      | (go_at_call 59; ((with_reducible refine (flatn_Records _).mono ?_); rintro e w1 ⟨rfl, hk1⟩; have HB2 := Lib.hid (HB.out.still (below_none hk1)); clear HB hk1; have HB := HB2; clear HB2; have hc : w1.cell? ⟨gb, 21, none⟩ = some (.slice none 0 0) := HB.out.bag.cellAt 21 (by decide)))
      | (go_at_call 60; ((with_reducible refine (flatn_Steps _).mono ?_); rintro e w1 ⟨rfl, hk1⟩; have HB2 := Lib.hid (HB.out.still (below_none hk1)); clear HB hk1; have HB := HB2; clear HB2; have hc : w1.cell? ⟨gb, 22, none⟩ = some (.slice none 0 0) := HB.out.bag.cellAt 22 (by decide)))
      | (go_at_call 61; ((with_reducible refine (flatn_Tales _).mono ?_); rintro e w1 ⟨rfl, hk1⟩; have HB2 := Lib.hid (HB.out.still (below_none hk1)); clear HB hk1; have HB := HB2; clear HB2)))
  go_ret
  exact ⟨rfl, HB.out.below⟩
end Go.Proofs.YtepkmgmooadbjaaGreat
end
section
/- storemankit.ApartLines: lists of parts that lie apart are told so. -/
namespace Go.Proofs.YtepkmgmooadbjaaGreat
open Go.ChangeShapes Go.WideShapes Go.ChangeAt Go.RowKit Go.Maps Go.Sort
set_option linter.unusedVariables false

theorem listOf_succ (k : Nat) (val : Nat → Value) : listOf (k + 1) val = listOf k val ++ [val k] := by simp [listOf, List.range_succ]
theorem bag_new (w : World) : OwnC (w.alloc (.cells (bagOf (.slice none 0 0)).toArray 70)) w.heap.size 70 23 (.slice (some ⟨w.heap.size, 0, none⟩) 1 1) 1 (bagOf (.slice none 0 0)) :=
  OwnC.of ⟨rfl, .inr ⟨w.heap.size, 1, _, rfl, Nat.le_refl _, heap_alloc_new w _, Nat.le_refl _, by decide, rfl, rfl⟩⟩

set_option maxRecDepth 100000 in
set_option maxHeartbeats 4000000 in
theorem apartl_any (K gi ci bi base B0 : Nat) (val : Nat → Value) (len : Nat → Nat) (X0 : Nat → List Value) (w : World) (hK1 : 0 < K) (hK : K ≤ 1000) (hlen : ∀ j, j < K → len j ≤ 1048576)
    (hO : OwnC w bi 22 1 (.slice (some ⟨gi, 0, none⟩) K ci) K (listOf K val)) (hF : Fam w base K val len X0) (hLone : Lone K val) (hB : B0 ≤ base) (hbw : base ≤ w.heap.size) :
    Calls Tryz.prog 15 #[.slice (some ⟨gi, 0, none⟩) K ci] w fun e w' => e = .returned (.bool true) ∧ Go.RowKit.Below B0 w w' := by
  have HF := Lib.hid hF
  have HO := Lib.hid hO
  clear hF hO
  go_enter Tryz.func15, Tryz.ntmps15
  go_wp2
  have hb0 : Go.RowKit.Below w.heap.size w (w.alloc (.cells (bagOf (.slice none 0 0)).toArray 70)) := (Below.refl _ _).alloc (Nat.le_refl _) _
  have hbag0 := bag_new w
  have HBAG := Lib.hid hbag0
  clear hbag0
  obtain ⟨gb, hgmE, hgle⟩ : ∃ gb, w.heap.size = gb ∧ w.heap.size ≤ gb := ⟨_, rfl, Nat.le_refl _⟩
  have hB0 : Hid (Go.RowKit.Below w.heap.size w (w.alloc (.cells (bagOf (.slice none 0 0)).toArray 70))) := Lib.hid hb0
  clear hb0
  rw [hgmE] at HBAG ⊢
  clear hgmE
  go_loopw [4] (fun i wr => ∃ (k : Nat) (vb : Value), k ≤ K ∧ i = .int .i64 k ∧ Hid (OwnC wr gb 70 23 (.slice (some ⟨gb, 0, none⟩) 1 1) 1 (bagOf vb)) ∧ Hid (OwnC wr gb 22 1 vb k (listOf k val)) ∧ Hid (Go.RowKit.Below w.heap.size w wr) ∧ gb < wr.heap.size) (fun i _ => K - (intOf i).toNat)
  case atStart => exact ⟨0, .slice none 0 0, Nat.zero_le _, rfl, HBAG, Lib.hid ⟨rfl, .inl ⟨rfl, rfl⟩⟩, hB0, (HBAG.out.lt gb rfl).2⟩
  case round =>
    clear HBAG hB0
    obtain ⟨k, vb, hk, rfl, HBAG, HV, HB, hgbl⟩ := hrel
    by_cases hlt : k < K
    · obtain ⟨Ak, ck, hvk, hk1, hk2, _⟩ := own_formC (HF.out k hlt)
      have hck : wr.cell? ⟨gi, k, none⟩ = some (val k) := ((HO.out.kept (below_none HB.out) (.inr (by simp [Value.ownBlock]))).cellAt k (by omega)).trans (listOf_get val hlt)
      rw [hvk] at hck
      have hgl := ((HO.out.kept (below_none HB.out) (.inr (by simp [Value.ownBlock]))).lt gi rfl).2
      have HVK := Lib.hid hvk
      clear hvk
      go_wp2_with (go_at_call 28; ((with_reducible refine (putl_any gb gb gb k w.heap.size vb Ak (len k) ck (listOf k val) _ HBAG.out HV.out (by omega) hgle hgle (by omega)).mono ?_); rintro e w1 ⟨rfl, v', h1, h2, h3⟩; have H1 := Lib.hid h1; have H2 := Lib.hid h2; have H3 := Lib.hid h3; clear h1 h2 h3))
      have h2 := H2.out
      rw [← HVK.out, ← listOf_succ] at h2
      have H2' := Lib.hid h2
      have HB' := Lib.hid (HB.out.trans H3.out)
      have hs := (H1.out.lt gb rfl).2
      clear h2 H2 H3 HB
      go_roundw
      case rel => exact ⟨k + 1, _, by omega, by go_num, H1, H2', HB', hs⟩
      case measure => simp [intOf]; omega
    · obtain rfl : k = K := by omega
      obtain ⟨go, co, rfl, _, _, _, _⟩ := own_some HV.out hK1
      have hin : BagIn wr w B0 gb gb base k go co val len X0 := ⟨HBAG.out, HV.out, HF.out.keep (below_none HB.out), (Kept2.refl (by omega)).still (below_none HB.out), hbw, hB, HB.out.size⟩
      have HIN := Lib.hid hin
      clear hin
      go_wp2_with (go_at_call 29; ((with_reducible refine (bapart_any w _ B0 gb gb base k go co val len X0 hK1 hK hlen HIN.out hLone hB).mono ?_); rintro e w1 ⟨rfl, hk1⟩))
      go_ret
      exact ⟨rfl, hk1⟩
end Go.Proofs.YtepkmgmooadbjaaGreat
end
