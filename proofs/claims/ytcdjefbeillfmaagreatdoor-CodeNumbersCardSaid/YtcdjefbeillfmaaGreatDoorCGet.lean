/- The contract of the reference's Put. -/
import Derived.Test.YtcdjefbeillfmaaGreatDoorCSame
namespace Go.Proofs.YtcdjefbeillfmaaGreatDoor
open Go.ChangeShapes Go.WideShapes Go.ChangeAt Go.RowKit
set_option linter.unusedVariables false
set_option maxRecDepth 100000

theorem strCells_bytes (s : ByteArray) : Lib.strCells s = bcells s.data.toList := rfl

set_option maxHeartbeats 1000000 in
theorem rput_any (s : ByteArray) (w : World) (hs : s.size ≤ 140737488355328 - 1) : Calls Tryz.prog 27 #[.string s] w (Bytes (putL s.data.toList) w) := by
  obtain ⟨i0, hi, hz0, hz1, hz2⟩ := info_parts infoByte
  have H1 := Lib.hid hi
  have H2 := Lib.hid hz0
  have H3 := Lib.hid hz1
  have H4 := Lib.hid hz2
  clear hi hz0 hz1 hz2
  by_cases ho : orNoneL s.data.toList = true
  · have hlen : s.size ≤ 12 := by have := orNoneL_length ho; rwa [size_list] at this
    have hown := World.ownsRow_lit (base := w.heap.size) (e := 5) (size := 1) w #[.int .u8 (s.size : Int)] 1 (Nat.le_refl _) (by simp [maxLen]) rfl
    have hput : putL s.data.toList = UInt8.ofNat s.size :: s.data.toList := by rw [putL, if_pos ho, size_list]
    have HOWN := Lib.hid hown
    have HP := Lib.hid hput
    clear hown hput
    have fin : ∀ (v' : Value) (w1 : World), w1.ownsRow w.heap.size 5 1 v' (1 + s.size) ([.int .u8 (s.size : Int)] ++ Lib.strCells s) →
        (w.alloc (.cells #[.int .u8 (s.size : Int)] 5)).grownBy w1 (some w.heap.size) → Bytes (putL s.data.toList) w (.returned v') w1 := by
      intro v' w1 h1 h2
      refine ⟨v', rfl, ?_, ((Below.refl w.heap.size w).alloc (Nat.le_refl _) _).grown h2 (by simp) (fun k hk => by injection hk with hk; omega)⟩
      have e : bcells (putL s.data.toList) = [.int .u8 (s.size : Int)] ++ Lib.strCells s := by
        rw [HP.out, strCells_bytes]
        simp only [bcells, List.map_cons, byV, List.singleton_append, List.cons.injEq, and_true]
        congr 1
        simp; omega
      have e2 : (putL s.data.toList).length = 1 + s.size := by rw [HP.out, List.length_cons, size_list, Nat.add_comm]
      rw [e, e2]
      exact h1
    have FIN := Lib.hid fin
    clear fin
    by_cases h : s.size = 0
    · obtain rfl := list_nil h
      clear h ho
      go_enter Tryz.func27, Tryz.ntmps27
      go_wp2_with (at_builtin; refine Lib.wpList_append_own_string _ rfl (.tmp 13) (.tmp 14) 22 9 rfl w.heap.size 5 i0 Tryz.underlying22 Tryz.underlying9 H1.out H2.out H3.out H4.out (.slice (some ⟨w.heap.size, 0, none⟩) 1 1) 1 _ rfl HOWN.out ⟨#[]⟩ rfl (by unfold maxLen; simp [ByteArray.size]) (by simp [ByteArray.size]) (by simp) ?_; intro v' w1 hown1 hg1 hat1)
      have hf := FIN.out v' w1 hown1 hg1
      have HF := Lib.hid hf
      clear hf hown1 hg1 hat1
      go_ret
      exact HF.out
    · have hq := empty_no h
      have hr : rightL s.data.toList = true := by simpa [orNoneL, list_some h] using ho
      have hrr := fun W => rright_any s W
      rw [hr] at hrr
      have HR := Lib.hid hrr
      have HZ := Lib.hid h
      have hln : (s.size : Int) ≤ 12 := by omega
      clear hr hrr ho h
      go_enter Tryz.func27, Tryz.ntmps27
      go_wp2_with (first
        | (go_at_call 22; ((with_reducible refine (HR.out _).mono ?_); rintro e w' ⟨rfl, rfl⟩))
        | (at_builtin; refine Lib.wpList_append_own_string _ rfl (.tmp 13) (.tmp 14) 22 9 rfl w.heap.size 5 i0 Tryz.underlying22 Tryz.underlying9 H1.out H2.out H3.out H4.out (.slice (some ⟨w.heap.size, 0, none⟩) 1 1) 1 _ rfl HOWN.out s rfl (by unfold maxLen; omega) (by omega) (by simp) ?_; intro v' w1 hown1 hg1 hat1))
      have hf := FIN.out v' w1 hown1 hg1
      have HF := Lib.hid hf
      clear hf hown1 hg1 hat1
      go_ret
      exact HF.out
  · have hq := empty_no (s := s) (fun h => ho (by obtain rfl := list_nil h; rfl))
    have hr : rightL s.data.toList = false := by
      cases e : rightL s.data.toList with
      | false => rfl
      | true => exact absurd (by simp [orNoneL, e]) ho
    have hput : putL s.data.toList = [] := by rw [putL, if_neg ho]
    have hrr := fun W => rright_any s W
    rw [hr] at hrr
    have HR := Lib.hid hrr
    have HP := Lib.hid hput
    clear hr hrr ho hput
    go_enter Tryz.func27, Tryz.ntmps27
    go_wp2_with (go_at_call 22; ((with_reducible refine (HR.out _).mono ?_); rintro e w' ⟨rfl, rfl⟩))
    go_ret
    refine ⟨_, rfl, ?_, Below.refl _ _⟩
    rw [HP.out]
    exact ⟨rfl, .inl ⟨rfl, rfl⟩⟩

end Go.Proofs.YtcdjefbeillfmaaGreatDoor
