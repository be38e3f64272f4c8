/- The contracts of code.orNone, counted, Put and the reference's Put: a code's bytes. -/
import Derived.Test.YtcdjefbeillfmaaGreatDoorCRref
import Derived.Test.YtcdjefbeillfmaaGreatDoorCW
import Derived.Lib.AppendStr
import Derived.Laws.IdiomStrings
namespace Go.Proofs.YtcdjefbeillfmaaGreatDoor
open Go.ChangeShapes Go.WideShapes Go.ChangeAt Go.RowKit
set_option linter.unusedVariables false
set_option maxRecDepth 100000

theorem infoByte : (Tryz.prog.info? 5).map (fun i => (i.zero, i.size, i.bytes)) = some (some (.int .u8 0), 1, 1) := by kernel_rfl
theorem list_nil {s : ByteArray} (h : s.size = 0) : s = ⟨#[]⟩ := by
  obtain ⟨d⟩ := s
  have : d.size = 0 := h
  rw [Array.eq_empty_of_size_eq_zero this]
theorem list_some {s : ByteArray} (h : s.size ≠ 0) : s.data.toList ≠ [] := by
  intro e
  have := size_list s
  rw [e] at this
  simp at this
  omega
theorem str_eq (t : TypeId) (a b : ByteArray) (w : World) : (binOp .eql t (.string a) (.string b)).run Tryz.prog w = .ok (.bool (decide (a.data.toList = b.data.toList))) w := by
  have e : binOp .eql t (.string a) (.string b) = pure (.bool (a.toList == b.toList)) := by simp [binOp, Op.stringOp]
  rw [e, ByteArray.toList_eq, ByteArray.toList_eq]
  by_cases h : a.data.toList = b.data.toList <;> simp_all
theorem str_ne (t : TypeId) (a b : ByteArray) (w : World) : (binOp .neq t (.string a) (.string b)).run Tryz.prog w = .ok (.bool (!decide (a.data.toList = b.data.toList))) w := by
  have e : binOp .neq t (.string a) (.string b) = pure (.bool (!(a.toList == b.toList))) := by simp [binOp, Op.stringOp]
  rw [e, ByteArray.toList_eq, ByteArray.toList_eq]
  by_cases h : a.data.toList = b.data.toList <;> simp_all

theorem empty_no {s : ByteArray} (h : s.size ≠ 0) : s.toList.isEmpty = false := by
  rw [ByteArray.toList_eq]
  cases e : s.data.toList with
  | nil => exact absurd e (list_some h)
  | cons => rfl

theorem ornone_any (s : ByteArray) (w : World) : Calls Tryz.prog 21 #[.string s] w fun e w' => e = .returned (.bool (orNoneL s.data.toList)) ∧ Below w.heap.size w w' := by
  by_cases h : s.size = 0
  · obtain rfl := list_nil h
    go_enter Tryz.func21, Tryz.ntmps21
    go_wp2_with fail
    go_ret
    exact ⟨rfl, Below.refl _ _⟩
  · have hne := list_some h
    have hq := empty_no h
    have e : orNoneL s.data.toList = rightL s.data.toList := by simp [orNoneL, hne]
    have E := Lib.hid e
    clear h hne e
    go_enter Tryz.func21, Tryz.ntmps21
    go_wp2_with (go_at_call 15; ((with_reducible refine (right_any s _).mono ?_); rintro e w' ⟨rfl, hb⟩))
    go_ret
    exact ⟨ret_bool E.out.symm, hb⟩

/-- What Put and its like answer: a row of the call's own, or none. -/
def Bytes (l : List UInt8) (w : World) (e : Ending) (w' : World) : Prop :=
  ∃ v, e = .returned v ∧ w'.ownsRow w.heap.size 5 1 v l.length (bcells l) ∧ Below w.heap.size w w'

set_option maxHeartbeats 1000000 in
theorem counted_any (v : Value) (l : List UInt8) (w : World) (hv : BSl w w.heap.size v l) (hlen : l.length ≤ 12) :
    Calls Tryz.prog 25 #[v] w (Bytes (UInt8.ofNat l.length :: l) w) := by
  obtain ⟨i0, hi, hz0, hz1, hz2⟩ := info_parts infoByte
  obtain ⟨A, c, rfl, hc1, hc2, hcz, hl⟩ := hv
  have H1 := Lib.hid hi
  have H2 := Lib.hid hz0
  have H3 := Lib.hid hz1
  have H4 := Lib.hid hz2
  have hln : (l.length : Int) ≤ 12 := by omega
  clear hi hz0 hz1 hz2
  have hown := World.ownsRow_lit (base := w.heap.size) (e := 5) (size := 1) w #[.int .u8 (l.length : Int)] 1 (Nat.le_refl _) (by simp [maxLen]) rfl
  have hl2 := hl.below ((Below.refl w.heap.size w).alloc (Nat.le_refl _) (.cells #[.int .u8 (l.length : Int)] 5))
  have HOWN := Lib.hid hown
  have HL := Lib.hid hl2
  have HCZ := Lib.hid hcz
  clear hown hl2 hcz hl
  go_enter Tryz.func25, Tryz.ntmps25
  go_wp2_with (at_builtin; refine wpList_append_src _ rfl (.tmp 6) (.tmp 7) 22 rfl w.heap.size 5 i0 (.int .u8 0) 1 1 Tryz.underlying22 H1.out H2.out H3.out H4.out rfl (by decide) (.slice (some ⟨w.heap.size, 0, none⟩) 1 1) 1 _ rfl HOWN.out A l.length c (bcells l) rfl (by rw [bcells_len, Nat.mul_one]) HCZ.out (HL.out.mono (by simp)) (bcells_one l) (by unfold maxLen; omega) (by omega) (by simp) ?_; intro v' w1 hown1 hg1 hat1)
  have hb0 : Below w.heap.size w w1 := ((Below.refl w.heap.size w).alloc (Nat.le_refl _) (.cells #[.int .u8 (l.length : Int)] 5)).grown hg1 (by simp) (fun k hk => by
    have : w.heap.size = k := by simpa [Value.ownBlock] using hk
    omega)
  have hfin : w1.ownsRow w.heap.size 5 1 v' (UInt8.ofNat l.length :: l).length (bcells (UInt8.ofNat l.length :: l)) := by
    have e : bcells (UInt8.ofNat l.length :: l) = [.int .u8 (l.length : Int)] ++ bcells l := by
      simp only [bcells, List.map_cons, byV, List.singleton_append, List.cons.injEq, and_true]
      congr 1
      simp; omega
    rw [e, List.length_cons, Nat.add_comm]
    exact hown1
  have HF := Lib.hid hfin
  clear hown1 hg1 hat1 hfin
  go_ret
  exact ⟨_, rfl, HF.out, hb0⟩

/-- '[]byte(s)' of any text: what it makes lies. -/
theorem conv_bytes (w : World) (src dst e : TypeId) (s : ByteArray) (hs : Tryz.prog.underlying src = some .string) (hd : Tryz.prog.underlying dst = some (.slice e)) (he : Tryz.prog.underlying e = some (.int .u8)) (hm : s.size ≤ maxLen) :
    ∃ v w', (convert src dst (.string s)).run Tryz.prog w = .ok v w' ∧ BSl w' w'.heap.size v s.data.toList ∧ Below w.heap.size w w' := by
  refine ⟨_, _, run_bytes_of_string w src dst e s hs hd he, ?_, ((Below.refl _ w).drew).alloc (Nat.le_refl _) _⟩
  refine ⟨some ⟨w.heap.size, 0, none⟩, _, by rw [size_list], by rw [size_list]; exact grownCap_ge _ _ _ _, grownCap_le_maxLen _ _ _ _ hm, fun h => (by cases h), fun _ => ⟨_, rfl, by simp, fun j u hu => ?_⟩⟩
  rw [addr0]
  have hj : j < s.data.toList.length := by
    have := (List.getElem?_eq_some_iff.1 hu).1
    rwa [bcells_len] at this
  rw [cell_of_row _ w.heap.size j _ e _ (heap_alloc_new w.drew _)]
  rw [size_list] at hj
  rw [bytesRow, Array.getElem?_append_left (by simpa using hj)]
  rw [← hu, bcells]
  simp only [Array.getElem?_map, List.getElem?_map, Array.getElem?_toList]
  exact Eq.refl _

set_option maxHeartbeats 1000000 in
theorem put_any (s : ByteArray) (w : World) : Calls Tryz.prog 12 #[.string s] w (Bytes (putL s.data.toList) w) := by
  by_cases ho : orNoneL s.data.toList = true
  · have hlen := orNoneL_length ho
    have hput : putL s.data.toList = UInt8.ofNat s.data.toList.length :: s.data.toList := by rw [putL, if_pos ho]
    have hm : s.size ≤ maxLen := by rw [size_list] at hlen; unfold maxLen; omega
    have hor := fun W => ornone_any s W
    rw [ho] at hor
    have HOR := Lib.hid hor
    have HP := Lib.hid hput
    clear hput hor ho
    go_enter Tryz.func12, Tryz.ntmps12
    go_wp2_with (go_at_call 21; ((with_reducible refine (HOR.out _).mono ?_); rintro e w' ⟨rfl, hb⟩))
    obtain ⟨v1, w1, hcv, hbs, hb1⟩ := conv_bytes w' 9 22 5 s Tryz.underlying9 Tryz.underlying22 Tryz.underlying5 hm
    have hln : s.data.toList.length ≤ 12 := hlen
    go_wp2_with fail
    rw [hcv]
    go_wp2_with (go_at_call 25; ((with_reducible refine (counted_any v1 s.data.toList w1 hbs hln).mono ?_); rintro e w2 ⟨v2, rfl, hrow, hb2⟩))
    have hsz := hb.size
    have hsz1 := hb1.size
    have hrow2 : w2.ownsRow w.heap.size 5 1 v2 (putL s.data.toList).length (bcells (putL s.data.toList)) := by
      rw [HP.out]; exact own_base hrow (by omega)
    have hbb := (hb.trans (hb1.mono hb.size)).trans (hb2.mono (by omega))
    have HR := Lib.hid hrow2
    clear hrow hrow2 hbs hcv
    go_ret
    exact ⟨_, rfl, HR.out, hbb⟩
  · have ho : orNoneL s.data.toList = false := by simpa using ho
    have hput : putL s.data.toList = [] := by rw [putL, if_neg (by rw [ho]; simp)]
    have hor := fun W => ornone_any s W
    rw [ho] at hor
    have HOR := Lib.hid hor
    have HP := Lib.hid hput
    clear hput hor ho
    go_enter Tryz.func12, Tryz.ntmps12
    go_wp2_with (go_at_call 21; ((with_reducible refine (HOR.out _).mono ?_); rintro e w' ⟨rfl, hb⟩))
    go_ret
    refine ⟨_, rfl, ?_, hb⟩
    rw [HP.out]
    exact ⟨rfl, .inl ⟨rfl, rfl⟩⟩
end Go.Proofs.YtcdjefbeillfmaaGreatDoor
