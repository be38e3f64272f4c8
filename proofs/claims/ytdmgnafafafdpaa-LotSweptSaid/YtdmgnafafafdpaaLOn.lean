/- lot.On: how much there is on a day. -/
import Derived.Test.YtdmgnafafafdpaaLOps
namespace Go.Proofs.Ytdmgnafafafdpaa
open Go.ChangeShapes Go.WideShapes Go.ChangeAt Go.RowKit Go.Shelf
set_option linter.unusedVariables false

def sumQ : List Lt → Int
  | [] => 0
  | x :: l => x.qty + sumQ l
theorem sumQ_append : ∀ l m : List Lt, sumQ (l ++ m) = sumQ l + sumQ m
  | [], m => by simp [sumQ]
  | x :: l, m => by simp only [List.cons_append, sumQ, sumQ_append l m]; omega
def onSum (day : Int) (l : List Lt) : Int := sumQ (l.filter (onB day))
theorem onB_qty {day : Int} {x : Lt} (h : onB day x = true) : 1 ≤ x.qty ∧ x.qty ≤ 1073741824 := by
  unfold onB lrightB qtyB at h
  simp at h
  omega
theorem sumQ_take : ∀ (l : List Lt) (k : Nat), (∀ x ∈ l, 1 ≤ x.qty ∧ x.qty ≤ 1073741824) → 0 ≤ sumQ (l.take k) ∧ sumQ (l.take k) ≤ 1073741824 * k
  | l, 0, _ => by simp [sumQ]
  | [], k + 1, _ => by simp [sumQ]; omega
  | x :: l, k + 1, h => by
    have h1 := h x (by simp)
    have h2 := sumQ_take l k (fun y hy => h y (by simp [hy]))
    simp only [List.take_succ_cons, sumQ]
    omega
theorem ret_long {a b : Int} (h : a = b) : Ending.returned (.int .i64 a) = .returned (.int .i64 b) := by rw [h]

set_option maxHeartbeats 2000000 in
theorem onSum_any (day : Int) (v : Value) (l : List Lt) (w : World) (hlen : l.length ≤ 1048576) (hv : LSl w w.heap.size v l) :
    Calls Try.prog 16 #[v, .int .i64 day] w fun e w' => e = .returned (.int .i64 (onSum day l)) ∧ Below w.heap.size w w' := by
  have hk := keep_any 30 #[.pointer (some ⟨w.heap.size, 0, none⟩)] (enters_of Try.func30 (by kernel_rfl) rfl) (onB day) v l w.heap.size (w.alloc (.cells #[.int .i64 day] 3)) (by simp) (by omega) (hv.alloc_ (Nat.le_refl _) _)
    (on_gives day w.heap.size _ (Boxed.new w 3 (.int .i64 day)).cell)
  have HK := Lib.hid hk
  have hfl : ∀ x ∈ l.filter (onB day), 1 ≤ x.qty ∧ x.qty ≤ 1073741824 := fun x hx => onB_qty (List.mem_filter.1 hx).2
  have hln : (l.filter (onB day)).length ≤ 1048576 := Nat.le_trans (List.length_filter_le _ _) hlen
  have hgoal : onSum day l = sumQ (l.filter (onB day)) := rfl
  rw [hgoal]
  generalize l.filter (onB day) = fl at HK hfl hln ⊢
  have HF := Lib.hid hfl
  clear hk hv hlen hfl hgoal
  go_enter Try.func16, Try.ntmps16
  go_wp2_with (go_at_call 28; ((with_reducible refine HK.out.mono ?_); rintro e w1 ⟨v1, rfl, ho, hb⟩; obtain ⟨A1, c1, rfl, hn1, hn2, hn3⟩ := own_form ho; have HO := Lib.hid (LSl.own ho); have HB := Lib.hid hb; clear ho hb))
  go_loopw [6, 14] (fun s i wr => ∃ k : Nat, k ≤ fl.length ∧ i = .int .i64 k ∧ s = .int .i64 (sumQ (fl.take k)) ∧ Hid (Below w1.heap.size w1 wr)) (fun _ i _ => fl.length - (intOf i).toNat)
  case atStart => exact ⟨0, Nat.zero_le _, rfl, rfl, Lib.hid (Below.refl _ _)⟩
  case round =>
    obtain ⟨k, hk, rfl, rfl, HBr⟩ := hrel
    by_cases hlt : k < fl.length
    · obtain ⟨x, hx⟩ : ∃ x, fl[k]? = some x := ⟨_, List.getElem?_eq_getElem hlt⟩
      obtain ⟨A', c', hvv, _, _, _, hl1⟩ := HO.out.below HBr.out
      injection hvv with hA _ hC
      subst hA hC
      obtain ⟨ad, rfl, hab, hc0, hc1', hc2', hc3, hc4, hc5⟩ := hl1.six hx
      have hq := HF.out x (List.mem_of_getElem? hx)
      have hs := sumQ_take fl k HF.out
      have hst : Hid (sumQ (fl.take (k + 1)) = sumQ (fl.take k) + x.qty) := Lib.hid (by rw [List.take_add_one, hx, sumQ_append]; simp [sumQ])
      have HL1 := Lib.hid hl1
      have HX := Lib.hid hx
      clear hl1 hx
      generalize sumQ (fl.take k) = s at hs hst ⊢
      go_wp2
      go_roundw
      case rel => exact ⟨k + 1, by omega, by go_num, by rw [hst.out], Lib.hid (HBr.out.alloc HBr.out.size _)⟩
      case measure => simp [intOf]; omega
    · obtain rfl : k = fl.length := by omega
      go_wp2
      go_ret
      exact ⟨ret_long (by rw [List.take_length]), below_alloc2 _ (below_two HB.out HBr.out)⟩
end Go.Proofs.Ytdmgnafafafdpaa
