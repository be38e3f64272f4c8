/- The contract of strings.Repeat, laid. -/
import Derived.Test.YtcdjefbeillfmaaGreatDoorCRepL
import Derived.Test.YtcdjefbeillfmaaGreatDoorCW
namespace Go.Proofs.YtcdjefbeillfmaaGreatDoor
open Go.Shelf Go.RowKit
set_option linter.unusedVariables false

theorem rep_extra : Builder.Extra Tryz.prog Tryz.lays105_ren where
  sizeBuilder := by kernel_rfl
  liesBuilder := by kernel_rfl
  t5 := Tryz.lays105.t5
  a5 := Tryz.lays105.a5
  z5 := Tryz.lays105.z5
  v5 := Tryz.lays105.v5
  infoByte := by kernel_rfl
  cellsByte := by kernel_rfl
  sizeByte := by kernel_rfl
  neB5 := by decide
theorem rep_at : Tryz.lays105_ren.f 105 = 14 := by kernel_rfl

theorem rep_any (s : ByteArray) (c : Nat) (w : World) (hc : c ≤ 9223372036854775807) (hlen : s.size * c ≤ 140737488355328) :
    Calls Tryz.prog 14 #[.string s, .int .i64 c] w fun e w' => e = .returned (.string ⟨(Lib.repeatL s.data.toList c).toArray⟩) ∧ Below w.heap.size w w' := by
  have h := Any.strings_Repeat Tryz.lays105 rep_extra s c w hc hlen
  rw [rep_at] at h
  exact h
theorem rep_one (b : UInt8) (c : Nat) (w : World) (hc : c ≤ 1000) :
    Calls Tryz.prog 14 #[.string ⟨#[b]⟩, .int .i64 c] w fun e w' => e = .returned (.string ⟨(List.replicate c b).toArray⟩) ∧ Below w.heap.size w w' :=
  (rep_any ⟨#[b]⟩ c w (by omega) (by show 1 * c ≤ _; omega)).mono fun e w' ⟨he, hb⟩ => ⟨he.trans (by
    have h := Lib.repeatL_replicate b 1 c
    rw [Nat.mul_one] at h
    rw [← h]; rfl), hb⟩
end Go.Proofs.YtcdjefbeillfmaaGreatDoor
