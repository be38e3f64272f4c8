/- storemankit.ApartBytes: lists of parts that lie apart are told so. -/
import Derived.Test.YtcdjefbeillfmaaGreatDoorBBag
namespace Go.Proofs.YtcdjefbeillfmaaGreatDoor
open Go.ChangeShapes Go.WideShapes Go.ChangeAt Go.RowKit Go.Sort
set_option linter.unusedVariables false
set_option maxRecDepth 100000

theorem listOf_succ (k : Nat) (val : Nat → Value) : listOf (k + 1) val = listOf k val ++ [val k] := by simp [listOf, List.range_succ]
theorem bag_new (w : World) : (w.alloc (.cells (bagOf (.slice none 0 0)).toArray 65)).ownsRow w.heap.size 65 23 (.slice (some ⟨w.heap.size, 0, none⟩) 1 1) 1 (bagOf (.slice none 0 0)) :=
  ⟨rfl, .inr ⟨w.heap.size, 1, _, rfl, Nat.le_refl _, heap_alloc_new w _, Nat.le_refl _, by decide, rfl, rfl⟩⟩

set_option maxHeartbeats 4000000 in
theorem apartb_any (K gi ci bi base B0 : Nat) (val : Nat → Value) (len : Nat → Nat) (X0 : Nat → List Value) (w : World) (hK1 : 0 < K) (hK : K ≤ 1000) (hlen : ∀ j, j < K → len j ≤ 1048576)
    (hO : w.ownsRow bi 22 1 (.slice (some ⟨gi, 0, none⟩) K ci) K (listOf K val)) (hF : Fam w base K val len X0) (hLone : Lone K val) (hB : B0 ≤ base) (hbw : base ≤ w.heap.size) :
    Calls Tryz.prog 11 #[.slice (some ⟨gi, 0, none⟩) K ci] w fun e w' => e = .returned (.bool true) ∧ Go.RowKit.Below B0 w w' := by
  have HF := Lib.hid hF
  have HO := Lib.hid hO
  clear hF hO
  go_enter Tryz.func11, Tryz.ntmps11
  go_wp2
  have hb0 : Go.RowKit.Below w.heap.size w (w.alloc (.cells (bagOf (.slice none 0 0)).toArray 65)) := (Below.refl _ _).alloc (Nat.le_refl _) _
  have hbag0 := bag_new w
  have HBAG := Lib.hid hbag0
  clear hbag0
  obtain ⟨gb, hgmE, hgle⟩ : ∃ gb, w.heap.size = gb ∧ w.heap.size ≤ gb := ⟨_, rfl, Nat.le_refl _⟩
  have hB0 : Hid (Go.RowKit.Below w.heap.size w (w.alloc (.cells (bagOf (.slice none 0 0)).toArray 65))) := Lib.hid hb0
  clear hb0
  rw [hgmE] at HBAG ⊢
  clear hgmE
  go_loopw [4] (fun i wr => ∃ (k : Nat) (vb : Value), k ≤ K ∧ i = .int .i64 k ∧ Hid (wr.ownsRow gb 65 23 (.slice (some ⟨gb, 0, none⟩) 1 1) 1 (bagOf vb)) ∧ Hid (wr.ownsRow gb 22 1 vb k (listOf k val)) ∧ Hid (Go.RowKit.Below w.heap.size w wr) ∧ gb < wr.heap.size) (fun i _ => K - (intOf i).toNat)
  case atStart => exact ⟨0, .slice none 0 0, Nat.zero_le _, rfl, HBAG, Lib.hid ⟨rfl, .inl ⟨rfl, rfl⟩⟩, hB0, (HBAG.out.lt gb rfl).2⟩
  case round =>
    clear HBAG hB0
    obtain ⟨k, vb, hk, rfl, HBAG, HV, HB, hgbl⟩ := hrel
    by_cases hlt : k < K
    · obtain ⟨Ak, ck, hvk, hk1, hk2, _⟩ := own_form (HF.out k hlt)
      have hck : wr.cell? ⟨gi, k, none⟩ = some (val k) := ((HO.out.kept (below_none HB.out) (.inr (by simp [Value.ownBlock]))).cellAt k (by omega)).trans (listOf_get val hlt)
      rw [hvk] at hck
      have hgl := ((HO.out.kept (below_none HB.out) (.inr (by simp [Value.ownBlock]))).lt gi rfl).2
      have HVK := Lib.hid hvk
      clear hvk
      go_wp2_with (go_at_call 23; ((with_reducible refine (putb_any gb gb gb k w.heap.size vb Ak (len k) ck (listOf k val) _ HBAG.out HV.out (by omega) hgle hgle (by omega)).mono ?_); rintro e w1 ⟨rfl, v', h1, h2, h3⟩; have H1 := Lib.hid h1; have H2 := Lib.hid h2; have H3 := Lib.hid h3; clear h1 h2 h3))
      have h2 := H2.out
      rw [← HVK.out, ← listOf_succ] at h2
      have H2' := Lib.hid h2
      have HB' := Lib.hid (HB.out.trans H3.out)
      have hs := (H1.out.lt gb rfl).2
      clear h2 H2 H3 HB
      go_roundw
      case rel => exact ⟨k + 1, _, by omega, by go_num, H1, H2', HB', hs⟩
      case measure => simp [intOf]; omega
    · obtain rfl : k = K := by omega
      obtain ⟨go, co, rfl, _, _, _, _⟩ := own_some HV.out hK1
      have hin : BagIn wr w B0 gb gb base k go co val len X0 := ⟨HBAG.out, HV.out, HF.out.keep (below_none HB.out), (Kept2.refl (by omega)).still (below_none HB.out), hbw, hB, HB.out.size⟩
      have HIN := Lib.hid hin
      clear hin
      go_wp2_with (go_at_call 24; ((with_reducible refine (bapartb_any w _ B0 gb gb base k go co val len X0 hK1 hK hlen HIN.out hLone hB).mono ?_); rintro e w1 ⟨rfl, hk1⟩))
      go_ret
      exact ⟨rfl, hk1⟩
end Go.Proofs.YtcdjefbeillfmaaGreatDoor
