/- storemankit.bag.apart: a bag of parts that lie apart. -/
import Derived.Test.YtcdjefbeillfmaaGreatDoorBFlat
import Derived.Test.YtcdjefbeillfmaaGreatDoorBFlatN
import Derived.Test.YtcdjefbeillfmaaGreatDoorBPut
namespace Go.Proofs.YtcdjefbeillfmaaGreatDoor
open Go.ChangeShapes Go.WideShapes Go.ChangeAt Go.RowKit Go.Sort
set_option linter.unusedVariables false
set_option maxRecDepth 100000

structure BagIn (wr w : World) (B0 bb gb base K go co : Nat) (val : Nat → Value) (len : Nat → Nat) (X0 : Nat → List Value) : Prop where
  bag : wr.ownsRow bb 65 23 (.slice (some ⟨gb, 0, none⟩) 1 1) 1 (bagOf (.slice (some ⟨go, 0, none⟩) K co))
  list : wr.ownsRow bb 22 1 (.slice (some ⟨go, 0, none⟩) K co) K (listOf K val)
  fam : Fam wr base K val len X0
  kept : Kept2 B0 w wr
  bhi : base ≤ w.heap.size
  blo : B0 ≤ base
  size : w.heap.size ≤ wr.heap.size
structure BagOut (wr w : World) (B0 bb gb K go co : Nat) : Prop where
  bag : wr.ownsRow bb 65 23 (.slice (some ⟨gb, 0, none⟩) 1 1) 1 (bagOf (.slice (some ⟨go, 0, none⟩) K co))
  below : Go.RowKit.Below B0 w wr
  size : B0 ≤ wr.heap.size
theorem BagIn.still {wr w w1 : World} {B0 bb gb base K go co : Nat} {val : Nat → Value} {len : Nat → Nat} {X0 : Nat → List Value} (h : BagIn wr w B0 bb gb base K go co val len X0) (hg : wr.grownBy w1 none) : BagIn w1 w B0 bb gb base K go co val len X0 :=
  ⟨h.bag.kept hg (.inr (by simp [Value.ownBlock])), h.list.kept hg (.inr (by simp [Value.ownBlock])), h.fam.keep hg, h.kept.still hg, h.bhi, h.blo, Nat.le_trans h.size hg.size⟩
theorem BagIn.after {wr w w1 : World} {B0 bb gb base K go co : Nat} {val : Nat → Value} {len : Nat → Nat} {X0 : Nat → List Value} (h : BagIn wr w B0 bb gb base K go co val len X0) (hk : Kept2 B0 wr w1) : BagOut w1 w B0 bb gb K go co :=
  ⟨hk.rows _ _ _ _ _ _ (by decide) (by decide) h.bag, h.kept.below.trans hk.below, by have := hk.size; have := h.size; have := h.bhi; have := h.blo; omega⟩
theorem BagOut.still {wr w w1 : World} {B0 bb gb K go co : Nat} (h : BagOut wr w B0 bb gb K go co) (hg : wr.grownBy w1 none) : BagOut w1 w B0 bb gb K go co :=
  ⟨h.bag.kept hg (.inr (by simp [Value.ownBlock])), h.below.grown hg h.size (fun j hj => by cases hj), Nat.le_trans h.size hg.size⟩

set_option maxHeartbeats 4000000 in
theorem bapartb_any (w0 w : World) (B0 bb gb base K go co : Nat) (val : Nat → Value) (len : Nat → Nat) (X0 : Nat → List Value) (hK1 : 0 < K) (hK : K ≤ 1000) (hlen : ∀ j, j < K → len j ≤ 1048576) (h : BagIn w w0 B0 bb gb base K go co val len X0) (hLone : Lone K val) (hB : B0 ≤ base) :
    Calls Tryz.prog 24 #[.pointer (some ⟨gb, 0, none⟩)] w fun e w' => e = .returned (.bool true) ∧ Go.RowKit.Below B0 w0 w' := by
  have HA := Lib.hid h
  have HLone := Lib.hid hLone
  have hc : w.cell? ⟨gb, 0, none⟩ = some (.slice none 0 0) := h.bag.cellAt 0 (by decide)
  clear h hLone
  go_enter Tryz.func24, Tryz.ntmps24
  go_wp2_with (first
      | (go_at_call 39; ((with_reducible refine (flatn_Words _).mono ?_); rintro e w1 ⟨rfl, hk1⟩; have HA2 := Lib.hid (HA.out.still (below_none hk1)); clear HA hk1; have HA := HA2; clear HA2; have hc : w1.cell? ⟨gb, 1, none⟩ = some (.slice none 0 0) := HA.out.bag.cellAt 1 (by decide)))
      | (go_at_call 40; ((with_reducible refine (flatn_Ints _).mono ?_); rintro e w1 ⟨rfl, hk1⟩; have HA2 := Lib.hid (HA.out.still (below_none hk1)); clear HA hk1; have HA := HA2; clear HA2; have hc : w1.cell? ⟨gb, 2, none⟩ = some (.slice none 0 0) := HA.out.bag.cellAt 2 (by decide)))
      | (go_at_call 41; ((with_reducible refine (flatn_Longs _).mono ?_); rintro e w1 ⟨rfl, hk1⟩; have HA2 := Lib.hid (HA.out.still (below_none hk1)); clear HA hk1; have HA := HA2; clear HA2; have hc : w1.cell? ⟨gb, 3, none⟩ = some (.slice none 0 0) := HA.out.bag.cellAt 3 (by decide)))
      | (go_at_call 42; ((with_reducible refine (flatn_Texts _).mono ?_); rintro e w1 ⟨rfl, hk1⟩; have HA2 := Lib.hid (HA.out.still (below_none hk1)); clear HA hk1; have HA := HA2; clear HA2; have hc : w1.cell? ⟨gb, 4, none⟩ = some (.slice (some ⟨go, 0, none⟩) K co) := HA.out.bag.cellAt 4 (by decide)))
      | (go_at_call 43; ((with_reducible refine (flatb_any K go co bb base B0 val len X0 _ hK1 hK hlen HA.out.list HA.out.fam HLone.out hB (by have := HA.out.size; have := HA.out.bhi; omega) (by have := HA.out.size; have := HA.out.bhi; omega)).mono ?_); rintro e w1 ⟨rfl, hk1⟩; have HB := Lib.hid (HA.out.after hk1); clear HA hk1; have hc : w1.cell? ⟨gb, 5, none⟩ = some (.slice none 0 0) := HB.out.bag.cellAt 5 (by decide)))
      | (go_at_call 44; ((with_reducible refine (flatn_Windows _).mono ?_); rintro e w1 ⟨rfl, hk1⟩; have HB2 := Lib.hid (HB.out.still (below_none hk1)); clear HB hk1; have HB := HB2; clear HB2; have hc : w1.cell? ⟨gb, 6, none⟩ = some (.slice none 0 0) := HB.out.bag.cellAt 6 (by decide)))
      | (go_at_call 45; ((with_reducible refine (flatn_Lots _).mono ?_); rintro e w1 ⟨rfl, hk1⟩; have HB2 := Lib.hid (HB.out.still (below_none hk1)); clear HB hk1; have HB := HB2; clear HB2; have hc : w1.cell? ⟨gb, 7, none⟩ = some (.slice none 0 0) := HB.out.bag.cellAt 7 (by decide)))
      | (go_at_call 46; ((with_reducible refine (flatn_Wants _).mono ?_); rintro e w1 ⟨rfl, hk1⟩; have HB2 := Lib.hid (HB.out.still (below_none hk1)); clear HB hk1; have HB := HB2; clear HB2; have hc : w1.cell? ⟨gb, 8, none⟩ = some (.slice none 0 0) := HB.out.bag.cellAt 8 (by decide)))
      | (go_at_call 47; ((with_reducible refine (flatn_Uses _).mono ?_); rintro e w1 ⟨rfl, hk1⟩; have HB2 := Lib.hid (HB.out.still (below_none hk1)); clear HB hk1; have HB := HB2; clear HB2; have hc : w1.cell? ⟨gb, 9, none⟩ = some (.slice none 0 0) := HB.out.bag.cellAt 9 (by decide)))
      | (go_at_call 48; ((with_reducible refine (flatn_Parts _).mono ?_); rintro e w1 ⟨rfl, hk1⟩; have HB2 := Lib.hid (HB.out.still (below_none hk1)); clear HB hk1; have HB := HB2; clear HB2; have hc : w1.cell? ⟨gb, 10, none⟩ = some (.slice none 0 0) := HB.out.bag.cellAt 10 (by decide)))
      | (go_at_call 49; ((with_reducible refine (flatn_Items _).mono ?_); rintro e w1 ⟨rfl, hk1⟩; have HB2 := Lib.hid (HB.out.still (below_none hk1)); clear HB hk1; have HB := HB2; clear HB2; have hc : w1.cell? ⟨gb, 11, none⟩ = some (.slice none 0 0) := HB.out.bag.cellAt 11 (by decide)))
      | (go_at_call 50; ((with_reducible refine (flatn_Lines _).mono ?_); rintro e w1 ⟨rfl, hk1⟩; have HB2 := Lib.hid (HB.out.still (below_none hk1)); clear HB hk1; have HB := HB2; clear HB2; have hc : w1.cell? ⟨gb, 12, none⟩ = some (.slice none 0 0) := HB.out.bag.cellAt 12 (by decide)))
      | (go_at_call 51; ((with_reducible refine (flatn_Asks _).mono ?_); rintro e w1 ⟨rfl, hk1⟩; have HB2 := Lib.hid (HB.out.still (below_none hk1)); clear HB hk1; have HB := HB2; clear HB2; have hc : w1.cell? ⟨gb, 13, none⟩ = some (.slice none 0 0) := HB.out.bag.cellAt 13 (by decide)))
      | (go_at_call 52; ((with_reducible refine (flatn_Tells _).mono ?_); rintro e w1 ⟨rfl, hk1⟩; have HB2 := Lib.hid (HB.out.still (below_none hk1)); clear HB hk1; have HB := HB2; clear HB2; have hc : w1.cell? ⟨gb, 14, none⟩ = some (.slice none 0 0) := HB.out.bag.cellAt 14 (by decide)))
      | (go_at_call 53; ((with_reducible refine (flatn_States _).mono ?_); rintro e w1 ⟨rfl, hk1⟩; have HB2 := Lib.hid (HB.out.still (below_none hk1)); clear HB hk1; have HB := HB2; clear HB2; have hc : w1.cell? ⟨gb, 15, none⟩ = some (.slice none 0 0) := HB.out.bag.cellAt 15 (by decide)))
      | (go_at_call 54; ((with_reducible refine (flatn_Rows _).mono ?_); rintro e w1 ⟨rfl, hk1⟩; have HB2 := Lib.hid (HB.out.still (below_none hk1)); clear HB hk1; have HB := HB2; clear HB2; have hc : w1.cell? ⟨gb, 16, none⟩ = some (.slice none 0 0) := HB.out.bag.cellAt 16 (by decide)))
      | (go_at_call 55; ((with_reducible refine (flatn_Turns _).mono ?_); rintro e w1 ⟨rfl, hk1⟩; have HB2 := Lib.hid (HB.out.still (below_none hk1)); clear HB hk1; have HB := HB2; clear HB2; have hc : w1.cell? ⟨gb, 17, none⟩ = some (.slice none 0 0) := HB.out.bag.cellAt 17 (by decide)))
      | (go_at_call 56; ((with_reducible refine (flatn_Fates _).mono ?_); rintro e w1 ⟨rfl, hk1⟩; have HB2 := Lib.hid (HB.out.still (below_none hk1)); clear HB hk1; have HB := HB2; clear HB2; have hc : w1.cell? ⟨gb, 18, none⟩ = some (.slice none 0 0) := HB.out.bag.cellAt 18 (by decide)))
      | (go_at_call 57; ((with_reducible refine (flatn_Dirties _).mono ?_); rintro e w1 ⟨rfl, hk1⟩; have HB2 := Lib.hid (HB.out.still (below_none hk1)); clear HB hk1; have HB := HB2; clear HB2; have hc : w1.cell? ⟨gb, 19, none⟩ = some (.slice none 0 0) := HB.out.bag.cellAt 19 (by decide)))
      | (go_at_call 58; ((with_reducible refine (flatn_Opens _).mono ?_); rintro e w1 ⟨rfl, hk1⟩; have HB2 := Lib.hid (HB.out.still (below_none hk1)); clear HB hk1; have HB := HB2; clear HB2; have hc : w1.cell? ⟨gb, 20, none⟩ = some (.slice none 0 0) := HB.out.bag.cellAt 20 (by decide)))
      | (go_at_call 59; ((with_reducible refine (flatn_Records _).mono ?_); rintro e w1 ⟨rfl, hk1⟩; have HB2 := Lib.hid (HB.out.still (below_none hk1)); clear HB hk1; have HB := HB2; clear HB2; have hc : w1.cell? ⟨gb, 21, none⟩ = some (.slice none 0 0) := HB.out.bag.cellAt 21 (by decide)))
      | (go_at_call 60; ((with_reducible refine (flatn_Steps _).mono ?_); rintro e w1 ⟨rfl, hk1⟩; have HB2 := Lib.hid (HB.out.still (below_none hk1)); clear HB hk1; have HB := HB2; clear HB2; have hc : w1.cell? ⟨gb, 22, none⟩ = some (.slice none 0 0) := HB.out.bag.cellAt 22 (by decide)))
      | (go_at_call 61; ((with_reducible refine (flatn_Tales _).mono ?_); rintro e w1 ⟨rfl, hk1⟩; have HB2 := Lib.hid (HB.out.still (below_none hk1)); clear HB hk1; have HB := HB2; clear HB2)))
  go_ret
  exact ⟨rfl, HB.out.below⟩
end Go.Proofs.YtcdjefbeillfmaaGreatDoor
