/- storemankit.putBytes: one list more in the bag. -/
import Derived.Test.YtcdjefbeillfmaaGreatDoorBFlatH
namespace Go.Proofs.YtcdjefbeillfmaaGreatDoor
open Go.ChangeShapes Go.WideShapes Go.ChangeAt Go.RowKit Go.Sort
set_option linter.unusedVariables false
set_option maxRecDepth 100000

def bagOf (v : Value) : List Value := List.replicate 4 (.slice none 0 0) ++ [v] ++ List.replicate 18 (.slice none 0 0)
theorem bagOf_set (v u : Value) : (bagOf v).set 4 u = bagOf u := rfl
theorem infoSl2 : (Tryz.prog.info? 22).map (fun i => (i.zero, i.size, i.bytes)) = some (some (.slice none 0 0), 1, 24) := by kernel_rfl
theorem one_new_at (w : World) (t : TypeId) (u : Value) : ∀ j x, [u][j]? = some x → (w.alloc (.cells #[u] t)).cell? ((⟨w.heap.size, 0, none⟩ : Addr).add j) = some x := by
  intro j x hx
  rw [addr0]
  match j with
  | 0 =>
    simp only [List.getElem?_cons_zero, Option.some.injEq] at hx
    subst hx
    simp only [World.cell?, heap_alloc_new]
    rfl
  | k + 1 => simp at hx

theorem grew_kept {w w' : World} {base base' e1 s1 e size n m nn : Nat} {gv v' v : Value} {xs ys : List Value} (hgv : w.ownsRow base e1 s1 gv nn xs) (hO : w.ownsRow base' e size v n ys) (hne : e1 ≠ e) (hg : Grew w w' gv v' nn m) : w'.ownsRow base' e size v n ys := by
  rcases hg with ⟨g, cap, hv, _, hgr⟩ | ⟨cap, _, hgr⟩
  · exact hO.kept hgr (.inr (own_ne hgv hO hne (by rw [hv]; rfl)))
  · exact hO.kept hgr (by cases v.ownBlock <;> simp)
theorem grew_below {a w w' : World} {B base nn m e1 s1 : Nat} {gv v' : Value} {xs : List Value} (hb : Go.RowKit.Below B a w) (hgv : w.ownsRow base e1 s1 gv nn xs) (hB : B ≤ base) (hBw : B ≤ w.heap.size) (hg : Grew w w' gv v' nn m) : Go.RowKit.Below B a w' := by
  rcases hg with ⟨g, cap, hv, _, hgr⟩ | ⟨cap, _, hgr⟩
  · refine hb.grown hgr hBw (fun k hk => ?_)
    cases hk
    have := (hgv.lt g (by rw [hv]; rfl)).1
    omega
  · exact hb.grown hgr hBw (fun k hk => by cases hk)

set_option maxHeartbeats 4000000 in
theorem putb_any (bb gb bv n B : Nat) (v : Value) (Al : Option Addr) (nl cl : Nat) (xs : List Value) (w : World) (hbag : w.ownsRow bb 65 23 (.slice (some ⟨gb, 0, none⟩) 1 1) 1 (bagOf v)) (hv : w.ownsRow bv 22 1 v n xs)
    (hn : n ≤ 1000) (hB1 : B ≤ bb) (hB2 : B ≤ bv) (hB3 : bv ≤ w.heap.size) :
    Calls Tryz.prog 23 #[.pointer (some ⟨gb, 0, none⟩), .slice Al nl cl] w fun e w' => e = .returned (.tuple #[]) ∧ ∃ v', w'.ownsRow bb 65 23 (.slice (some ⟨gb, 0, none⟩) 1 1) 1 (bagOf v') ∧ w'.ownsRow bv 22 1 v' (n + 1) (xs ++ [.slice Al nl cl]) ∧ Go.RowKit.Below B w w' := by
  obtain ⟨i1, hi1, hy0, hy1, hy2⟩ := info_parts infoSl2
  have I1 := Lib.hid hi1
  have I2 := Lib.hid hy0
  have I3 := Lib.hid hy1
  have I4 := Lib.hid hy2
  clear hi1 hy0 hy1 hy2
  obtain ⟨A, c, rfl, hc1, hc2, _⟩ := own_form hv
  have hc9 : w.cell? ⟨gb, 4, none⟩ = some (.slice A n c) := hbag.cellAt 4 (by decide)
  have hf9 := hbag.frozenAt 4
  have hgb := (hbag.lt gb rfl).2
  go_enter Tryz.func23, Tryz.ntmps23
  go_wp2_with (at_builtin; refine wpList_append_two _ rfl (.tmp 8) (.tmp 10) 31 rfl bv 22 i1 _ 1 24 Tryz.underlying31 I1.out I2.out I3.out I4.out rfl (by decide) _ n _ rfl (hv.alloc _) ⟨w.heap.size, 0, none⟩ 1 1 [.slice Al nl cl] rfl rfl (one_new_at _ _ _) (fun u hu => by simp at hu; subst hu; rfl) (by omega) (by unfold maxLen; omega) (by omega) (by simp only [World.size_alloc]; omega) ?_; intro v3 w3 hown3 hgrew3; obtain ⟨gg3, cg3, rfl, _, hggl3, _, _⟩ := own_some hown3 (by omega); have hb3 := grew_kept (hv.alloc _) (hbag.alloc _) (by decide) hgrew3.out; have hcb3 := hb3.cellAt 4 (by decide); have hfb3 := hb3.frozenAt 4; have hgb3 := (hb3.lt gb rfl).2)
  go_end0
  have hst := hb3.stored 4 (.slice (some ⟨gg3, 0, none⟩) (n + 1) cg3)
  refine ⟨rfl, _, by have := hst.1; rw [bagOf_set] at this; exact this, hown3.kept hst.2 (.inr (own_ne hb3 hown3 (by decide) rfl)), ?_⟩
  exact (grew_below ((Below.refl B w).alloc (by omega) _) (hv.alloc _) hB2 (by simp only [World.size_alloc]; omega) hgrew3.out).setCell (p := ⟨gb, 4, none⟩) (by have := (hbag.lt gb rfl).1; show B ≤ gb; omega) _
end Go.Proofs.YtcdjefbeillfmaaGreatDoor
