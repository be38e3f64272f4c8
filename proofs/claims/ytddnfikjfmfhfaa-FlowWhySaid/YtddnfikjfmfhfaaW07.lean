/- (*flow.serving).take: a want takes of its item's shelf. Written by gen_ftake.py. -/
import Derived.Deep.QuietTactic
import Derived.BigQuiet
import Derived.Test.YtddnfikjfmfhfaaW05
import Derived.Test.YtddnfikjfmfhfaaW06
namespace Go.Proofs.Ytddnfikjfmfhfaa
open Go.ChangeShapes Go.WideShapes Go.ChangeAt Go.RowKit Go.Maps
set_option linter.unusedVariables false

theorem infoUse : (Try.prog.info? 44).map (fun i => (i.zero, i.size, i.bytes)) = some (some (.agg #[.int .i64 0, .int .i64 0, .int .i64 0]), 3, 24) := by kernel_rfl
/-- A want's three cells, in a block of its own. -/
def WantAt (w : World) (b : Nat) (x : Wt) : Prop := w.cell? ⟨b, 0, none⟩ = some (.string ⟨x.item.toArray⟩) ∧ w.cell? ⟨b, 1, none⟩ = some (.int .i64 x.day) ∧ w.cell? ⟨b, 2, none⟩ = some (.int .i64 x.qty)
theorem WantAt.kept {w w' : World} {b : Nat} {x : Wt} (h : WantAt w b x) (hk : ∀ o, w'.cell? ⟨b, o, none⟩ = w.cell? ⟨b, o, none⟩) : WantAt w' b x := by
  obtain ⟨h0, h1, h2⟩ := h
  exact ⟨(hk 0).trans h0, (hk 1).trans h1, (hk 2).trans h2⟩
theorem wantAt_new (w : World) (x : Wt) : WantAt (w.alloc (.cells #[.string ⟨x.item.toArray⟩, .int .i64 x.day, .int .i64 x.qty] 47)) w.heap.size x := by
  have h := fresh_cell w #[.string ⟨x.item.toArray⟩, .int .i64 x.day, .int .i64 x.qty] 47
  have g : ∀ j, (w.alloc (.cells #[.string ⟨x.item.toArray⟩, .int .i64 x.day, .int .i64 x.qty] 47)).cell? ⟨w.heap.size, j, none⟩ = (#[Value.string ⟨x.item.toArray⟩, .int .i64 x.day, .int .i64 x.qty])[j]? := fun j => by have := h j; rwa [addr0] at this
  exact ⟨g 0, g 1, g 2⟩
/-- Lots on a shelf: each a lot that is told of, with something left. -/
def OnShelf (q : Int → Int) (S : Int → Prop) (l : List Lt) : Prop := ∀ x ∈ l, x.Fits ∧ S x.id ∧ 0 < q x.id ∧ q x.id ≤ 1073741824
theorem onShelf_bmp {q : Int → Int} {S : Int → Prop} {A r : List Lt} {x : Lt} {t : Int} (h : OnShelf q S (A ++ x :: r)) (hn : ((A ++ x :: r).map Lt.id).Nodup) (h0 : 0 ≤ t) : OnShelf (Fl.bmp q x.id (-t)) S (A ++ r) := fun y hy => by
  have hym : y ∈ A ++ x :: r := by rcases List.mem_append.1 hy with h | h <;> simp [h]
  have hne : y.id ≠ x.id := by
    rw [List.map_append, List.map_cons, List.nodup_append, List.nodup_cons] at hn
    intro e
    rcases List.mem_append.1 hy with h | h
    · exact hn.2.2 _ (List.mem_map_of_mem h) x.id (by simp) e
    · exact hn.2.1.1 (by rw [← e]; exact List.mem_map_of_mem h)
  rw [Fl.bmp_other _ _ _ _ hne]
  exact h y hym
theorem onShelf_some {q : Int → Int} {S : Int → Prop} {l : List Lt} {x : Lt} {t : Int} (h : OnShelf q S l) (hx : x ∈ l) (h0 : 0 ≤ t) (h1 : t < q x.id) : OnShelf (Fl.bmp q x.id (-t)) S l := fun y hy => by
  obtain ⟨a, b, c, d⟩ := h y hy
  obtain ⟨_, _, _, d'⟩ := h x hx
  refine ⟨a, b, ?_, ?_⟩
  · unfold Fl.bmp; split
    · rename_i e; rw [e]; omega
    · exact c
  · unfold Fl.bmp; split
    · rename_i e; rw [e]; omega
    · exact d
theorem RowAt.set_ {w : World} {b b' c : Nat} {x : Lt} {v : Value} (h : RowAt w b x) (hne : b' ≠ b) : RowAt (w.setCell ⟨b', c, none⟩ v) b x := h.kept (fun o => World.cell?_setCell_other _ _ _ _ (by intro e; simp only [Addr.mk.injEq] at e; omega))
theorem encU_new (w : World) (x : Us) : ∀ j u, (encU x)[j]? = some u → (w.alloc (.cells #[.int .i64 x.want, .int .i64 x.lot, .int .i64 x.qty] 44)).cell? ((⟨w.heap.size, 0, none⟩ : Addr).add j) = some u := fun j u h => by
  rw [fresh_cell]; simpa [encU] using h
section
variable {w w' : World} {bs bm bl base n nl : Nat} {sv : List UInt8 → Value} {sh : List UInt8 → List Lt} {it0 : List UInt8} {v : Value} {l : List Lt} {uv : Value} {q : Int → Int} {S : Int → Prop} {U : List Us}
theorem Mid.look' (h : Mid w bs bm bl base n nl sv sh it0 v l uv q S U) {x : Lt} (hS : S x.id) (hx : x.Fits) (k : Nat) : (Instr.lookup 54 (.map (some bl)) (.int .i64 x.id) false).run Try.prog (w.drewN k) = .ok (.int .i64 (q x.id)) (w.drewN k) :=
  (h.left.kept (draws_none w k) (by simp)).look ikeyed Try.underlying54 (zero64_run _) (ikey_of x.id hx.1 hx.2.1)
theorem Mid.look (h : Mid w bs bm bl base n nl sv sh it0 v l uv q S U) {x : Lt} (hx : x.Fits ∧ S x.id ∧ 0 < q x.id ∧ q x.id ≤ 1073741824) (k : Nat) : (Instr.lookup 54 (.map (some bl)) (.int .i64 x.id) false).run Try.prog (w.drewN k) = .ok (.int .i64 (q x.id)) (w.drewN k) := h.look' hx.2.1 hx.1 k
theorem Mid.usb (h : Mid w bs bm bl base n nl sv sh it0 v l uv q S U) : some bs ≠ uv.ownBlock := fun e => by have := (h.uses.lt bs e.symm).1; omega
theorem Fr.useRow {W0 W1 w : World} {uv0 : Value} (h : Fr W0 W1 bm bs uv0 uv) (hM : Mid w bs bm bl base n nl sv sh it0 v l uv q S U) {g : Nat} (hg : uv.ownBlock = some g) : bm ≤ g ∧ (g ≤ bs ∨ uv0.ownBlock = some g ∨ W0.heap.size ≤ g) := by
  have h1 := (hM.uses.lt g hg).1
  have := hM.o1; have := hM.o3; have := hM.o4
  exact ⟨by omega, .inr (h.home g hg)⟩
end
def lenV : Value → Nat
  | .slice _ n _ => n
  | _ => 0
theorem nodup_less {A r : List Lt} {x : Lt} (hn : ((A ++ x :: r).map Lt.id).Nodup) : ((A ++ r).map Lt.id).Nodup := by
  rw [List.map_append, List.map_cons, List.nodup_append, List.nodup_cons] at hn
  rw [List.map_append, List.nodup_append]
  exact ⟨hn.1, hn.2.1.2, fun a ha b hb => hn.2.2 a ha b (by simp [hb])⟩
theorem six_at {w : World} {base g cap : Nat} {l : List Lt} (h : w.ownsRow base 42 6 (.slice (some ⟨g, 0, none⟩) l.length cap) l.length (lcells l)) {k : Nat} {x : Lt} (hk : l[k]? = some x) : w.cell? ⟨g, k * 6, none⟩ = some (.int .i64 x.id) ∧ w.cell? ⟨g, k * 6 + 1, none⟩ = some (.string ⟨x.item.toArray⟩) ∧ w.cell? ⟨g, k * 6 + 2, none⟩ = some (.int .i64 x.fr) ∧ w.cell? ⟨g, k * 6 + 3, none⟩ = some (.int .i64 x.un) ∧ w.cell? ⟨g, k * 6 + 4, none⟩ = some (.int .i64 x.qty) ∧ w.cell? ⟨g, k * 6 + 5, none⟩ = some (.bool x.arr) := by
  have hlt := (List.getElem?_eq_some_iff.1 hk).1
  have g6 : ∀ c, c < 6 → w.cell? ⟨g, k * 6 + c, none⟩ = (encL x)[c]? := fun c hc => by rw [h.cellAt _ (by omega), lcells_get l k x hk c hc]
  exact ⟨g6 0 (by omega), g6 1 (by omega), g6 2 (by omega), g6 3 (by omega), g6 4 (by omega), g6 5 (by omega)⟩

theorem wpAnyH_put {κ : Type} [DecidableEq κ] {kl : κ → Lit} {P : Program} {md : Region.Mode} {ops : Array Oper} {Q : Exit → Act → World → Prop} {S : World → Prop} {fuel : Nat} {listed : Array Bool} {a : Act} {w : World} (i : Nat) (o : Oper) (hr : Region.ready md ops listed = [i]) (ho : ops[i]? = some o)
    (hg : o.guard = none) (m x v : Operand) (t : TypeId) (hop : o.op = Op.mapUpdate t m x v) (k e : TypeId) (L : KeyLits kl) (K : Keyed P k) (ht : P.underlying t = some (.map k e)) (z : Value) (b n : Nat) (f : κ → Value) (T : κ → Prop)
    (hm : a.eval m = .map (some b)) (hown : MapOf kl P k z w b n f T) (hn : n < maxLen) (key val : Value) (y : κ) (hx : a.eval x = key) (hv : a.eval v = val) (hkey : keyOf P k key = some (kl y))
    (hS : ∀ w', w.grownBy w' (some b) → S w')
    (hK : ∀ w', Hid (MapOf kl P k z w' b (n + 1) (updK f y val) (fun u => u = y ∨ T u)) → Hid (w.grownBy w' (some b)) → wpAnyH P md ops Q S fuel (listed.setIfInBounds i true) (a.put o.dst undef) w') :
    wpAnyH P md ops Q S (fuel + 1) listed a w := by
  refine wpAnyH_ready (rs := [i]) hr (by simp) ?_
  refine AllReadyH.cons ho (fun K' hK' => ?_) AllReadyH.nil
  refine step_put hg m x v t hop k e L K ht z b n f T hm hown hn key val y hx hv hkey ?_
  intro w' h1 h2
  exact hK'.out _ _ (hS w' h2) (fun _ => hK w' h1 h2)
theorem mil_lt : 1000000 < maxLen := by unfold maxLen; omega
/-- What take answers, and leaves. -/
def TakeTo (bs bm bl base n nl : Nat) (sv : List UInt8 → Value) (sh : List UInt8 → List Lt) (uv : Value) (q : Int → Int) (S : Int → Prop) (U : List Us) (p : Int) (wt : Wt) (w : World) (e : Ending) (w' : World) : Prop :=
  ∃ sv' uv', e = .returned (.bool (decide ((takeS p wt.day (sh wt.item) wt.qty q).2.1 = 0))) ∧
    (∀ it, Mid w' bs bm bl base (n + 1) nl sv' (updL sh wt.item (takeS p wt.day (sh wt.item) wt.qty q).2.2.2) it (sv' it) (updL sh wt.item (takeS p wt.day (sh wt.item) wt.qty q).2.2.2 it) uv' (takeS p wt.day (sh wt.item) wt.qty q).2.2.1 S (U ++ (takeS p wt.day (sh wt.item) wt.qty q).1)) ∧ Fr w w' bm bs uv uv'

set_option maxHeartbeats 16000000 in
set_option maxRecDepth 100000 in
theorem take_any (bs bm bl base n nl : Nat) (sv : List UInt8 → Value) (sh : List UInt8 → List Lt) (uv : Value) (q : Int → Int) (S : Int → Prop) (U : List Us) (p : Int) (wt : Wt) (w : World)
    (hM : Mid w bs bm bl base n nl sv sh wt.item (sv wt.item) (sh wt.item) uv q S U) (hon : OnShelf q S (sh wt.item)) (hnd : ((sh wt.item).map Lt.id).Nodup) (hlen : (sh wt.item).length ≤ 300) (hn : n ≤ 1000000) (hnl : nl ≤ 1000000) (hU : U.length ≤ 10000000)
    (hi : wt.item.length ≤ maxLen) (hq0 : 1 ≤ wt.qty) (hq1 : wt.qty ≤ 1125899906842624) (hp0 : 0 ≤ p) (hp1 : p ≤ 1000000) :
    Calls Try.prog 49 #[.pointer (some ⟨bs, 0, none⟩), .int .i64 p, aggW wt] w (TakeTo bs bm bl base n nl sv sh uv q S U p wt w) := by
  obtain ⟨i0, hi0, hz0, hz1, hz2⟩ := info_parts infoUse
  have H1 := Lib.hid hi0
  have H2 := Lib.hid hz0
  have H3 := Lib.hid hz1
  have H4 := Lib.hid hz2
  have hbsl := hM.o5
  have hbm : bm ≤ w.heap.size := by have := hM.o1; have := hM.o3; have := hM.o4; omega
  have huvb : uv.ownBlock ≠ some w.heap.size := fun e => by have := (hM.uses.lt _ e).2; omega
  obtain ⟨bw, hbw, hbwle⟩ : ∃ bw, w.heap.size = bw ∧ w.heap.size ≤ bw := ⟨_, rfl, Nat.le_refl _⟩
  obtain ⟨W0, hW0⟩ : ∃ W0, W0 = w.alloc (.cells #[.string ⟨wt.item.toArray⟩, .int .i64 wt.day, .int .i64 wt.qty] 47) := ⟨_, rfl⟩
  have HW0 : Hid (WantAt W0 bw wt) := Lib.hid (by rw [hW0, ← hbw]; exact wantAt_new w wt)
  have hbw0 : bw < W0.heap.size := by rw [hW0]; simp; omega
  have HM : Hid (Mid W0 bs bm bl base n nl sv sh wt.item (sv wt.item) (sh wt.item) uv q S U) := Lib.hid (by rw [hW0]; exact hM.alloc _)
  have HF0 : Hid (Fr w W0 bm bs uv uv) := Lib.hid (by rw [hW0]; exact (Fr.refl _ _ _ _).still (World.grownBy_alloc _ _ _) hbm)
  have HON := Lib.hid hon
  have HND := Lib.hid hnd
  have hbsw : bs < bw := by omega
  have hbmw : bm ≤ W0.heap.size := by have := HF0.out.below.size; omega
  have huvw : Hid (uv.ownBlock ≠ some bw) := Lib.hid (by rw [← hbw]; exact huvb)
  have hlook : ∀ k, (Instr.lookup 53 (.map (some bm)) (.string ⟨wt.item.toArray⟩) false).run Try.prog (W0.drewN k) = .ok (sv wt.item) (W0.drewN k) := fun k => by
    obtain ⟨S', hS⟩ := HM.out.map
    exact (hS.kept (draws_none W0 k) (by simp)).look skeyed Try.underlying53 (zeroSlice_run _) (skey_of wt.item hi)
  have HLK := Lib.hid hlook
  clear hon hnd hM hi0 hz0 hz1 hz2 huvb hlook
  go_enter Try.func49, Try.ntmps49
  go_wp2
  try rw [← hW0]
  try rw [hbw]
  clear hW0 hbw
  refine wp_region_held_drew (S := fun w' => WantAt w' bw wt ∧ w'.cell? ⟨bs, 0, none⟩ = some (.map (some bm)) ∧ (Instr.lookup 53 (.map (some bm)) (.string ⟨wt.item.toArray⟩) false).run Try.prog w' = .ok (sv wt.item) w') (by kernel_rfl) (⟨HW0.out, HM.out.c0, HLK.out 1⟩) (fun hS => ?_)
  refine wpAnyH_take (i := 0) (v := (.pointer (some ⟨bs, 0, none⟩))) rfl (by kernel_rfl) (by kernel_rfl) (by kernel_rfl) (fun _ _ _ h => h) (Or.inl ⟨by kernel_rfl, fun w' hS' => by go_simp⟩) hS ?_
  refine wpAnyH_take (i := 1) (v := (.pointer (some ⟨bs, 0, none⟩))) rfl (by kernel_rfl) (by kernel_rfl) (by kernel_rfl) (fun _ _ _ h => h) (Or.inl ⟨by kernel_rfl, fun w' hS' => by go_simp⟩) hS ?_
  refine wpAnyH_take (i := 2) (v := (.pointer (some ⟨bs, 0, none⟩))) rfl (by kernel_rfl) (by kernel_rfl) (by kernel_rfl) (fun _ _ _ h => h) (Or.inl ⟨by kernel_rfl, fun w' hS' => by go_simp⟩) hS ?_
  refine wpAnyH_take (i := 3) (v := (.map (some bm))) rfl (by kernel_rfl) (by kernel_rfl) (by kernel_rfl) (fun _ _ _ h => h) (Or.inl ⟨by kernel_rfl, fun w' hS' => by obtain ⟨⟨c0, c1, c2⟩, hm0, hlk⟩ := hS'; go_simp⟩) hS ?_
  refine wpAnyH_take (i := 4) (v := (.pointer (some ⟨bw, 0, none⟩))) rfl (by kernel_rfl) (by kernel_rfl) (by kernel_rfl) (fun _ _ _ h => h) (Or.inl ⟨by kernel_rfl, fun w' hS' => by go_simp⟩) hS ?_
  refine wpAnyH_take (i := 5) (v := (.string ⟨wt.item.toArray⟩)) rfl (by kernel_rfl) (by kernel_rfl) (by kernel_rfl) (fun _ _ _ h => h) (Or.inl ⟨by kernel_rfl, fun w' hS' => by obtain ⟨⟨c0, c1, c2⟩, hm0, hlk⟩ := hS'; go_simp⟩) hS ?_
  refine wpAnyH_take (i := 6) (v := (sv wt.item)) rfl (by kernel_rfl) (by kernel_rfl) (by kernel_rfl) (fun _ _ _ h => h) (Or.inl ⟨by kernel_rfl, fun w' hS' => by obtain ⟨⟨c0, c1, c2⟩, hm0, hlk⟩ := hS'; go_simp⟩) hS ?_
  refine wpAnyH_take (i := 7) (v := (.pointer (some ⟨bw, 2, none⟩))) rfl (by kernel_rfl) (by kernel_rfl) (by kernel_rfl) (fun _ _ _ h => h) (Or.inl ⟨by kernel_rfl, fun w' hS' => by go_simp⟩) hS ?_
  refine wpAnyH_take (i := 8) (v := (.int .i64 wt.qty)) rfl (by kernel_rfl) (by kernel_rfl) (by kernel_rfl) (fun _ _ _ h => h) (Or.inl ⟨by kernel_rfl, fun w' hS' => by obtain ⟨⟨c0, c1, c2⟩, hm0, hlk⟩ := hS'; go_simp⟩) hS ?_
  refine wpAnyH_take (i := 9) (v := (sv wt.item)) rfl (by kernel_rfl) (by kernel_rfl) (by kernel_rfl) (fun _ _ _ h => h) (Or.inl ⟨by kernel_rfl, fun w' hS' => by go_simp⟩) hS ?_
  refine wpAnyH_take (i := 10) (v := (.int .i64 wt.qty)) rfl (by kernel_rfl) (by kernel_rfl) (by kernel_rfl) (fun _ _ _ h => h) (Or.inl ⟨by kernel_rfl, fun w' hS' => by go_simp⟩) hS ?_
  refine wpAnyH_done (by kernel_rfl) ?_ _
  go_wp2
  have HMd : Hid (Mid W0.drew bs bm bl base n nl sv sh wt.item (sv wt.item) (sh wt.item) uv q S U) := Lib.hid (HM.out.drew 1)
  have HFd : Hid (Fr W0 W0.drew bm bs uv uv) := Lib.hid ((Fr.refl _ _ _ _).still (draws_none W0 1) hbmw)
  clear hS HLK
  go_loopw [7, 8, 9] (fun s nd a wr => ∃ (A B : List Lt) (n1 : Int) (q1 : Int → Int) (v1 uv1 : Value) (V : List Us), s = v1 ∧ nd = .int .i64 n1 ∧ a = .int .i64 (A.length : Int) ∧ Hid (Mid wr bs bm bl base n nl sv sh wt.item v1 (A ++ B) uv1 q1 S (U ++ V)) ∧ Hid (Fr W0 wr bm bs uv uv1) ∧
      Hid (Going p wt.day (sh wt.item) wt.qty q A B n1 q1 V) ∧ Hid (OnShelf q1 S (A ++ B)) ∧ Hid (((A ++ B).map Lt.id).Nodup) ∧ (A ++ B).length ≤ 300 ∧ 0 ≤ n1 ∧ n1 ≤ 1125899906842624 ∧ Hid (V.length + B.length ≤ 300 ∨ (n1 = 0 ∧ V.length ≤ 301)))
    (fun s nd a _ => (lenV s - (intOf a).toNat) + (intOf nd).toNat)
  case atStart => exact ⟨[], sh wt.item, wt.qty, q, sv wt.item, uv, [], rfl, rfl, rfl, Lib.hid (by simpa using HMd.out), HFd, Lib.hid (going_start _ _ _ _ _), HON, HND, by simpa using hlen, by omega, hq1, Lib.hid (.inl (by simpa using hlen))⟩
  case round =>
    clear HMd HFd
    obtain ⟨A, B, n1, q1, v1, uv1, V, rfl, rfl, rfl, HMr, HFr, HG, HO, HN, hl, hn0, hn1, HVL⟩ := hrel
    have hcur := HMr.out.cur
    by_cases hgo : 0 < n1 ∧ B ≠ []
    · obtain ⟨hpos, hBne⟩ := hgo
      obtain ⟨x, r, rfl⟩ : ∃ x r, B = x :: r := by cases B with | nil => exact absurd rfl hBne | cons x r => exact ⟨x, r, rfl⟩
      obtain ⟨g, cap, rfl, hgb, hgl, hgc, hgm⟩ := own_some hcur (by simp; omega)
      obtain ⟨h0, h1, h2, h3, h4, h5⟩ := six_at hcur (k := A.length) (x := x) (by simp)
      obtain ⟨N, hN⟩ : ∃ N, (A ++ x :: r).length = N := ⟨_, rfl⟩
      obtain ⟨k, hk⟩ : ∃ k, A.length = k := ⟨_, rfl⟩
      have hkN : k < N := by rw [← hN, ← hk]; simp
      have HNN := Lib.hid hN
      have HK := Lib.hid hk
      rw [hk] at h0 h1 h2 h3 h4 h5 ⊢
      rw [hN] at HMr hl hgc ⊢
      have HXF : Hid (x.Fits ∧ S x.id ∧ 0 < q1 x.id ∧ q1 x.id ≤ 1073741824) := Lib.hid (HO.out x (by simp))
      have hbwr : bw < wr.heap.size := Nat.lt_of_lt_of_le hbw0 HFr.out.below.size
      have hwi := (HFr.out.cell hbsw hbw0 huvw.out 1).trans HW0.out.2.1
      obtain ⟨bx, hbx, hbxle⟩ : ∃ bx, wr.heap.size = bx ∧ wr.heap.size ≤ bx := ⟨_, rfl, Nat.le_refl _⟩
      have hBX : Hid (RowAt (wr.alloc (.cells #[.int .i64 x.id, .string ⟨x.item.toArray⟩, .int .i64 x.fr, .int .i64 x.un, .int .i64 x.qty, .bool x.arr] 42)) bx x) := Lib.hid (by rw [← hbx]; exact rowAt_new wr x)
      obtain ⟨b, hb⟩ : ∃ b, hasB x.fr x.un wt.day = b := ⟨_, rfl⟩
      have HHB := Lib.hid hb
      have HUV : Hid ((U ++ V).length + 1 ≤ 20000000) := Lib.hid (by have := HVL.out; simp at this ⊢; omega)
      have HUBX : Hid (uv1.ownBlock ≠ some bx) := Lib.hid (fun e => by have := (HMr.out.uses.lt bx e).2; omega)
      have HBSX : Hid (bs < bx) := Lib.hid (by omega)
      have HBXE := Lib.hid hbx
      clear hN hk hb hcur hBne hbx
      cases b
      · go_wp2_with (go_at_call 28; ((with_reducible refine (has_b false x.fr x.un wt.day _ HHB.out).mono ?_); rintro e w2 ⟨rfl, hb2'⟩; have hb2 := Lib.hid hb2'; clear hb2'))
        have HM2 := Lib.hid ((HMr.out.alloc (.cells #[.int .i64 x.id, .string ⟨x.item.toArray⟩, .int .i64 x.fr, .int .i64 x.un, .int .i64 x.qty, .bool x.arr] 42)).still (below_none0 hb2.out))
        have HF2 := Lib.hid ((HFr.out.still (World.grownBy_alloc wr (.cells #[.int .i64 x.id, .string ⟨x.item.toArray⟩, .int .i64 x.fr, .int .i64 x.un, .int .i64 x.qty, .bool x.arr] 42) _) hbmw).still (below_none0 hb2.out) hbmw)
        have HG2 := Lib.hid (HG.out.skip hpos HHB.out)
        have hNk := Lib.hid (show A.length + (r.length + 1) = N by have := HNN.out; simp at this; omega)
        go_roundw
        case rel => exact ⟨A ++ [x], r, n1, q1, _, uv1, V, rfl, rfl, by rw [List.length_append, HK.out]; go_num, Lib.hid (by have := HM2.out; rw [List.append_assoc]; exact this), HF2, HG2, Lib.hid (by rw [List.append_assoc]; exact HO.out), Lib.hid (by rw [List.append_assoc]; exact HN.out), by rw [List.append_assoc]; have := HNN.out; simp at this ⊢; omega, hn0, hn1, Lib.hid (by have := HVL.out; simp at this ⊢; omega)⟩
        case measure => simp [lenV, intOf]; omega
      · go_wp2_with (go_at_call 28; ((with_reducible refine (has_b true x.fr x.un wt.day _ HHB.out).mono ?_); rintro e w2 ⟨rfl, hb2'⟩; have hb2 := Lib.hid hb2'; clear hb2'))
        have HM2 := Lib.hid ((HMr.out.alloc (.cells #[.int .i64 x.id, .string ⟨x.item.toArray⟩, .int .i64 x.fr, .int .i64 x.un, .int .i64 x.qty, .bool x.arr] 42)).still (below_none0 hb2.out))
        have HF2 := Lib.hid ((HFr.out.still (World.grownBy_alloc wr (.cells #[.int .i64 x.id, .string ⟨x.item.toArray⟩, .int .i64 x.fr, .int .i64 x.un, .int .i64 x.qty, .bool x.arr] 42) _) hbmw).still (below_none0 hb2.out) hbmw)
        have HLK2 : Hid (∀ k, (Instr.lookup 54 (.map (some bl)) (.int .i64 x.id) false).run Try.prog (w2.drewN k) = .ok (.int .i64 (q1 x.id)) (w2.drewN k)) := Lib.hid (fun k => HM2.out.look HXF.out k)
        obtain ⟨t, ht⟩ : ∃ t, min n1 (q1 x.id) = t := ⟨_, rfl⟩
        have HT := Lib.hid ht
        have hqx := HXF.out.2.2
        have ht1 : 1 ≤ t := by omega
        have ht2 : t ≤ n1 := by omega
        have ht3 : t ≤ q1 x.id := by omega
        have HMIN : Hid ((if q1 x.id < n1 then q1 x.id else n1) = t) := Lib.hid (by rw [← ht]; split <;> omega)
        have HSUB : Hid (IntKind.i64.wrap (q1 x.id - t) = q1 x.id - t) := Lib.hid (by rw [IntKind.wrap_i64]; omega)
        have HAR : Hid ((A ++ r).length = N - 1) := Lib.hid (by have := HNN.out; simp at this ⊢; omega)
        have HER : Hid ((A ++ x :: r).eraseIdx k = A ++ r) := Lib.hid (by rw [← HK.out, List.eraseIdx_append_of_length_le (Nat.le_refl _)]; simp)
        have HDEL : Hid (∀ W, W.ownsRow base 42 6 (.slice (some ⟨g, 0, none⟩) N cap) (A ++ x :: r).length (lcells (A ++ x :: r)) → Calls Try.prog 63 #[.slice (some ⟨g, 0, none⟩) N cap, .int .i64 k, .int .i64 ((k : Int) + 1)] W (DeletesTo base g cap (N - 1) k (A ++ x :: r) W)) := Lib.hid (fun W hW => by
          have h := delete_any base g cap k r.length (A ++ x :: r) W (by rw [← HK.out]; simp; omega) (by rw [HNN.out]; omega) (by rw [HNN.out] at hW; rw [show k + 1 + r.length = N by have := HNN.out; have := HK.out; simp at *; omega]; exact hW)
          rw [show k + 1 + r.length = N by have := HNN.out; have := HK.out; simp at *; omega, show k + r.length = N - 1 by have := HNN.out; have := HK.out; simp at *; omega] at h
          exact h)
        have hbx2 : bx < w2.heap.size := by have := hb2.out.size; have := HBXE.out; simp at *; omega
        have hBX2 : Hid (RowAt w2 bx x) := Lib.hid (hBX.out.grown (by have := HBXE.out; simp; omega) (below_none0 hb2.out) (by simp))
        rw [HBXE.out]
        clear ht HM HMr HFr hBX h0 h1 h2 h3 h4 h5 hwi hqx hbwr
        go_wp2_with fail
        refine wp_region_held_drew (S := fun w' => w'.cell? ⟨bs, 1, none⟩ = some (.map (some bl)) ∧ RowAt w' bx x ∧ (Instr.lookup 54 (.map (some bl)) (.int .i64 x.id) false).run Try.prog w' = .ok (.int .i64 (q1 x.id)) w') (by kernel_rfl) (⟨HM2.out.c1, hBX2.out, HLK2.out 1⟩) (fun hS => ?_)
        refine wpAnyH_take (i := 0) (v := (.int .i64 n1)) rfl (by kernel_rfl) (by kernel_rfl) (by kernel_rfl) (fun _ _ _ h => h) (Or.inl ⟨by kernel_rfl, fun w' hS' => by go_simp⟩) hS ?_
        refine wpAnyH_take (i := 1) (v := (.pointer (some ⟨bs, 0, none⟩))) rfl (by kernel_rfl) (by kernel_rfl) (by kernel_rfl) (fun _ _ _ h => h) (Or.inl ⟨by kernel_rfl, fun w' hS' => by go_simp⟩) hS ?_
        refine wpAnyH_take (i := 2) (v := (.pointer (some ⟨bs, 0, none⟩))) rfl (by kernel_rfl) (by kernel_rfl) (by kernel_rfl) (fun _ _ _ h => h) (Or.inl ⟨by kernel_rfl, fun w' hS' => by go_simp⟩) hS ?_
        refine wpAnyH_take (i := 3) (v := (.pointer (some ⟨bs, 1, none⟩))) rfl (by kernel_rfl) (by kernel_rfl) (by kernel_rfl) (fun _ _ _ h => h) (Or.inl ⟨by kernel_rfl, fun w' hS' => by go_simp⟩) hS ?_
        refine wpAnyH_take (i := 4) (v := (.map (some bl))) rfl (by kernel_rfl) (by kernel_rfl) (by kernel_rfl) (fun _ _ _ h => h) (Or.inl ⟨by kernel_rfl, fun w' hS' => by obtain ⟨hc1, ⟨c0, c1, c2, c3, c4, c5⟩, hlk⟩ := hS'; go_simp⟩) hS ?_
        refine wpAnyH_take (i := 5) (v := (.pointer (some ⟨bx, 0, none⟩))) rfl (by kernel_rfl) (by kernel_rfl) (by kernel_rfl) (fun _ _ _ h => h) (Or.inl ⟨by kernel_rfl, fun w' hS' => by go_simp⟩) hS ?_
        refine wpAnyH_take (i := 6) (v := (.int .i64 x.id)) rfl (by kernel_rfl) (by kernel_rfl) (by kernel_rfl) (fun _ _ _ h => h) (Or.inl ⟨by kernel_rfl, fun w' hS' => by obtain ⟨hc1, ⟨c0, c1, c2, c3, c4, c5⟩, hlk⟩ := hS'; go_simp⟩) hS ?_
        refine wpAnyH_take (i := 7) (v := (.int .i64 (q1 x.id))) rfl (by kernel_rfl) (by kernel_rfl) (by kernel_rfl) (fun _ _ _ h => h) (Or.inl ⟨by kernel_rfl, fun w' hS' => by obtain ⟨hc1, ⟨c0, c1, c2, c3, c4, c5⟩, hlk⟩ := hS'; go_simp⟩) hS ?_
        refine wpAnyH_take (i := 8) (v := (.int .i64 t)) rfl (by kernel_rfl) (by kernel_rfl) (by kernel_rfl) (fun _ _ _ h => h) (Or.inl ⟨by kernel_rfl, fun w' hS' => by have hmin := HMIN.out; go_simp; exact HT.out⟩) hS ?_
        refine wpAnyH_take (i := 9) (v := (.int .i64 t)) rfl (by kernel_rfl) (by kernel_rfl) (by kernel_rfl) (fun _ _ _ h => h) (Or.inl ⟨by kernel_rfl, fun w' hS' => by go_simp⟩) hS ?_
        refine wpAnyH_done (by kernel_rfl) ?_ _
        have HM3 : Hid (Mid w2.drew bs bm bl base n nl sv sh wt.item (.slice (some ⟨g, 0, none⟩) N cap) (A ++ x :: r) uv1 q1 S (U ++ V)) := Lib.hid (HM2.out.drew 1)
        have HF3 : Hid (Fr W0 w2.drew bm bs uv uv1) := Lib.hid (HF2.out.still (draws_none w2 1) hbmw)
        have hBX3 : Hid (RowAt w2.drew bx x) := Lib.hid hS.2.1
        have hbxW : bx < w2.drew.heap.size := by simpa using hbx2
        obtain ⟨W1, hW1⟩ : ∃ W1, W1 = w2.drew := ⟨_, rfl⟩
        rw [← hW1] at HM3 HF3 hBX3 hbxW ⊢
        have hc2 := HM3.out.c2
        have hbsW := HM3.out.o5
        have HM4 : Hid (Mid ((W1.drewN 1).alloc (.cells #[.int .i64 p, .int .i64 x.id, .int .i64 t] 44)) bs bm bl base n nl sv sh wt.item (.slice (some ⟨g, 0, none⟩) N cap) (A ++ x :: r) uv1 q1 S (U ++ V)) := Lib.hid ((HM3.out.drew 1).alloc _)
        have HNEW := Lib.hid (encU_new (W1.drewN 1) ⟨p, x.id, t⟩)
        obtain ⟨M, hML⟩ : ∃ M, (U ++ V).length + 1 = M := ⟨_, rfl⟩
        have HML := Lib.hid hML
        clear hML
        have HUX : Hid (uv1.ownBlock ≠ some bx) := Lib.hid HUBX.out
        have hbsx : bs < bx := HBSX.out
        clear hS HM2 HF2 hBX2 HLK2 hW1 hbx2
        go_wp2_with fail
        refine wp_region_held_drew (S := fun w' => RowAt w' bx x) (by kernel_rfl) (hBX3.out) (fun hS => ?_)
        refine wpAnyH_take (i := 0) (v := (.pointer (some ⟨bs, 0, none⟩))) rfl (by kernel_rfl) (by kernel_rfl) (by kernel_rfl) (fun _ _ _ h => h) (Or.inl ⟨by kernel_rfl, fun w' hS' => by go_simp⟩) hS ?_
        refine wpAnyH_take (i := 1) (v := (.pointer (some ⟨bs, 0, none⟩))) rfl (by kernel_rfl) (by kernel_rfl) (by kernel_rfl) (fun _ _ _ h => h) (Or.inl ⟨by kernel_rfl, fun w' hS' => by go_simp⟩) hS ?_
        refine wpAnyH_take (i := 2) (v := (.pointer (some ⟨bs, 0, none⟩))) rfl (by kernel_rfl) (by kernel_rfl) (by kernel_rfl) (fun _ _ _ h => h) (Or.inl ⟨by kernel_rfl, fun w' hS' => by go_simp⟩) hS ?_
        refine wpAnyH_take (i := 3) (v := (.pointer (some ⟨bs, 2, none⟩))) rfl (by kernel_rfl) (by kernel_rfl) (by kernel_rfl) (fun _ _ _ h => h) (Or.inl ⟨by kernel_rfl, fun w' hS' => by go_simp⟩) hS ?_
        refine wpAnyH_take (i := 5) (v := (.int .i64 p)) rfl (by kernel_rfl) (by kernel_rfl) (by kernel_rfl) (fun _ _ _ h => h) (Or.inl ⟨by kernel_rfl, fun w' hS' => by go_simp⟩) hS ?_
        refine wpAnyH_take (i := 6) (v := (.pointer (some ⟨bx, 0, none⟩))) rfl (by kernel_rfl) (by kernel_rfl) (by kernel_rfl) (fun _ _ _ h => h) (Or.inl ⟨by kernel_rfl, fun w' hS' => by go_simp⟩) hS ?_
        refine wpAnyH_take (i := 7) (v := (.int .i64 x.id)) rfl (by kernel_rfl) (by kernel_rfl) (by kernel_rfl) (fun _ _ _ h => h) (Or.inl ⟨by kernel_rfl, fun w' hS' => by obtain ⟨c0, c1, c2, c3, c4, c5⟩ := hS'; go_simp⟩) hS ?_
        refine wpAnyH_take (i := 8) (v := (.int .i64 t)) rfl (by kernel_rfl) (by kernel_rfl) (by kernel_rfl) (fun _ _ _ h => h) (Or.inl ⟨by kernel_rfl, fun w' hS' => by go_simp⟩) hS ?_
        refine wpAnyH_take (i := 9) (v := (.agg #[.int .i64 p, .int .i64 x.id, .int .i64 t])) rfl (by kernel_rfl) (by kernel_rfl) (by kernel_rfl) (fun _ _ _ h => h) (Or.inl ⟨by kernel_rfl, fun w' hS' => by go_simp⟩) hS ?_
        refine wpAnyH_ready (rs := [4, 10]) (by kernel_rfl) (by simp) ?_
        refine AllReadyH.cons rfl (fun K hK => ?_) (AllReadyH.cons rfl (fun K hK => ?_) AllReadyH.nil)
        · go_simp
          refine hK.out _ _ hS (fun hS => ?_)
          clear hK K
          refine wpAnyH_ready (rs := [10]) (by kernel_rfl) (by simp) ?_
          refine AllReadyH.cons rfl (fun K hK => ?_) AllReadyH.nil
          go_simp
          skip
          refine hK.out _ _ (hS.alloc_ hbxW _) (fun hS => ?_)
          clear hK K
          refine wpAnyH_ready (rs := [11]) (by kernel_rfl) (by simp) ?_
          refine AllReadyH.cons rfl (fun K hK => ?_) AllReadyH.nil
          refine step_append_two (by rfl) (.tmp 54) (.tmp 60) 28 (by rfl) (bs + 1) 44 i0 _ 3 24 Try.underlying28 H1.out H2.out H3.out H4.out rfl (by decide) uv1 (U ++ V).length _ (by rfl) HM4.out.uses ⟨W1.heap.size, 0, none⟩ 1 1 (encU ⟨p, x.id, t⟩) (by rfl) rfl HNEW.out (encU_one _) (by omega) (by have := HUV.out; unfold maxLen; omega) (by have := HUV.out; omega) (by have := HM3.out.o5; simp; omega) ?_
          intro uv2 w4 hown4' hgrew4
          rw [HML.out] at hown4'
          obtain ⟨g2, cap2, rfl, _, _, _, _⟩ := own_some hown4' (by have := HML.out; omega)
          have hown4 := Lib.hid hown4'
          clear hown4'
          have hz4 := hgrew4.out.row.size
          simp only [World.size_alloc, World.size_drew] at hz4
          have hc4 : w4.cell? ⟨bs, 2, none⟩ = some uv1 := (World.cell?_of_block (hgrew4.out.row.block bs HM4.out.o5 (HM4.out.usb))).trans HM4.out.c2
          have hf4 : w4.frozen? ⟨bs, 2, none⟩ = false := (World.frozen?_of_block (hgrew4.out.row.block bs HM4.out.o5 (HM4.out.usb))).trans HM4.out.f2
          refine hK.out _ _ (hS.grown (by simp; omega) hgrew4.out.row (fun e => HUX.out e.symm)) (fun hS => ?_)
          clear hK K
          refine wpAnyH_take (i := 12) (v := (.pointer (some ⟨bs, 0, none⟩))) rfl (by kernel_rfl) (by kernel_rfl) (by kernel_rfl) (fun _ _ _ h => h) (Or.inl ⟨by kernel_rfl, fun w' hS' => by go_simp⟩) hS ?_
          refine wpAnyH_take (i := 13) (v := (.pointer (some ⟨bs, 2, none⟩))) rfl (by kernel_rfl) (by kernel_rfl) (by kernel_rfl) (fun _ _ _ h => h) (Or.inl ⟨by kernel_rfl, fun w' hS' => by go_simp⟩) hS ?_
          refine wpAnyH_ready (rs := [14]) (by kernel_rfl) (by simp) ?_
          refine AllReadyH.cons rfl (fun K hK => ?_) AllReadyH.nil
          go_simp
          refine hK.out _ _ (hS.set_ (b' := bs) (by omega)) (fun hS => ?_)
          clear hK K
          refine wpAnyH_done (by kernel_rfl) ?_ _
          have HM5 : Hid (Mid (w4.setCell ⟨bs, 2, none⟩ (Value.slice (some ⟨g2, 0, none⟩) M cap2)) bs bm bl base n nl sv sh wt.item (.slice (some ⟨g, 0, none⟩) N cap) (A ++ x :: r) (Value.slice (some ⟨g2, 0, none⟩) M cap2) q1 S ((U ++ V) ++ [⟨p, x.id, t⟩])) := Lib.hid (HM4.out.used hgrew4.out.row (by rcases hgrew4.out.where_ with h | h; exact .inl h; exact .inr h) (by have h := hown4.out; rw [ucells_append, HML.out]; exact h))
          have HF5 : Hid (Fr W0 (w4.setCell ⟨bs, 2, none⟩ (Value.slice (some ⟨g2, 0, none⟩) M cap2)) bm bs uv (Value.slice (some ⟨g2, 0, none⟩) M cap2)) := Lib.hid (((((HF3.out.still (draws_none W1 1) hbmw).still (World.grownBy_alloc _ _ _) hbmw).step hgrew4.out.row hbmw (fun g' hg' => HF3.out.useRow HM4.out hg')).step (set_grown w4 ⟨bs, 2, none⟩ (Value.slice (some ⟨g2, 0, none⟩) M cap2)) hbmw (fun g' hg' => by cases hg'; exact ⟨by have := HM4.out.o1; have := HM4.out.o3; have := HM4.out.o4; show bm ≤ bs; omega, .inl (Nat.le_refl _)⟩)).uses (by rcases hgrew4.out.where_ with h | h; exact .inl h; exact .inr ⟨_, h, by have := HF3.out.below.size; simp; omega⟩))
          have hBX5 : Hid (RowAt (w4.setCell ⟨bs, 2, none⟩ (Value.slice (some ⟨g2, 0, none⟩) M cap2)) bx x) := Lib.hid hS
          have hz5 : bx < (w4.setCell ⟨bs, 2, none⟩ (Value.slice (some ⟨g2, 0, none⟩) M cap2)).heap.size := by simp; omega
          obtain ⟨W5, hW5⟩ : ∃ W5, W5 = w4.setCell ⟨bs, 2, none⟩ (Value.slice (some ⟨g2, 0, none⟩) M cap2) := ⟨_, rfl⟩
          rw [← hW5] at HM5 HF5 hBX5 hz5 ⊢
          clear hW5 hc4 hf4 hS hz4 HM4 HM3 HF3 hBX3 HNEW HUX hgrew4 hown4
          generalize (Value.slice (some ⟨g2, 0, none⟩) M cap2) = uv2 at HM5 HF5 ⊢
          go_wp2_with fail
          have HLK5 : Hid (∀ k, (Instr.lookup 54 (.map (some bl)) (.int .i64 x.id) false).run Try.prog (W5.drewN k) = .ok (.int .i64 (q1 x.id)) (W5.drewN k)) := Lib.hid (fun k => HM5.out.look HXF.out k)
          have hlk5 : (Instr.lookup 54 (.map (some bl)) (.int .i64 x.id) false).run Try.prog W5.drew = .ok (.int .i64 (q1 x.id)) W5.drew := HLK5.out 1
          refine wp_region_held_drew (S := fun w' => w'.cell? ⟨bs, 1, none⟩ = some (.map (some bl)) ∧ RowAt w' bx x) (by kernel_rfl) (⟨HM5.out.c1, hBX5.out⟩) (fun hS => ?_)
          refine wpAnyH_take (i := 0) (v := (.pointer (some ⟨bs, 0, none⟩))) rfl (by kernel_rfl) (by kernel_rfl) (by kernel_rfl) (fun _ _ _ h => h) (Or.inl ⟨by kernel_rfl, fun w' hS' => by go_simp⟩) hS ?_
          refine wpAnyH_take (i := 1) (v := (.pointer (some ⟨bs, 0, none⟩))) rfl (by kernel_rfl) (by kernel_rfl) (by kernel_rfl) (fun _ _ _ h => h) (Or.inl ⟨by kernel_rfl, fun w' hS' => by go_simp⟩) hS ?_
          refine wpAnyH_take (i := 2) (v := (.pointer (some ⟨bs, 1, none⟩))) rfl (by kernel_rfl) (by kernel_rfl) (by kernel_rfl) (fun _ _ _ h => h) (Or.inl ⟨by kernel_rfl, fun w' hS' => by go_simp⟩) hS ?_
          refine wpAnyH_take (i := 3) (v := (.map (some bl))) rfl (by kernel_rfl) (by kernel_rfl) (by kernel_rfl) (fun _ _ _ h => h) (Or.inl ⟨by kernel_rfl, fun w' hS' => by obtain ⟨hc1, c0, c1, c2, c3, c4, c5⟩ := hS'; go_simp⟩) hS ?_
          refine wpAnyH_take (i := 4) (v := (.pointer (some ⟨bx, 0, none⟩))) rfl (by kernel_rfl) (by kernel_rfl) (by kernel_rfl) (fun _ _ _ h => h) (Or.inl ⟨by kernel_rfl, fun w' hS' => by go_simp⟩) hS ?_
          refine wpAnyH_take (i := 5) (v := (.int .i64 x.id)) rfl (by kernel_rfl) (by kernel_rfl) (by kernel_rfl) (fun _ _ _ h => h) (Or.inl ⟨by kernel_rfl, fun w' hS' => by obtain ⟨hc1, c0, c1, c2, c3, c4, c5⟩ := hS'; go_simp⟩) hS ?_
          refine wpAnyH_take (i := 7) (v := (.int .i64 t)) rfl (by kernel_rfl) (by kernel_rfl) (by kernel_rfl) (fun _ _ _ h => h) (Or.inl ⟨by kernel_rfl, fun w' hS' => by go_simp⟩) hS ?_
          refine wpAnyH_ready (rs := [6]) (by kernel_rfl) (by simp) ?_
          refine AllReadyH.cons rfl (fun K hK => ?_) AllReadyH.nil
          go_simp
          clear hlk5
          refine hK.out _ _ (hS) (fun hS => ?_)
          clear hK K
          refine wpAnyH_take (i := 8) (v := (.int .i64 (q1 x.id - t))) rfl (by kernel_rfl) (by kernel_rfl) (by kernel_rfl) (fun _ _ _ h => h) (Or.inl ⟨by kernel_rfl, fun w' hS' => by have hsub := HSUB.out; go_simp⟩) hS ?_
          refine wpAnyH_ready (rs := [9]) (by kernel_rfl) (by simp) ?_
          refine AllReadyH.cons rfl (fun K hK => ?_) AllReadyH.nil
          refine step_put_old (by rfl) _ _ _ 54 (by rfl) 3 2 intKeyLits ikeyed Try.underlying54 (.int .i64 0) bl nl _ S (by rfl) (HM5.out.drew 1).left (by unfold maxLen; omega) _ (.int .i64 (q1 x.id - t)) x.id HXF.out.2.1 (by rfl) (by rfl) (ikey_of x.id HXF.out.1.1 HXF.out.1.2.1) ?_
          intro w6 hm6' hg6'
          have hm6 := Lib.hid hm6'
          have hg6 := Lib.hid hg6'
          clear hm6' hg6'
          refine hK.out _ _ (⟨(World.cell?_of_block (hg6.out.block bs (HM5.out.drew 1).o5 (by have := HM5.out.o4; simp; omega))).trans hS.1, hS.2.grown (by simpa using hz5) hg6.out (by have := HM5.out.o4; simp; omega)⟩) (fun hS => ?_)
          clear hK K
          refine wpAnyH_done (by kernel_rfl) ?_ _
          have HM6 : Hid (Mid w6 bs bm bl base n nl sv sh wt.item (.slice (some ⟨g, 0, none⟩) N cap) (A ++ x :: r) uv2 (Fl.bmp q1 x.id (-t)) S ((U ++ V) ++ [⟨p, x.id, t⟩])) := Lib.hid ((HM5.out.drew 1).told hg6.out hm6.out)
          have HF6 : Hid (Fr W0 w6 bm bs uv uv2) := Lib.hid ((HF5.out.still (draws_none W5 1) hbmw).step hg6.out hbmw (fun g' hg' => by cases hg'; exact ⟨by have := HM5.out.o1; have := HM5.out.o3; omega, .inl (by have := HM5.out.o4; omega)⟩))
          have hBX6 := Lib.hid hS.2
          have hq6 : Fl.bmp q1 x.id (-t) x.id = q1 x.id - t := by rw [Fl.bmp_same]; omega
          have HLK6 : Hid (∀ k, (Instr.lookup 54 (.map (some bl)) (.int .i64 x.id) false).run Try.prog (w6.drewN k) = .ok (.int .i64 (q1 x.id - t)) (w6.drewN k)) := Lib.hid (fun k => by rw [← hq6]; exact HM6.out.look' HXF.out.2.1 HXF.out.1 k)
          clear hS HM5 HF5 hBX5 HLK5 hm6 hq6
          obtain ⟨zz, hzz⟩ : ∃ z, q1 x.id - t = z := ⟨_, rfl⟩
          rw [hzz] at HLK6
          have HZZ := Lib.hid hzz
          clear hzz
          go_wp2_with fail
          by_cases hz : zz = 0
          · have HZB : Hid ((zz == 0) = true) := Lib.hid (by simp [hz])
            have HZ := Lib.hid (HZZ.out.trans hz)
            clear hz
            refine wp_region_held_drew (S := fun w' => w'.cell? ⟨bs, 1, none⟩ = some (.map (some bl)) ∧ RowAt w' bx x ∧ (Instr.lookup 54 (.map (some bl)) (.int .i64 x.id) false).run Try.prog w' = .ok (.int .i64 zz) w') (by kernel_rfl) (⟨HM6.out.c1, hBX6.out, HLK6.out 1⟩) (fun hS => ?_)
            refine wpAnyH_take (i := 0) (v := (.pointer (some ⟨bs, 0, none⟩))) rfl (by kernel_rfl) (by kernel_rfl) (by kernel_rfl) (fun _ _ _ h => h) (Or.inl ⟨by kernel_rfl, fun w' hS' => by go_simp⟩) hS ?_
            refine wpAnyH_take (i := 1) (v := (.pointer (some ⟨bs, 0, none⟩))) rfl (by kernel_rfl) (by kernel_rfl) (by kernel_rfl) (fun _ _ _ h => h) (Or.inl ⟨by kernel_rfl, fun w' hS' => by go_simp⟩) hS ?_
            refine wpAnyH_take (i := 2) (v := (.pointer (some ⟨bs, 1, none⟩))) rfl (by kernel_rfl) (by kernel_rfl) (by kernel_rfl) (fun _ _ _ h => h) (Or.inl ⟨by kernel_rfl, fun w' hS' => by go_simp⟩) hS ?_
            refine wpAnyH_take (i := 3) (v := (.map (some bl))) rfl (by kernel_rfl) (by kernel_rfl) (by kernel_rfl) (fun _ _ _ h => h) (Or.inl ⟨by kernel_rfl, fun w' hS' => by obtain ⟨hc1, ⟨c0, c1, c2, c3, c4, c5⟩, hlk⟩ := hS'; go_simp⟩) hS ?_
            refine wpAnyH_take (i := 4) (v := (.pointer (some ⟨bx, 0, none⟩))) rfl (by kernel_rfl) (by kernel_rfl) (by kernel_rfl) (fun _ _ _ h => h) (Or.inl ⟨by kernel_rfl, fun w' hS' => by go_simp⟩) hS ?_
            refine wpAnyH_take (i := 5) (v := (.int .i64 x.id)) rfl (by kernel_rfl) (by kernel_rfl) (by kernel_rfl) (fun _ _ _ h => h) (Or.inl ⟨by kernel_rfl, fun w' hS' => by obtain ⟨hc1, ⟨c0, c1, c2, c3, c4, c5⟩, hlk⟩ := hS'; go_simp⟩) hS ?_
            refine wpAnyH_take (i := 6) (v := (.int .i64 zz)) rfl (by kernel_rfl) (by kernel_rfl) (by kernel_rfl) (fun _ _ _ h => h) (Or.inl ⟨by kernel_rfl, fun w' hS' => by obtain ⟨hc1, ⟨c0, c1, c2, c3, c4, c5⟩, hlk⟩ := hS'; go_simp⟩) hS ?_
            refine wpAnyH_take (i := 7) (v := (.bool true)) rfl (by kernel_rfl) (by kernel_rfl) (by kernel_rfl) (fun _ _ _ h => h) (Or.inl ⟨by kernel_rfl, fun w' hS' => by have hzz := HZB.out; go_simp⟩) hS ?_
            refine wpAnyH_done (by kernel_rfl) ?_ _
            go_simp
            rename_i hnext
            refine hnext _ _ ?_
            clear hnext
            clear hS HLK6 hBX6
            have HM7 : Hid (Mid w6.drew bs bm bl base n nl sv sh wt.item (.slice (some ⟨g, 0, none⟩) N cap) (A ++ x :: r) uv2 (Fl.bmp q1 x.id (-t)) S ((U ++ V) ++ [⟨p, x.id, t⟩])) := Lib.hid (HM6.out.drew 1)
            have HF7 : Hid (Fr W0 w6.drew bm bs uv uv2) := Lib.hid (HF6.out.still (draws_none w6 1) hbmw)
            obtain ⟨W7, hW7⟩ : ∃ W7, W7 = w6.drew := ⟨_, rfl⟩
            rw [← hW7] at HM7 HF7 ⊢
            clear HM6 HF6 hW7
            have HD := Lib.hid (HDEL.out W7 HM7.out.cur)
            go_wp2_with (go_at_call 63; ((with_reducible refine HD.out.mono ?_); rintro e w8 ⟨rfl, ho8', hg8'⟩; have ho8 := Lib.hid ho8'; have hg8 := Lib.hid hg8'; clear ho8' hg8'))
            have HM8 := Lib.hid (HM7.out.turned (l' := A ++ r) rfl hg8.out (by have h := ho8.out; rw [HER.out] at h; rw [HAR.out]; exact h) rfl)
            have HF8 := Lib.hid (HF7.out.step hg8.out hbmw (fun g' hg' => by cases hg'; exact ⟨by have := (HM7.out.hb g rfl).1; have := HM7.out.o1; omega, .inl (by have := (HM7.out.hb g rfl).2; have := HM7.out.o4; omega)⟩))
            have HG8 := Lib.hid (HG.out.used (by omega) HHB.out HT.out HZ.out)
            clear HD HM7 HF7
            go_roundw
            case rel => exact ⟨A, r, n1 - t, Fl.bmp q1 x.id (-t), _, uv2, V ++ [⟨p, x.id, t⟩], rfl, rfl, by rw [HK.out], Lib.hid (by have := HM8.out; rwa [List.append_assoc] at this), HF8, HG8, Lib.hid (onShelf_bmp HO.out HN.out (by omega)), Lib.hid (nodup_less HN.out), by have := HNN.out; simp at this ⊢; omega, by omega, by omega, Lib.hid (.inl (by have := HVL.out; simp at this ⊢; omega))⟩
            case measure => simp [lenV, intOf]; omega
          · have HZB : Hid ((zz == 0) = false) := Lib.hid (by simp [hz])
            have HZ := Lib.hid (show ¬ q1 x.id - t = 0 by rw [HZZ.out]; exact hz)
            clear hz
            refine wp_region_held_drew (S := fun w' => w'.cell? ⟨bs, 1, none⟩ = some (.map (some bl)) ∧ RowAt w' bx x ∧ (Instr.lookup 54 (.map (some bl)) (.int .i64 x.id) false).run Try.prog w' = .ok (.int .i64 zz) w') (by kernel_rfl) (⟨HM6.out.c1, hBX6.out, HLK6.out 1⟩) (fun hS => ?_)
            refine wpAnyH_take (i := 0) (v := (.pointer (some ⟨bs, 0, none⟩))) rfl (by kernel_rfl) (by kernel_rfl) (by kernel_rfl) (fun _ _ _ h => h) (Or.inl ⟨by kernel_rfl, fun w' hS' => by go_simp⟩) hS ?_
            refine wpAnyH_take (i := 1) (v := (.pointer (some ⟨bs, 0, none⟩))) rfl (by kernel_rfl) (by kernel_rfl) (by kernel_rfl) (fun _ _ _ h => h) (Or.inl ⟨by kernel_rfl, fun w' hS' => by go_simp⟩) hS ?_
            refine wpAnyH_take (i := 2) (v := (.pointer (some ⟨bs, 1, none⟩))) rfl (by kernel_rfl) (by kernel_rfl) (by kernel_rfl) (fun _ _ _ h => h) (Or.inl ⟨by kernel_rfl, fun w' hS' => by go_simp⟩) hS ?_
            refine wpAnyH_take (i := 3) (v := (.map (some bl))) rfl (by kernel_rfl) (by kernel_rfl) (by kernel_rfl) (fun _ _ _ h => h) (Or.inl ⟨by kernel_rfl, fun w' hS' => by obtain ⟨hc1, ⟨c0, c1, c2, c3, c4, c5⟩, hlk⟩ := hS'; go_simp⟩) hS ?_
            refine wpAnyH_take (i := 4) (v := (.pointer (some ⟨bx, 0, none⟩))) rfl (by kernel_rfl) (by kernel_rfl) (by kernel_rfl) (fun _ _ _ h => h) (Or.inl ⟨by kernel_rfl, fun w' hS' => by go_simp⟩) hS ?_
            refine wpAnyH_take (i := 5) (v := (.int .i64 x.id)) rfl (by kernel_rfl) (by kernel_rfl) (by kernel_rfl) (fun _ _ _ h => h) (Or.inl ⟨by kernel_rfl, fun w' hS' => by obtain ⟨hc1, ⟨c0, c1, c2, c3, c4, c5⟩, hlk⟩ := hS'; go_simp⟩) hS ?_
            refine wpAnyH_take (i := 6) (v := (.int .i64 zz)) rfl (by kernel_rfl) (by kernel_rfl) (by kernel_rfl) (fun _ _ _ h => h) (Or.inl ⟨by kernel_rfl, fun w' hS' => by obtain ⟨hc1, ⟨c0, c1, c2, c3, c4, c5⟩, hlk⟩ := hS'; go_simp⟩) hS ?_
            refine wpAnyH_take (i := 7) (v := (.bool false)) rfl (by kernel_rfl) (by kernel_rfl) (by kernel_rfl) (fun _ _ _ h => h) (Or.inl ⟨by kernel_rfl, fun w' hS' => by have hzz := HZB.out; go_simp⟩) hS ?_
            refine wpAnyH_done (by kernel_rfl) ?_ _
            go_simp
            rename_i hnext
            refine hnext _ _ ?_
            clear hnext
            clear hS HLK6 hBX6
            have HM7 : Hid (Mid w6.drew bs bm bl base n nl sv sh wt.item (.slice (some ⟨g, 0, none⟩) N cap) (A ++ x :: r) uv2 (Fl.bmp q1 x.id (-t)) S ((U ++ V) ++ [⟨p, x.id, t⟩])) := Lib.hid (HM6.out.drew 1)
            have HF7 : Hid (Fr W0 w6.drew bm bs uv uv2) := Lib.hid (HF6.out.still (draws_none w6 1) hbmw)
            obtain ⟨W7, hW7⟩ : ∃ W7, W7 = w6.drew := ⟨_, rfl⟩
            rw [← hW7] at HM7 HF7 ⊢
            clear HM6 HF6 hW7
            have HG8 := Lib.hid (HG.out.some_ (by omega) HHB.out HT.out HZ.out)
            go_wp2
            go_roundw
            case rel => exact ⟨A, x :: r, n1 - t, Fl.bmp q1 x.id (-t), _, uv2, V ++ [⟨p, x.id, t⟩], rfl, rfl, by rw [HK.out], Lib.hid (by have := HM7.out; rwa [List.append_assoc] at this), HF7, HG8, Lib.hid (onShelf_some HO.out (by simp) (by omega) (by have := HZ.out; have := HT.out; omega)), HN, by rw [HNN.out]; exact hl, by omega, by omega, Lib.hid (.inr ⟨by have := HZ.out; have := HT.out; omega, by have := HVL.out; simp at this ⊢; omega⟩)⟩
            case measure => simp [lenV, intOf]; omega
        · go_simp
          refine hK.out _ _ (hS.alloc_ hbxW _) (fun hS => ?_)
          clear hK K
          refine wpAnyH_ready (rs := [4]) (by kernel_rfl) (by simp) ?_
          refine AllReadyH.cons rfl (fun K hK => ?_) AllReadyH.nil
          go_simp
          skip
          refine hK.out _ _ (hS) (fun hS => ?_)
          clear hK K
          refine wpAnyH_ready (rs := [11]) (by kernel_rfl) (by simp) ?_
          refine AllReadyH.cons rfl (fun K hK => ?_) AllReadyH.nil
          refine step_append_two (by rfl) (.tmp 54) (.tmp 60) 28 (by rfl) (bs + 1) 44 i0 _ 3 24 Try.underlying28 H1.out H2.out H3.out H4.out rfl (by decide) uv1 (U ++ V).length _ (by rfl) HM4.out.uses ⟨W1.heap.size, 0, none⟩ 1 1 (encU ⟨p, x.id, t⟩) (by rfl) rfl HNEW.out (encU_one _) (by omega) (by have := HUV.out; unfold maxLen; omega) (by have := HUV.out; omega) (by have := HM3.out.o5; simp; omega) ?_
          intro uv2 w4 hown4' hgrew4
          rw [HML.out] at hown4'
          obtain ⟨g2, cap2, rfl, _, _, _, _⟩ := own_some hown4' (by have := HML.out; omega)
          have hown4 := Lib.hid hown4'
          clear hown4'
          have hz4 := hgrew4.out.row.size
          simp only [World.size_alloc, World.size_drew] at hz4
          have hc4 : w4.cell? ⟨bs, 2, none⟩ = some uv1 := (World.cell?_of_block (hgrew4.out.row.block bs HM4.out.o5 (HM4.out.usb))).trans HM4.out.c2
          have hf4 : w4.frozen? ⟨bs, 2, none⟩ = false := (World.frozen?_of_block (hgrew4.out.row.block bs HM4.out.o5 (HM4.out.usb))).trans HM4.out.f2
          refine hK.out _ _ (hS.grown (by simp; omega) hgrew4.out.row (fun e => HUX.out e.symm)) (fun hS => ?_)
          clear hK K
          refine wpAnyH_take (i := 12) (v := (.pointer (some ⟨bs, 0, none⟩))) rfl (by kernel_rfl) (by kernel_rfl) (by kernel_rfl) (fun _ _ _ h => h) (Or.inl ⟨by kernel_rfl, fun w' hS' => by go_simp⟩) hS ?_
          refine wpAnyH_take (i := 13) (v := (.pointer (some ⟨bs, 2, none⟩))) rfl (by kernel_rfl) (by kernel_rfl) (by kernel_rfl) (fun _ _ _ h => h) (Or.inl ⟨by kernel_rfl, fun w' hS' => by go_simp⟩) hS ?_
          refine wpAnyH_ready (rs := [14]) (by kernel_rfl) (by simp) ?_
          refine AllReadyH.cons rfl (fun K hK => ?_) AllReadyH.nil
          go_simp
          refine hK.out _ _ (hS.set_ (b' := bs) (by omega)) (fun hS => ?_)
          clear hK K
          refine wpAnyH_done (by kernel_rfl) ?_ _
          have HM5 : Hid (Mid (w4.setCell ⟨bs, 2, none⟩ (Value.slice (some ⟨g2, 0, none⟩) M cap2)) bs bm bl base n nl sv sh wt.item (.slice (some ⟨g, 0, none⟩) N cap) (A ++ x :: r) (Value.slice (some ⟨g2, 0, none⟩) M cap2) q1 S ((U ++ V) ++ [⟨p, x.id, t⟩])) := Lib.hid (HM4.out.used hgrew4.out.row (by rcases hgrew4.out.where_ with h | h; exact .inl h; exact .inr h) (by have h := hown4.out; rw [ucells_append, HML.out]; exact h))
          have HF5 : Hid (Fr W0 (w4.setCell ⟨bs, 2, none⟩ (Value.slice (some ⟨g2, 0, none⟩) M cap2)) bm bs uv (Value.slice (some ⟨g2, 0, none⟩) M cap2)) := Lib.hid (((((HF3.out.still (draws_none W1 1) hbmw).still (World.grownBy_alloc _ _ _) hbmw).step hgrew4.out.row hbmw (fun g' hg' => HF3.out.useRow HM4.out hg')).step (set_grown w4 ⟨bs, 2, none⟩ (Value.slice (some ⟨g2, 0, none⟩) M cap2)) hbmw (fun g' hg' => by cases hg'; exact ⟨by have := HM4.out.o1; have := HM4.out.o3; have := HM4.out.o4; show bm ≤ bs; omega, .inl (Nat.le_refl _)⟩)).uses (by rcases hgrew4.out.where_ with h | h; exact .inl h; exact .inr ⟨_, h, by have := HF3.out.below.size; simp; omega⟩))
          have hBX5 : Hid (RowAt (w4.setCell ⟨bs, 2, none⟩ (Value.slice (some ⟨g2, 0, none⟩) M cap2)) bx x) := Lib.hid hS
          have hz5 : bx < (w4.setCell ⟨bs, 2, none⟩ (Value.slice (some ⟨g2, 0, none⟩) M cap2)).heap.size := by simp; omega
          obtain ⟨W5, hW5⟩ : ∃ W5, W5 = w4.setCell ⟨bs, 2, none⟩ (Value.slice (some ⟨g2, 0, none⟩) M cap2) := ⟨_, rfl⟩
          rw [← hW5] at HM5 HF5 hBX5 hz5 ⊢
          clear hW5 hc4 hf4 hS hz4 HM4 HM3 HF3 hBX3 HNEW HUX hgrew4 hown4
          generalize (Value.slice (some ⟨g2, 0, none⟩) M cap2) = uv2 at HM5 HF5 ⊢
          go_wp2_with fail
          have HLK5 : Hid (∀ k, (Instr.lookup 54 (.map (some bl)) (.int .i64 x.id) false).run Try.prog (W5.drewN k) = .ok (.int .i64 (q1 x.id)) (W5.drewN k)) := Lib.hid (fun k => HM5.out.look HXF.out k)
          have hlk5 : (Instr.lookup 54 (.map (some bl)) (.int .i64 x.id) false).run Try.prog W5.drew = .ok (.int .i64 (q1 x.id)) W5.drew := HLK5.out 1
          refine wp_region_held_drew (S := fun w' => w'.cell? ⟨bs, 1, none⟩ = some (.map (some bl)) ∧ RowAt w' bx x) (by kernel_rfl) (⟨HM5.out.c1, hBX5.out⟩) (fun hS => ?_)
          refine wpAnyH_take (i := 0) (v := (.pointer (some ⟨bs, 0, none⟩))) rfl (by kernel_rfl) (by kernel_rfl) (by kernel_rfl) (fun _ _ _ h => h) (Or.inl ⟨by kernel_rfl, fun w' hS' => by go_simp⟩) hS ?_
          refine wpAnyH_take (i := 1) (v := (.pointer (some ⟨bs, 0, none⟩))) rfl (by kernel_rfl) (by kernel_rfl) (by kernel_rfl) (fun _ _ _ h => h) (Or.inl ⟨by kernel_rfl, fun w' hS' => by go_simp⟩) hS ?_
          refine wpAnyH_take (i := 2) (v := (.pointer (some ⟨bs, 1, none⟩))) rfl (by kernel_rfl) (by kernel_rfl) (by kernel_rfl) (fun _ _ _ h => h) (Or.inl ⟨by kernel_rfl, fun w' hS' => by go_simp⟩) hS ?_
          refine wpAnyH_take (i := 3) (v := (.map (some bl))) rfl (by kernel_rfl) (by kernel_rfl) (by kernel_rfl) (fun _ _ _ h => h) (Or.inl ⟨by kernel_rfl, fun w' hS' => by obtain ⟨hc1, c0, c1, c2, c3, c4, c5⟩ := hS'; go_simp⟩) hS ?_
          refine wpAnyH_take (i := 4) (v := (.pointer (some ⟨bx, 0, none⟩))) rfl (by kernel_rfl) (by kernel_rfl) (by kernel_rfl) (fun _ _ _ h => h) (Or.inl ⟨by kernel_rfl, fun w' hS' => by go_simp⟩) hS ?_
          refine wpAnyH_take (i := 5) (v := (.int .i64 x.id)) rfl (by kernel_rfl) (by kernel_rfl) (by kernel_rfl) (fun _ _ _ h => h) (Or.inl ⟨by kernel_rfl, fun w' hS' => by obtain ⟨hc1, c0, c1, c2, c3, c4, c5⟩ := hS'; go_simp⟩) hS ?_
          refine wpAnyH_take (i := 7) (v := (.int .i64 t)) rfl (by kernel_rfl) (by kernel_rfl) (by kernel_rfl) (fun _ _ _ h => h) (Or.inl ⟨by kernel_rfl, fun w' hS' => by go_simp⟩) hS ?_
          refine wpAnyH_ready (rs := [6]) (by kernel_rfl) (by simp) ?_
          refine AllReadyH.cons rfl (fun K hK => ?_) AllReadyH.nil
          go_simp
          clear hlk5
          refine hK.out _ _ (hS) (fun hS => ?_)
          clear hK K
          refine wpAnyH_take (i := 8) (v := (.int .i64 (q1 x.id - t))) rfl (by kernel_rfl) (by kernel_rfl) (by kernel_rfl) (fun _ _ _ h => h) (Or.inl ⟨by kernel_rfl, fun w' hS' => by have hsub := HSUB.out; go_simp⟩) hS ?_
          refine wpAnyH_ready (rs := [9]) (by kernel_rfl) (by simp) ?_
          refine AllReadyH.cons rfl (fun K hK => ?_) AllReadyH.nil
          refine step_put_old (by rfl) _ _ _ 54 (by rfl) 3 2 intKeyLits ikeyed Try.underlying54 (.int .i64 0) bl nl _ S (by rfl) (HM5.out.drew 1).left (by unfold maxLen; omega) _ (.int .i64 (q1 x.id - t)) x.id HXF.out.2.1 (by rfl) (by rfl) (ikey_of x.id HXF.out.1.1 HXF.out.1.2.1) ?_
          intro w6 hm6' hg6'
          have hm6 := Lib.hid hm6'
          have hg6 := Lib.hid hg6'
          clear hm6' hg6'
          refine hK.out _ _ (⟨(World.cell?_of_block (hg6.out.block bs (HM5.out.drew 1).o5 (by have := HM5.out.o4; simp; omega))).trans hS.1, hS.2.grown (by simpa using hz5) hg6.out (by have := HM5.out.o4; simp; omega)⟩) (fun hS => ?_)
          clear hK K
          refine wpAnyH_done (by kernel_rfl) ?_ _
          have HM6 : Hid (Mid w6 bs bm bl base n nl sv sh wt.item (.slice (some ⟨g, 0, none⟩) N cap) (A ++ x :: r) uv2 (Fl.bmp q1 x.id (-t)) S ((U ++ V) ++ [⟨p, x.id, t⟩])) := Lib.hid ((HM5.out.drew 1).told hg6.out hm6.out)
          have HF6 : Hid (Fr W0 w6 bm bs uv uv2) := Lib.hid ((HF5.out.still (draws_none W5 1) hbmw).step hg6.out hbmw (fun g' hg' => by cases hg'; exact ⟨by have := HM5.out.o1; have := HM5.out.o3; omega, .inl (by have := HM5.out.o4; omega)⟩))
          have hBX6 := Lib.hid hS.2
          have hq6 : Fl.bmp q1 x.id (-t) x.id = q1 x.id - t := by rw [Fl.bmp_same]; omega
          have HLK6 : Hid (∀ k, (Instr.lookup 54 (.map (some bl)) (.int .i64 x.id) false).run Try.prog (w6.drewN k) = .ok (.int .i64 (q1 x.id - t)) (w6.drewN k)) := Lib.hid (fun k => by rw [← hq6]; exact HM6.out.look' HXF.out.2.1 HXF.out.1 k)
          clear hS HM5 HF5 hBX5 HLK5 hm6 hq6
          obtain ⟨zz, hzz⟩ : ∃ z, q1 x.id - t = z := ⟨_, rfl⟩
          rw [hzz] at HLK6
          have HZZ := Lib.hid hzz
          clear hzz
          go_wp2_with fail
          by_cases hz : zz = 0
          · have HZB : Hid ((zz == 0) = true) := Lib.hid (by simp [hz])
            have HZ := Lib.hid (HZZ.out.trans hz)
            clear hz
            refine wp_region_held_drew (S := fun w' => w'.cell? ⟨bs, 1, none⟩ = some (.map (some bl)) ∧ RowAt w' bx x ∧ (Instr.lookup 54 (.map (some bl)) (.int .i64 x.id) false).run Try.prog w' = .ok (.int .i64 zz) w') (by kernel_rfl) (⟨HM6.out.c1, hBX6.out, HLK6.out 1⟩) (fun hS => ?_)
            refine wpAnyH_take (i := 0) (v := (.pointer (some ⟨bs, 0, none⟩))) rfl (by kernel_rfl) (by kernel_rfl) (by kernel_rfl) (fun _ _ _ h => h) (Or.inl ⟨by kernel_rfl, fun w' hS' => by go_simp⟩) hS ?_
            refine wpAnyH_take (i := 1) (v := (.pointer (some ⟨bs, 0, none⟩))) rfl (by kernel_rfl) (by kernel_rfl) (by kernel_rfl) (fun _ _ _ h => h) (Or.inl ⟨by kernel_rfl, fun w' hS' => by go_simp⟩) hS ?_
            refine wpAnyH_take (i := 2) (v := (.pointer (some ⟨bs, 1, none⟩))) rfl (by kernel_rfl) (by kernel_rfl) (by kernel_rfl) (fun _ _ _ h => h) (Or.inl ⟨by kernel_rfl, fun w' hS' => by go_simp⟩) hS ?_
            refine wpAnyH_take (i := 3) (v := (.map (some bl))) rfl (by kernel_rfl) (by kernel_rfl) (by kernel_rfl) (fun _ _ _ h => h) (Or.inl ⟨by kernel_rfl, fun w' hS' => by obtain ⟨hc1, ⟨c0, c1, c2, c3, c4, c5⟩, hlk⟩ := hS'; go_simp⟩) hS ?_
            refine wpAnyH_take (i := 4) (v := (.pointer (some ⟨bx, 0, none⟩))) rfl (by kernel_rfl) (by kernel_rfl) (by kernel_rfl) (fun _ _ _ h => h) (Or.inl ⟨by kernel_rfl, fun w' hS' => by go_simp⟩) hS ?_
            refine wpAnyH_take (i := 5) (v := (.int .i64 x.id)) rfl (by kernel_rfl) (by kernel_rfl) (by kernel_rfl) (fun _ _ _ h => h) (Or.inl ⟨by kernel_rfl, fun w' hS' => by obtain ⟨hc1, ⟨c0, c1, c2, c3, c4, c5⟩, hlk⟩ := hS'; go_simp⟩) hS ?_
            refine wpAnyH_take (i := 6) (v := (.int .i64 zz)) rfl (by kernel_rfl) (by kernel_rfl) (by kernel_rfl) (fun _ _ _ h => h) (Or.inl ⟨by kernel_rfl, fun w' hS' => by obtain ⟨hc1, ⟨c0, c1, c2, c3, c4, c5⟩, hlk⟩ := hS'; go_simp⟩) hS ?_
            refine wpAnyH_take (i := 7) (v := (.bool true)) rfl (by kernel_rfl) (by kernel_rfl) (by kernel_rfl) (fun _ _ _ h => h) (Or.inl ⟨by kernel_rfl, fun w' hS' => by have hzz := HZB.out; go_simp⟩) hS ?_
            refine wpAnyH_done (by kernel_rfl) ?_ _
            go_simp
            rename_i hnext
            refine hnext _ _ ?_
            clear hnext
            clear hS HLK6 hBX6
            have HM7 : Hid (Mid w6.drew bs bm bl base n nl sv sh wt.item (.slice (some ⟨g, 0, none⟩) N cap) (A ++ x :: r) uv2 (Fl.bmp q1 x.id (-t)) S ((U ++ V) ++ [⟨p, x.id, t⟩])) := Lib.hid (HM6.out.drew 1)
            have HF7 : Hid (Fr W0 w6.drew bm bs uv uv2) := Lib.hid (HF6.out.still (draws_none w6 1) hbmw)
            obtain ⟨W7, hW7⟩ : ∃ W7, W7 = w6.drew := ⟨_, rfl⟩
            rw [← hW7] at HM7 HF7 ⊢
            clear HM6 HF6 hW7
            have HD := Lib.hid (HDEL.out W7 HM7.out.cur)
            go_wp2_with (go_at_call 63; ((with_reducible refine HD.out.mono ?_); rintro e w8 ⟨rfl, ho8', hg8'⟩; have ho8 := Lib.hid ho8'; have hg8 := Lib.hid hg8'; clear ho8' hg8'))
            have HM8 := Lib.hid (HM7.out.turned (l' := A ++ r) rfl hg8.out (by have h := ho8.out; rw [HER.out] at h; rw [HAR.out]; exact h) rfl)
            have HF8 := Lib.hid (HF7.out.step hg8.out hbmw (fun g' hg' => by cases hg'; exact ⟨by have := (HM7.out.hb g rfl).1; have := HM7.out.o1; omega, .inl (by have := (HM7.out.hb g rfl).2; have := HM7.out.o4; omega)⟩))
            have HG8 := Lib.hid (HG.out.used (by omega) HHB.out HT.out HZ.out)
            clear HD HM7 HF7
            go_roundw
            case rel => exact ⟨A, r, n1 - t, Fl.bmp q1 x.id (-t), _, uv2, V ++ [⟨p, x.id, t⟩], rfl, rfl, by rw [HK.out], Lib.hid (by have := HM8.out; rwa [List.append_assoc] at this), HF8, HG8, Lib.hid (onShelf_bmp HO.out HN.out (by omega)), Lib.hid (nodup_less HN.out), by have := HNN.out; simp at this ⊢; omega, by omega, by omega, Lib.hid (.inl (by have := HVL.out; simp at this ⊢; omega))⟩
            case measure => simp [lenV, intOf]; omega
          · have HZB : Hid ((zz == 0) = false) := Lib.hid (by simp [hz])
            have HZ := Lib.hid (show ¬ q1 x.id - t = 0 by rw [HZZ.out]; exact hz)
            clear hz
            refine wp_region_held_drew (S := fun w' => w'.cell? ⟨bs, 1, none⟩ = some (.map (some bl)) ∧ RowAt w' bx x ∧ (Instr.lookup 54 (.map (some bl)) (.int .i64 x.id) false).run Try.prog w' = .ok (.int .i64 zz) w') (by kernel_rfl) (⟨HM6.out.c1, hBX6.out, HLK6.out 1⟩) (fun hS => ?_)
            refine wpAnyH_take (i := 0) (v := (.pointer (some ⟨bs, 0, none⟩))) rfl (by kernel_rfl) (by kernel_rfl) (by kernel_rfl) (fun _ _ _ h => h) (Or.inl ⟨by kernel_rfl, fun w' hS' => by go_simp⟩) hS ?_
            refine wpAnyH_take (i := 1) (v := (.pointer (some ⟨bs, 0, none⟩))) rfl (by kernel_rfl) (by kernel_rfl) (by kernel_rfl) (fun _ _ _ h => h) (Or.inl ⟨by kernel_rfl, fun w' hS' => by go_simp⟩) hS ?_
            refine wpAnyH_take (i := 2) (v := (.pointer (some ⟨bs, 1, none⟩))) rfl (by kernel_rfl) (by kernel_rfl) (by kernel_rfl) (fun _ _ _ h => h) (Or.inl ⟨by kernel_rfl, fun w' hS' => by go_simp⟩) hS ?_
            refine wpAnyH_take (i := 3) (v := (.map (some bl))) rfl (by kernel_rfl) (by kernel_rfl) (by kernel_rfl) (fun _ _ _ h => h) (Or.inl ⟨by kernel_rfl, fun w' hS' => by obtain ⟨hc1, ⟨c0, c1, c2, c3, c4, c5⟩, hlk⟩ := hS'; go_simp⟩) hS ?_
            refine wpAnyH_take (i := 4) (v := (.pointer (some ⟨bx, 0, none⟩))) rfl (by kernel_rfl) (by kernel_rfl) (by kernel_rfl) (fun _ _ _ h => h) (Or.inl ⟨by kernel_rfl, fun w' hS' => by go_simp⟩) hS ?_
            refine wpAnyH_take (i := 5) (v := (.int .i64 x.id)) rfl (by kernel_rfl) (by kernel_rfl) (by kernel_rfl) (fun _ _ _ h => h) (Or.inl ⟨by kernel_rfl, fun w' hS' => by obtain ⟨hc1, ⟨c0, c1, c2, c3, c4, c5⟩, hlk⟩ := hS'; go_simp⟩) hS ?_
            refine wpAnyH_take (i := 6) (v := (.int .i64 zz)) rfl (by kernel_rfl) (by kernel_rfl) (by kernel_rfl) (fun _ _ _ h => h) (Or.inl ⟨by kernel_rfl, fun w' hS' => by obtain ⟨hc1, ⟨c0, c1, c2, c3, c4, c5⟩, hlk⟩ := hS'; go_simp⟩) hS ?_
            refine wpAnyH_take (i := 7) (v := (.bool false)) rfl (by kernel_rfl) (by kernel_rfl) (by kernel_rfl) (fun _ _ _ h => h) (Or.inl ⟨by kernel_rfl, fun w' hS' => by have hzz := HZB.out; go_simp⟩) hS ?_
            refine wpAnyH_done (by kernel_rfl) ?_ _
            go_simp
            rename_i hnext
            refine hnext _ _ ?_
            clear hnext
            clear hS HLK6 hBX6
            have HM7 : Hid (Mid w6.drew bs bm bl base n nl sv sh wt.item (.slice (some ⟨g, 0, none⟩) N cap) (A ++ x :: r) uv2 (Fl.bmp q1 x.id (-t)) S ((U ++ V) ++ [⟨p, x.id, t⟩])) := Lib.hid (HM6.out.drew 1)
            have HF7 : Hid (Fr W0 w6.drew bm bs uv uv2) := Lib.hid (HF6.out.still (draws_none w6 1) hbmw)
            obtain ⟨W7, hW7⟩ : ∃ W7, W7 = w6.drew := ⟨_, rfl⟩
            rw [← hW7] at HM7 HF7 ⊢
            clear HM6 HF6 hW7
            have HG8 := Lib.hid (HG.out.some_ (by omega) HHB.out HT.out HZ.out)
            go_wp2
            go_roundw
            case rel => exact ⟨A, x :: r, n1 - t, Fl.bmp q1 x.id (-t), _, uv2, V ++ [⟨p, x.id, t⟩], rfl, rfl, by rw [HK.out], Lib.hid (by have := HM7.out; rwa [List.append_assoc] at this), HF7, HG8, Lib.hid (onShelf_some HO.out (by simp) (by omega) (by have := HZ.out; have := HT.out; omega)), HN, by rw [HNN.out]; exact hl, by omega, by omega, Lib.hid (.inr ⟨by have := HZ.out; have := HT.out; omega, by have := HVL.out; simp at this ⊢; omega⟩)⟩
            case measure => simp [lenV, intOf]; omega
    · have hstop : n1 ≤ 0 ∨ B = [] := by
        by_cases h : 0 < n1
        · exact .inr (Classical.byContradiction fun hB => hgo ⟨h, hB⟩)
        · exact .inl (Int.not_lt.1 h)
      clear hgo
      have HR := Lib.hid (HG.out.stop hstop)
      obtain ⟨Av, cv, rfl, hcv1, hcv2, hcvz⟩ := own_form hcur
      obtain ⟨N, hN⟩ : ∃ N, (A ++ B).length = N := ⟨_, rfl⟩
      obtain ⟨k, hk⟩ : ∃ k, A.length = k := ⟨_, rfl⟩
      have hkN : N = k ∨ (k < N ∧ n1 = 0) := by
        rcases hstop with h | h
        · by_cases hB : B = []
          · left; rw [← hN, ← hk, hB]; simp
          · right
            have : 0 < B.length := List.length_pos_iff.2 hB
            exact ⟨by rw [← hN, ← hk]; simp; omega, by omega⟩
        · left; rw [← hN, ← hk, h]; simp
      have HNN := Lib.hid hN
      rw [hk] at ⊢
      rw [hN] at HMr hl hcv1 ⊢
      have hbwr : bw < wr.heap.size := Nat.lt_of_lt_of_le hbw0 HFr.out.below.size
      have HWI : Hid (wr.cell? ⟨bw, 0, none⟩ = some (.string ⟨wt.item.toArray⟩)) := Lib.hid ((HFr.out.cell hbsw hbw0 huvw.out 0).trans HW0.out.1)
      obtain ⟨Sk, hsk⟩ := (HMr.out.drew 1).map
      have hsk2 : SMap wr.drew bm n sv Sk := hsk
      have HMK := Lib.hid hsk2
      have HFZ := Lib.hid (HF0.out.trans HFr.out)
      clear hN hk hcur hstop hsk hsk2 HG HO HN HM
      have hlt0 : bm < bs := Nat.lt_trans (Nat.lt_of_lt_of_le HMr.out.o1 HMr.out.o3) HMr.out.o4
      have HNE1 : Hid (some bs ≠ some bm) := Lib.hid (fun e => Nat.ne_of_gt hlt0 (Option.some.inj e))
      have HNE2 : Hid (some bw ≠ some bm) := Lib.hid (fun e => Nat.ne_of_gt (Nat.lt_trans hlt0 hbsw) (Option.some.inj e))
      have HLE := Lib.hid (Nat.le_of_lt hlt0)
      clear hlt0
      rcases hkN with hkN | ⟨hkN, hn1z⟩
      · subst hkN
        go_wp2
        refine wp_region_held_drew (S := fun w' => w'.cell? ⟨bs, 0, none⟩ = some (.map (some bm)) ∧ w'.cell? ⟨bw, 0, none⟩ = some (.string ⟨wt.item.toArray⟩)) (by kernel_rfl) (⟨HMr.out.c0, HWI.out⟩) (fun hS => ?_)
        refine wpAnyH_take (i := 0) (v := (.pointer (some ⟨bs, 0, none⟩))) rfl (by kernel_rfl) (by kernel_rfl) (by kernel_rfl) (fun _ _ _ h => h) (Or.inl ⟨by kernel_rfl, fun w' hS' => by go_simp⟩) hS ?_
        refine wpAnyH_take (i := 1) (v := (.pointer (some ⟨bs, 0, none⟩))) rfl (by kernel_rfl) (by kernel_rfl) (by kernel_rfl) (fun _ _ _ h => h) (Or.inl ⟨by kernel_rfl, fun w' hS' => by go_simp⟩) hS ?_
        refine wpAnyH_take (i := 2) (v := (.pointer (some ⟨bs, 0, none⟩))) rfl (by kernel_rfl) (by kernel_rfl) (by kernel_rfl) (fun _ _ _ h => h) (Or.inl ⟨by kernel_rfl, fun w' hS' => by go_simp⟩) hS ?_
        refine wpAnyH_take (i := 3) (v := (.map (some bm))) rfl (by kernel_rfl) (by kernel_rfl) (by kernel_rfl) (fun _ _ _ h => h) (Or.inl ⟨by kernel_rfl, fun w' hS' => by obtain ⟨hc0, hc1⟩ := hS'; go_simp⟩) hS ?_
        refine wpAnyH_take (i := 4) (v := (.pointer (some ⟨bw, 0, none⟩))) rfl (by kernel_rfl) (by kernel_rfl) (by kernel_rfl) (fun _ _ _ h => h) (Or.inl ⟨by kernel_rfl, fun w' hS' => by go_simp⟩) hS ?_
        refine wpAnyH_take (i := 5) (v := (.string ⟨wt.item.toArray⟩)) rfl (by kernel_rfl) (by kernel_rfl) (by kernel_rfl) (fun _ _ _ h => h) (Or.inl ⟨by kernel_rfl, fun w' hS' => by obtain ⟨hc0, hc1⟩ := hS'; go_simp⟩) hS ?_
        refine wpAnyH_take (i := 6) (v := (.slice Av N cv)) rfl (by kernel_rfl) (by kernel_rfl) (by kernel_rfl) (fun _ _ _ h => h) (Or.inl ⟨by kernel_rfl, fun w' hS' => by go_simp⟩) hS ?_
        refine wpAnyH_put (w := wr.drew) 7 _ (by kernel_rfl) rfl rfl (.tmp 92) (.tmp 94) (.tmp 95) 53 rfl 9 22 strKeyLits skeyed Try.underlying53 (.slice none 0 0) bm n sv Sk (by simp [Act.eval, Act.put]) HMK.out (Nat.lt_of_le_of_lt hn mil_lt) _ (.slice Av N cv) wt.item (by simp [Act.eval, Act.put]) (by simp [Act.eval, Act.put]) (skey_of wt.item hi) (fun w' hg' => ⟨(World.cell?_of_block (hg'.block bs (HMr.out.drew 1).o5 HNE1.out)).trans hS.1, (World.cell?_of_block (hg'.block bw hbwr HNE2.out)).trans hS.2⟩) (fun w9 hm9 hg9 => ?_)
        refine wpAnyH_done (by kernel_rfl) ?_ _
        go_simp
        rename_i hnext
        refine hnext _ _ ?_
        clear hnext
        go_wp2
        go_ret
        refine ⟨updK sv wt.item (.slice Av N cv), uv1, ret_bool (by rw [HR.out]; by_cases h : n1 = 0 <;> first | (simp [h]; done) | exact absurd hn1z h), fun it => ?_, (HFZ.out.still (draws_none wr 1) hbm).step hg9.out hbm (fun g' hg' => by cases hg'; exact ⟨Nat.le_refl _, .inl HLE.out⟩)⟩
        rw [HR.out]
        exact (HMr.out.drew 1).back hg9.out hm9.out it
      · have hd2 : decide (0 < n1) = false := decide_eq_false (by omega)
        go_wp2
        clear hd2
        refine wp_region_held_drew (S := fun w' => w'.cell? ⟨bs, 0, none⟩ = some (.map (some bm)) ∧ w'.cell? ⟨bw, 0, none⟩ = some (.string ⟨wt.item.toArray⟩)) (by kernel_rfl) (⟨HMr.out.c0, HWI.out⟩) (fun hS => ?_)
        refine wpAnyH_take (i := 0) (v := (.pointer (some ⟨bs, 0, none⟩))) rfl (by kernel_rfl) (by kernel_rfl) (by kernel_rfl) (fun _ _ _ h => h) (Or.inl ⟨by kernel_rfl, fun w' hS' => by go_simp⟩) hS ?_
        refine wpAnyH_take (i := 1) (v := (.pointer (some ⟨bs, 0, none⟩))) rfl (by kernel_rfl) (by kernel_rfl) (by kernel_rfl) (fun _ _ _ h => h) (Or.inl ⟨by kernel_rfl, fun w' hS' => by go_simp⟩) hS ?_
        refine wpAnyH_take (i := 2) (v := (.pointer (some ⟨bs, 0, none⟩))) rfl (by kernel_rfl) (by kernel_rfl) (by kernel_rfl) (fun _ _ _ h => h) (Or.inl ⟨by kernel_rfl, fun w' hS' => by go_simp⟩) hS ?_
        refine wpAnyH_take (i := 3) (v := (.map (some bm))) rfl (by kernel_rfl) (by kernel_rfl) (by kernel_rfl) (fun _ _ _ h => h) (Or.inl ⟨by kernel_rfl, fun w' hS' => by obtain ⟨hc0, hc1⟩ := hS'; go_simp⟩) hS ?_
        refine wpAnyH_take (i := 4) (v := (.pointer (some ⟨bw, 0, none⟩))) rfl (by kernel_rfl) (by kernel_rfl) (by kernel_rfl) (fun _ _ _ h => h) (Or.inl ⟨by kernel_rfl, fun w' hS' => by go_simp⟩) hS ?_
        refine wpAnyH_take (i := 5) (v := (.string ⟨wt.item.toArray⟩)) rfl (by kernel_rfl) (by kernel_rfl) (by kernel_rfl) (fun _ _ _ h => h) (Or.inl ⟨by kernel_rfl, fun w' hS' => by obtain ⟨hc0, hc1⟩ := hS'; go_simp⟩) hS ?_
        refine wpAnyH_take (i := 6) (v := (.slice Av N cv)) rfl (by kernel_rfl) (by kernel_rfl) (by kernel_rfl) (fun _ _ _ h => h) (Or.inl ⟨by kernel_rfl, fun w' hS' => by go_simp⟩) hS ?_
        refine wpAnyH_put (w := wr.drew) 7 _ (by kernel_rfl) rfl rfl (.tmp 92) (.tmp 94) (.tmp 95) 53 rfl 9 22 strKeyLits skeyed Try.underlying53 (.slice none 0 0) bm n sv Sk (by simp [Act.eval, Act.put]) HMK.out (Nat.lt_of_le_of_lt hn mil_lt) _ (.slice Av N cv) wt.item (by simp [Act.eval, Act.put]) (by simp [Act.eval, Act.put]) (skey_of wt.item hi) (fun w' hg' => ⟨(World.cell?_of_block (hg'.block bs (HMr.out.drew 1).o5 HNE1.out)).trans hS.1, (World.cell?_of_block (hg'.block bw hbwr HNE2.out)).trans hS.2⟩) (fun w9 hm9 hg9 => ?_)
        refine wpAnyH_done (by kernel_rfl) ?_ _
        go_simp
        rename_i hnext
        refine hnext _ _ ?_
        clear hnext
        go_wp2
        go_ret
        refine ⟨updK sv wt.item (.slice Av N cv), uv1, ret_bool (by rw [HR.out]; by_cases h : n1 = 0 <;> first | (simp [h]; done) | exact absurd hn1z h), fun it => ?_, (HFZ.out.still (draws_none wr 1) hbm).step hg9.out hbm (fun g' hg' => by cases hg'; exact ⟨Nat.le_refl _, .inl HLE.out⟩)⟩
        rw [HR.out]
        exact (HMr.out.drew 1).back hg9.out hm9.out it
end Go.Proofs.Ytddnfikjfmfhfaa
