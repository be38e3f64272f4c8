/- Texts of this proof, one behind the other. -/
import Derived.Deep.QuietTactic
import Derived.BigQuiet
import Derived.Shelf.SlSortCmp.QuietGrown
import Derived.Test.YtddnfikjfmfhfaaF14
import Derived.Test.YtddnfikjfmfhfaaF10
import Derived.Test.YtddnfikjfmfhfaaF12
section
/- The reference's Left; SameUses. Written by gen_frleft.py. -/
namespace Go.Proofs.Ytddnfikjfmfhfaa
open Go.ChangeShapes Go.WideShapes Go.ChangeAt Go.RowKit Go.Maps
set_option linter.unusedVariables false
def CmpU (x : Us) : Prop := ∀ w, (binOp .neq 44 (.agg #[.int .i64 x.want, .int .i64 x.lot, .int .i64 x.qty]) (.agg #[.int .i64 x.want, .int .i64 x.lot, .int .i64 x.qty])).run Try.prog w = .ok (.bool false) w
set_option maxHeartbeats 1000000 in
theorem sameu_yes (l : List Us) (v1 v2 : Value) (w : World) (h1 : USl w w.heap.size v1 l) (h2 : USl w w.heap.size v2 l) (hl : l.length ≤ 1099511627776) :
    Calls Try.prog 17 #[v1, v2] w fun e w' => e = .returned (.bool true) ∧ Below w.heap.size w w' := by
  obtain ⟨A, c, rfl, hc1, hc2, _, hl1⟩ := id h1
  obtain ⟨A', c', rfl, hc1', hc2', _, hl1'⟩ := id h2
  have HL1 := Lib.hid hl1
  have HL2 := Lib.hid hl1'
  clear h1 h2 hl1 hl1'
  go_enter Try.func17, Try.ntmps17
  go_wp2
  go_loopw [5] (fun i wr => ∃ k : Nat, k ≤ l.length ∧ i = .int .i64 k ∧ Hid (Below w.heap.size w wr)) (fun i _ => l.length - (intOf i).toNat)
  case atStart => exact ⟨0, Nat.zero_le _, rfl, Lib.hid (Below.refl _ _)⟩
  case round =>
    obtain ⟨k, hk, rfl, HB⟩ := hrel
    by_cases hlt : k < l.length
    · obtain ⟨x, hx⟩ : ∃ x, l[k]? = some x := ⟨_, List.getElem?_eq_getElem hlt⟩
      obtain ⟨ap, hap, _, hp0, hp1, hp2⟩ := (HL1.out.below HB.out).rowU hx
      obtain ⟨aq, haq, _, hq0, hq1, hq2⟩ := (HL2.out.below HB.out).rowU hx
      subst hap haq
      have hne : CmpU x := fun w => by have := neq_U x x w; simpa using this
      unfold CmpU at hne
      clear hx
      go_wp2
      go_quiet (fail)
      go_wp2
      go_roundw
      case rel => exact ⟨k + 1, by omega, by go_num, Lib.hid (below_draws HB.out _)⟩
      case measure => simp [intOf]; omega
    · obtain rfl : k = l.length := by omega
      go_wp2
      go_ret
      exact ⟨rfl, HB.out⟩
/-- A lot of which some have been taken. -/
def lessQ (x : Lt) (n : Int) : Lt := ⟨x.id, x.item, x.fr, x.un, x.qty - n, x.arr⟩
theorem lessQ_zero (x : Lt) : lessQ x 0 = x := by unfold lessQ; cases x; simp
theorem usedOf_step {U : List Us} {j : Nat} {u : Us} (hu : U[j]? = some u) (i : Int) : usedOf (U.take (j + 1)) i = usedOf (U.take j) i + (if u.lot = i then u.qty else 0) := by
  rw [List.take_add_one, hu]
  exact usedOf_snoc _ u i
theorem rowU_set {w : World} {p : Addr} {u : Us} {b : Nat} (h : RowU w p u) (hne : p.block ≠ b) (o : Nat) (v : Value) : RowU (w.setCell ⟨b, o, none⟩ v) p u := by
  obtain ⟨h0, h1, h2⟩ := h
  refine ⟨(World.cell?_setCell_other _ _ _ _ ?_).trans h0, (World.cell?_setCell_other _ _ _ _ ?_).trans h1, (World.cell?_setCell_other _ _ _ _ ?_).trans h2⟩ <;> (intro e; apply hne; first | rw [← e] | (have := congrArg Addr.block e; exact this.symm) | (have := congrArg Addr.block e; exact this))
theorem rowAt_qty {w : World} {b : Nat} {x : Lt} {n m : Int} {v : Value} (h : RowAt w b (lessQ x n)) (hv : w.cell? ⟨b, 4, none⟩ = some v) : RowAt (w.setCell ⟨b, 4, none⟩ (.int .i64 (x.qty - n - m))) b (lessQ x (n + m)) := by
  obtain ⟨h0, h1, h2, h3, h4, h5⟩ := h
  have ne : ∀ o, o ≠ 4 → (w.setCell ⟨b, 4, none⟩ (.int .i64 (x.qty - n - m))).cell? ⟨b, o, none⟩ = w.cell? ⟨b, o, none⟩ := fun o ho => World.cell?_setCell_other _ _ _ _ (by intro e; simp only [Addr.mk.injEq] at e; omega)
  refine ⟨(ne 0 (by omega)).trans h0, (ne 1 (by omega)).trans h1, (ne 2 (by omega)).trans h2, (ne 3 (by omega)).trans h3, ?_, (ne 5 (by omega)).trans h5⟩
  rw [World.cell?_setCell_same' _ _ _ (by rw [hv]; rfl)]
  unfold lessQ; simp only; congr 2; omega
set_option maxHeartbeats 8000000 in
set_option maxRecDepth 100000 in
theorem rleft_may (v1 v2 : Value) (l S : List Lt) (ws : List Wt) (P : List Nat) (w : World) (h1 : LSl w w.heap.size v1 l) (h2 : WSl w w.heap.size v2 ws) (hs : Sized l) (hb : mayB l ws = true) (hS : Stab l S) (hP : Days ws P) (h40 : l.length ≤ 40) (h60 : ws.length ≤ 60) :
    Calls Try.prog 16 #[v1, v2] w fun e w' => Below w.heap.size w w' ∧ (((serveRun S ws P (qtyOf l)).2.1 = false ∧ e = .returned (.tuple #[.slice none 0 0, .bool false])) ∨
      ((serveRun S ws P (qtyOf l)).2.1 = true ∧ ∃ v, e = .returned (.tuple #[v, .bool true]) ∧ w'.ownsRow w.heap.size 42 6 v (leftL l (serveRun S ws P (qtyOf l)).2.2).length (lcells (leftL l (serveRun S ws P (qtyOf l)).2.2)))) := by
  have HC := Lib.hid (rfill_may v1 v2 l S ws P w h1 h2 hs hb hS hP h40 h60)
  obtain ⟨i0, hi, hz0, hz1, hz2⟩ := info_parts infoLot
  have I1 := Lib.hid hi
  have I2 := Lib.hid hz0
  have I3 := Lib.hid hz1
  have I4 := Lib.hid hz2
  obtain ⟨A, c, rfl, hc1, hc2, hcz, hl1⟩ := id h1
  have HL1 := Lib.hid hl1
  have HSZ := Lib.hid hs
  have HB := Lib.hid hb
  have HST := Lib.hid hS
  have HPD := Lib.hid hP
  clear h1 h2 hs hb hS hP hi hz0 hz1 hz2 hl1
  go_enter Try.func16, Try.ntmps16
  go_wp2_with fail
  refine HC.out.mono ?_
  rintro e w2 ⟨hb2', h⟩
  have HB2 := Lib.hid hb2'
  clear hb2' HC
  rcases h with ⟨hr', rfl⟩ | ⟨hr', uv, U, rfl, hU', ho'⟩
  · have hr := Lib.hid hr'
    clear hr'
    go_wp2
    go_ret2
    exact ⟨HB2.out, .inl ⟨hr.out, rfl⟩⟩
  · have HR := Lib.hid hr'
    obtain ⟨q, hq⟩ : ∃ q, (serveRun S ws P (qtyOf l)).2.2 = q := ⟨_, rfl⟩
    have HQE := Lib.hid hq
    have HSV : Hid (Sv l ws U q) := Lib.hid ⟨HB.out, S, P, HST.out, HPD.out, hr', hU', hq⟩
    have HU : Hid (USl w2 w2.heap.size uv U) := Lib.hid (USl.own ho')
    obtain ⟨Au, cu, rfl, hcu1, hcu2, _⟩ := own_form ho'
    have hUl : U.length ≤ 2400 := Nat.le_trans HSV.out.len (Nat.le_trans (Nat.mul_le_mul h60 h40) (by omega))
    have HUQ : Hid (∀ u ∈ U, 0 ≤ u.qty) := Lib.hid (fun u hu => ((HSV.out.sized HSZ.out).2 u hu).1)
    have HLU : Hid (Lies w2 w2.heap.size Au (ucells U)) := Lib.hid (by obtain ⟨_, _, e, _, _, _, h⟩ := HU.out; cases e; exact h)
    clear hr' hq hU' ho' HU
    go_wp2_with fail
    go_loopw [8, 9] (fun ov i wr => ∃ k : Nat, k ≤ l.length ∧ i = .int .i64 k ∧ Hid (wr.ownsRow w.heap.size 42 6 ov (leftL (l.take k) q).length (lcells (leftL (l.take k) q))) ∧ Hid (Below w.heap.size w wr) ∧ Hid (Lies wr wr.heap.size Au (ucells U)) ∧ Hid (∀ b, ov.ownBlock = some b → w2.heap.size ≤ b) ∧ Hid (Below w2.heap.size w2 wr)) (fun _ i _ => l.length - (intOf i).toNat)
    case atStart => exact ⟨0, Nat.zero_le _, rfl, Lib.hid (World.ownsRow_nil _ _ _ _), HB2, HLU, Lib.hid (fun b h => by cases h), Lib.hid (Below.refl _ _)⟩
    case round =>
      clear HB2
      obtain ⟨k, hk, rfl, HO, HBr, HLr, HOB, HB2r⟩ := hrel
      by_cases hlt : k < l.length
      · obtain ⟨x, hx⟩ : ∃ x, l[k]? = some x := ⟨_, List.getElem?_eq_getElem hlt⟩
        obtain ⟨ad, ea, _, x0, x1, x2, x3, x4, x5⟩ := (HL1.out.below HBr.out).six hx
        subst ea
        have HX := Lib.hid hx
        have hle := leftL_le l q k
        have hxr : 1 ≤ x.qty ∧ x.qty ≤ 1073741824 := lright_qty ((mayB_true HB.out).2.2.1 x (List.mem_of_getElem? hx))
        have HQX : Hid (q x.id = x.qty - usedOf U x.id) := Lib.hid (by rw [HSV.out.left x.id, qtyOf_mem (mayB_true HB.out).2.2.2.2 (List.mem_of_getElem? hx)])
        have HQR := Lib.hid (HSV.out.range x.id)
        obtain ⟨bl, hbE, hbw, hblw⟩ : ∃ b, wr.heap.size = b ∧ w2.heap.size ≤ b ∧ w.heap.size ≤ b := ⟨_, rfl, HB2r.out.size, HBr.out.size⟩
        obtain ⟨W5, hW5⟩ : ∃ W, W = wr.alloc (.cells #[.int .i64 x.id, .string ⟨x.item.toArray⟩, .int .i64 x.fr, .int .i64 x.un, .int .i64 x.qty, .bool x.arr] 42) := ⟨_, rfl⟩
        have HRA : Hid (RowAt W5 bl x) := Lib.hid (by rw [hW5, ← hbE]; exact rowAt_new wr x)
        have HO5 : Hid (W5.ownsRow w.heap.size 42 6 _ (leftL (l.take k) q).length (lcells (leftL (l.take k) q))) := Lib.hid (by rw [hW5]; exact HO.out.alloc _)
        have HB5 : Hid (Below w.heap.size w W5) := Lib.hid (by rw [hW5]; exact HBr.out.alloc HBr.out.size _)
        have HB25 : Hid (Below w2.heap.size w2 W5) := Lib.hid (by rw [hW5]; exact HB2r.out.alloc HB2r.out.size _)
        have HON := Lib.hid (fun b h => by have := (HO.out.lt b h).2; omega : ∀ b, _ = some b → b < bl)
        have hz5 : bl < W5.heap.size := by rw [hW5, ← hbE]; simp
        have HFZ : Hid (∀ o, W5.frozen? ⟨bl, o, none⟩ = false) := Lib.hid (fun o => by rw [hW5, ← hbE]; simp)
        have HWE := Lib.hid hW5
        have HBE := Lib.hid hbE
        clear hx hW5 hbE
        go_wp2_with fail
        rw [HBE.out, ← HWE.out]
        clear HO HBr HB2r HWE HBE x0 x1 x2 x3 x4 x5 HLr
        go_loopw [11] (fun i wr => ∃ j : Nat, j ≤ U.length ∧ i = .int .i64 j ∧ Hid (RowAt wr bl (lessQ x (usedOf (U.take j) x.id))) ∧ Hid (wr.ownsRow w.heap.size 42 6 _ (leftL (l.take k) q).length (lcells (leftL (l.take k) q))) ∧ Hid (Below w.heap.size w wr) ∧ Hid (Below w2.heap.size w2 wr) ∧ bl < wr.heap.size ∧ Hid (∀ o, wr.frozen? ⟨bl, o, none⟩ = false)) (fun i _ => U.length - (intOf i).toNat)
        case atStart => exact ⟨0, Nat.zero_le _, rfl, by rw [List.take_zero, show usedOf [] x.id = 0 from rfl, lessQ_zero]; exact HRA, HO5, HB5, HB25, hz5, HFZ⟩
        case round =>
          clear HRA HO5 HB5 HB25 hz5 HFZ
          obtain ⟨j, hj, rfl, HRA, HO5, HB5, HB25, hz5, HFZ⟩ := hrel
          have hub := usedOf_take HUQ.out x.id j
          have hqr := HQR.out
          have hqx := HQX.out
          by_cases hjl : j < U.length
          · obtain ⟨u, hu⟩ : ∃ u, U[j]? = some u := ⟨_, List.getElem?_eq_getElem hjl⟩
            obtain ⟨adu, ea, hadb, u0, u1, u2⟩ := (HLU.out.below HB25.out).rowU hu
            subst ea
            have hst := Lib.hid (usedOf_step hu x.id)
            have hub2 := usedOf_take HUQ.out x.id (j + 1)
            rw [hst.out] at hub2
            have HADB : Hid ((adu.add (j * 3)).block ≠ bl) := Lib.hid (by rw [addr_block]; omega)
            have HUr : Hid (RowU wr (adu.add (j * 3)) u) := Lib.hid ⟨u0, u1, u2⟩
            have huq := HUQ.out u (List.mem_of_getElem? hu)
            generalize usedOf (U.take j) x.id = n at HRA hst hub hub2
            obtain ⟨a0, a1, a2, a3, a4, a5⟩ := HRA.out
            unfold lessQ at a0 a4
            simp only at a0 a4
            clear hu
            by_cases hlot : u.lot = x.id
            · rw [if_pos hlot] at hub2
              have hd : (u.lot == x.id) = true := by simp [hlot]
              have HLO := Lib.hid hlot
              clear hlot
              have HSUB : Hid (IntKind.i64.wrap (x.qty - n - u.qty) = x.qty - n - u.qty) := Lib.hid (by rw [IntKind.wrap_i64]; omega)
              go_wp2
              go_quiet (fail)
              go_wp2_with fail
              have hqa : wr.cell? ⟨bl, 4, none⟩ = some (.int .i64 (x.qty - n)) := a4
              have hfa : wr.frozen? ⟨bl, 4, none⟩ = false := HFZ.out 4
              clear hqx a0 a1 a2 a3 a4 a5
              refine wp_region_held_drew (S := fun w' => RowU w' (adu.add (j * 3)) u) (by kernel_rfl) ((HUr.out : RowU wr.drew (adu.add (j * 3)) u)) (fun hS => ?_)
              refine wpAnyH_take (i := 0) (v := (.pointer (some ⟨bl, 4, none⟩))) rfl (by kernel_rfl) (by kernel_rfl) (by kernel_rfl) (fun _ _ _ h => h) (Or.inl ⟨by kernel_rfl, fun w' hS' => by go_simp⟩) hS ?_
              refine wpAnyH_take (i := 2) (v := (.slice (some adu) U.length cu)) rfl (by kernel_rfl) (by kernel_rfl) (by kernel_rfl) (fun _ _ _ h => h) (Or.inl ⟨by kernel_rfl, fun w' hS' => by go_simp⟩) hS ?_
              refine wpAnyH_take (i := 3) (v := (.int .i64 (j : Int))) rfl (by kernel_rfl) (by kernel_rfl) (by kernel_rfl) (fun _ _ _ h => h) (Or.inl ⟨by kernel_rfl, fun w' hS' => by go_simp⟩) hS ?_
              refine wpAnyH_take (i := 4) (v := (.pointer (some (adu.add (j * 3))))) rfl (by kernel_rfl) (by kernel_rfl) (by kernel_rfl) (fun _ _ _ h => h) (Or.inl ⟨by kernel_rfl, fun w' hS' => by go_simp⟩) hS ?_
              refine wpAnyH_take (i := 5) (v := (.pointer (some ⟨(adu.add (j * 3)).block, (adu.add (j * 3)).off + 2, none⟩))) rfl (by kernel_rfl) (by kernel_rfl) (by kernel_rfl) (fun _ _ _ h => h) (Or.inl ⟨by kernel_rfl, fun w' hS' => by go_simp⟩) hS ?_
              refine wpAnyH_take (i := 6) (v := (.int .i64 u.qty)) rfl (by kernel_rfl) (by kernel_rfl) (by kernel_rfl) (fun _ _ _ h => h) (Or.inl ⟨by kernel_rfl, fun w' hS' => by obtain ⟨d0, d1, d2⟩ := hS'; go_simp⟩) hS ?_
              refine wpAnyH_ready (rs := [1]) (by kernel_rfl) (by simp) ?_
              refine AllReadyH.cons rfl (fun K hK => ?_) AllReadyH.nil
              go_simp
              skip
              refine hK.out _ _ (hS) (fun hS => ?_)
              clear hK K
              refine wpAnyH_take (i := 7) (v := (.int .i64 (x.qty - n - u.qty))) rfl (by kernel_rfl) (by kernel_rfl) (by kernel_rfl) (fun _ _ _ h => h) (Or.inl ⟨by kernel_rfl, fun w' hS' => by have hsub := HSUB.out; go_simp⟩) hS ?_
              refine wpAnyH_take (i := 8) (v := (.pointer (some ⟨bl, 4, none⟩))) rfl (by kernel_rfl) (by kernel_rfl) (by kernel_rfl) (fun _ _ _ h => h) (Or.inl ⟨by kernel_rfl, fun w' hS' => by go_simp⟩) hS ?_
              refine wpAnyH_ready (rs := [9]) (by kernel_rfl) (by simp) ?_
              refine AllReadyH.cons rfl (fun K hK => ?_) AllReadyH.nil
              go_simp
              skip
              refine hK.out _ _ (rowU_set hS HADB.out _ _) (fun hS => ?_)
              clear hK K
              refine wpAnyH_done (by kernel_rfl) ?_ _
              go_simp
              first | (rename_i hnext; refine hnext _ _ ?_; clear hnext) | (rename_i hnext _; refine hnext _ _ ?_; clear hnext) | (rename_i hnext _ _; refine hnext _ _ ?_; clear hnext) | (rename_i hnext _ _ _; refine hnext _ _ ?_; clear hnext) | (rename_i hnext _ _ _ _; refine hnext _ _ ?_; clear hnext) | (rename_i hnext _ _ _ _ _; refine hnext _ _ ?_; clear hnext) | (rename_i hnext _ _ _ _ _ _; refine hnext _ _ ?_; clear hnext) | (rename_i hnext _ _ _ _ _ _ _; refine hnext _ _ ?_; clear hnext) | (rename_i hnext _ _ _ _ _ _ _ _; refine hnext _ _ ?_; clear hnext) | (rename_i hnext _ _ _ _ _ _ _ _ _; refine hnext _ _ ?_; clear hnext) | (rename_i hnext _ _ _ _ _ _ _ _ _ _; refine hnext _ _ ?_; clear hnext) | (rename_i hnext _ _ _ _ _ _ _ _ _ _ _; refine hnext _ _ ?_; clear hnext) | (rename_i hnext _ _ _ _ _ _ _ _ _ _ _ _; refine hnext _ _ ?_; clear hnext) | (rename_i hnext _ _ _ _ _ _ _ _ _ _ _ _ _; refine hnext _ _ ?_; clear hnext)
              have HRN : Hid (RowAt (wr.setCell ⟨bl, 4, none⟩ (.int .i64 (x.qty - n - u.qty))) bl (lessQ x (n + u.qty))) := Lib.hid (rowAt_qty HRA.out HRA.out.2.2.2.2.1)
              go_wp2
              go_roundw
              case rel => exact ⟨j + 1, by omega, by go_num, Lib.hid (by rw [hst.out, if_pos HLO.out]; exact HRN.out.kept (fun o => rfl)), Lib.hid (ownsRow_setCell_other HO5.out (a := ⟨bl, 4, none⟩) (fun e => by have := HON.out bl e; omega) _), Lib.hid ((below_draws HB5.out _).setCell (p := ⟨bl, 4, none⟩) hblw _), Lib.hid ((below_draws HB25.out _).setCell (p := ⟨bl, 4, none⟩) hbw _), by simpa using hz5, Lib.hid (fun o => by simpa using HFZ.out o)⟩
              case measure => simp [intOf]; omega
            · have hd : (u.lot == x.id) = false := by simp [hlot]
              have HLO := Lib.hid hlot
              clear hlot
              go_wp2
              go_quiet (fail)
              go_wp2
              go_roundw
              case rel => exact ⟨j + 1, by omega, by go_num, Lib.hid (by rw [hst.out, if_neg HLO.out, Int.add_zero]; exact HRA.out.kept (fun o => rfl)), HO5, Lib.hid (below_draws HB5.out _), Lib.hid (below_draws HB25.out _), by simpa using hz5, HFZ⟩
              case measure => simp [intOf]; omega
          · obtain rfl : j = U.length := by omega
            rw [List.take_of_length_le (Nat.le_refl _)] at HRA hub
            have HRQ : Hid (RowAt wr bl (withQ q x)) := Lib.hid (by have h := HRA.out; unfold lessQ at h; unfold withQ; rw [HQX.out]; exact h)
            obtain ⟨a0, a1, a2, a3, a4, a5⟩ := HRQ.out
            unfold withQ at a0 a1 a2 a3 a4 a5
            simp only at a0 a1 a2 a3 a4 a5
            clear HRA hqx
            by_cases hqp : 0 < q x.id
            · have hd : decide (0 < q x.id) = true := decide_eq_true hqp
              have hstq := Lib.hid (leftL_yes HX.out hqp)
              have hn6 : ∀ (i : Nat) (v : Value), (encL (withQ q x))[i]? = some v → (wr.alloc (.cells #[.int .i64 x.id, .string ⟨x.item.toArray⟩, .int .i64 x.fr, .int .i64 x.un, .int .i64 (q x.id), .bool x.arr] 42)).cell? ((⟨wr.heap.size, 0, none⟩ : Addr).add i) = some v := six_new wr (withQ q x) 42
              have HN6 := Lib.hid hn6
              clear hqp hn6
              go_wp2_with (at_builtin; refine wpList_append_any _ rfl _ _ 22 rfl w.heap.size 42 i0 _ 6 56 Try.underlying22 I1.out I2.out I3.out I4.out rfl (by decide) _ _ _ rfl (HO5.out.alloc _) (some ⟨wr.heap.size, 0, none⟩) 1 1 (encL (withQ q x)) rfl rfl (fun h => by cases h) (fun a ha => by cases ha; exact HN6.out) (encL_one _) (by unfold maxLen; omega) (by omega) (by have := HB5.out.size; simp only [World.size_alloc]; omega) ?_; intro v7 w7 hown7' hg7' hq0; have HO7 := Lib.hid hown7'; have HG7 := Lib.hid hg7'.out; have HAT := Lib.hid hq0.out; clear hown7' hg7' hq0)
              go_roundw
              case rel => exact ⟨k + 1, by omega, by go_num, Lib.hid (by rw [hstq.out, lcells_append, List.length_append]; simpa [lcells] using HO7.out), Lib.hid ((HB5.out.alloc HB5.out.size _).grown HG7.out (by have := HB5.out.size; simp only [World.size_alloc]; omega) (fun b hb => (HO5.out.lt b hb).1)), Lib.hid (by
                have hb2 : Below w2.heap.size w2 w7 := (HB25.out.alloc HB25.out.size _).grown HG7.out (by have := HB25.out.size; simp only [World.size_alloc]; omega) (fun b hb => HOB.out b hb)
                exact (HLU.out.below hb2).mono hb2.size), Lib.hid (fun b hb => by rcases HAT.out with h | h; exact HOB.out b (h.symm.trans hb); rw [h] at hb; cases hb; have := HB25.out.size; simp only [World.size_alloc]; omega), Lib.hid ((HB25.out.alloc HB25.out.size _).grown HG7.out (by have := HB25.out.size; simp only [World.size_alloc]; omega) (fun b hb => HOB.out b hb))⟩
              case measure => simp [intOf]; omega
            · have hd : decide (0 < q x.id) = false := decide_eq_false hqp
              have hstq := Lib.hid (leftL_no HX.out hqp)
              clear hqp
              go_wp2
              go_roundw
              case rel => exact ⟨k + 1, by omega, by go_num, Lib.hid (by rw [hstq.out]; exact HO5.out), HB5, Lib.hid ((HLU.out.below HB25.out).mono HB25.out.size), HOB, HB25⟩
              case measure => simp [intOf]; omega
      · obtain rfl : k = l.length := by omega
        have hall : l.take l.length = l := List.take_of_length_le (Nat.le_refl _)
        have h := HO.out
        rw [hall] at h
        have HOF := Lib.hid h
        obtain ⟨Ao, co, rfl, _, _, _⟩ := own_form h
        clear h
        go_wp2
        go_ret2
        exact ⟨HBr.out, .inr ⟨HR.out, _, rfl, by rw [HQE.out]; exact HOF.out⟩⟩
end Go.Proofs.Ytddnfikjfmfhfaa
end
section
/- storemankit.LentWants: a list with marks behind its end. Written by gen_flent.py. -/
namespace Go.Proofs.Ytddnfikjfmfhfaa
open Go.ChangeShapes Go.WideShapes Go.ChangeAt Go.RowKit Go.Maps
set_option linter.unusedVariables false


def markW (k i : Nat) : Wt := ⟨[], 1000003 * ((k : Int) + 7) + (i : Int), 0⟩
def marksW (k n : Nat) : List Wt := (List.range n).map fun i => markW k i
theorem marksW_succ (k n : Nat) : marksW k (n + 1) = marksW k n ++ [markW k n] := by simp [marksW, List.range_succ]
theorem marksW_len (k n : Nat) : (marksW k n).length = n := by simp [marksW]
theorem marksW_get (k n i : Nat) (h : i < n) : (marksW k n)[i]? = some (markW k i) := by simp [marksW, h]
theorem markw_any (k i : Int) (w : World) (h0 : 0 ≤ k) (h1 : k ≤ 1000000) (h2 : 0 ≤ i) (h3 : i ≤ 1099511627776) :
    Calls Try.prog 31 #[.int .i64 k, .int .i64 i] w fun e w' => e = .returned (.agg #[.string ⟨#[]⟩, .int .i64 (1000003 * (k + 7) + i), .int .i64 0]) ∧ w.alloc (.cells #[.string ⟨#[]⟩, .int .i64 (1000003 * (k + 7) + i), .int .i64 0] 47) = w' := by
  go_enter Try.func31, Try.ntmps31
  go_wp2_with (go_at_call 46; ((with_reducible refine (mark_any k i _ h0 h1 h2 h3).mono ?_); rintro e w' ⟨rfl, rfl⟩))
  exact bodyPost_ret (v := .agg #[.string ⟨#[]⟩, .int .i64 (1000003 * (k + 7) + i), .int .i64 0]) (by simp [results, Try.results31, go_sem]) rfl ⟨rfl, rfl⟩

theorem neww_at (w : World) (n : Nat) (hn : w.heap.size = n) (M : Int) (t : TypeId) : ∀ (j : Nat) (u : Value), [.string ⟨#[]⟩, .int .i64 M, .int .i64 0][j]? = some u → (w.alloc (.cells #[.string ⟨#[]⟩, .int .i64 M, .int .i64 0] t)).cell? ((⟨n, 0, none⟩ : Addr).add j) = some u := by
  subst hn
  intro j u h
  rw [fresh_cell, ← h, ← Array.getElem?_toList]
theorem onew_mark (M : Int) : ∀ u ∈ [Value.string ⟨#[]⟩, .int .i64 M, .int .i64 0], u.oneCell' = true := by
  intro u hu
  simp at hu
  rcases hu with rfl | rfl | rfl <;> rfl

/-- What is lent: the parts, twelve marks behind their end. -/
def LentToW (l : List Wt) (w : World) (e : Ending) (w' : World) : Prop :=
  e = .returned (.slice (some ⟨w.heap.size, 0, none⟩) l.length (l.length + 12)) ∧ Below w.heap.size w w' ∧
  w'.ownsRow w.heap.size 47 3 (.slice (some ⟨w.heap.size, 0, none⟩) (l.length + 12) (l.length + 12)) (l.length + 12) (wcells (l ++ marksW 1 12))

set_option maxRecDepth 100000 in
set_option maxHeartbeats 1000000 in
theorem lentw_any (v : Value) (l : List Wt) (B : Nat) (w : World) (hv : WSl w B v l) (hB : B ≤ w.heap.size) (hlen : l.length ≤ 1048576) :
    Calls Try.prog 12 #[v] w (LentToW l w) := by
  obtain ⟨i0, hi, hz0, hz1, hz2⟩ := info_parts infoWant
  obtain ⟨A, c, rfl, hc1, hc2, hcz, hl⟩ := id hv
  have H1 := Lib.hid hi
  have H2 := Lib.hid hz0
  have H3 := Lib.hid hz1
  have H4 := Lib.hid hz2
  clear hi hz0 hz1 hz2
  go_enter Try.func12, Try.ntmps12
  go_wp2_with (first
    | (at_make; refine wpList_make_own _ rfl _ _ 23 rfl w.heap.size 47 i0 (.agg #[.string ⟨#[]⟩, .int .i64 0, .int .i64 0]) 3 Try.underlying23 H1.out H2.out H3.out .i64 .i64 _ (l.length + 12) rfl rfl (by omega) (by rw [H4.out]; omega) (by unfold maxLen; omega) (Nat.le_refl _) ?_; intro w1 hown1 hg1)
    | (at_builtin; refine wpList_append_fits_any _ rfl (.tmp 9) (.tmp 10) 23 rfl w.heap.size 47 i0 3 Try.underlying23 H1.out H3.out w.heap.size 0 (l.length + 12) [] rfl hown1 A l.length c (wcells l) rfl (wcells_length l) (fun h => ⟨by have := hcz h; omega, hcz h⟩) (fun ad had j u hu => by have h2 := (hl.below ((Below.refl _ _).grown hg1 hB (fun k hk => by cases hk))).get hu; obtain ⟨ad', e1, _, e2⟩ := h2; rw [had] at e1; injection e1 with e1; rw [e1]; exact e2) (wcells_one l) (by omega) ?_; intro w2 hown2 hg2))
  have hb2 : Below w.heap.size w w2 := ((Below.refl _ _).grown hg1 (Nat.le_refl _) (fun k hk => by cases hk)).grown hg2 hg1.size (fun k hk => by cases hk; exact Nat.le_refl _)
  have hz : w.heap.size < w2.heap.size := by have := hown2.lt w.heap.size rfl; omega
  clear hown1 hg1 hg2
  simp only [Nat.zero_add, List.nil_append] at hown2
  go_loopw [3, 4] (fun v i wr => ∃ k : Nat, k ≤ 12 ∧ i = .int .i64 k ∧ v = .slice (some ⟨w.heap.size, 0, none⟩) (l.length + k) (l.length + 12) ∧
      wr.ownsRow w.heap.size 47 3 (.slice (some ⟨w.heap.size, 0, none⟩) (l.length + k) (l.length + 12)) (l.length + k) (wcells (l ++ marksW 1 k)) ∧ Below w.heap.size w wr ∧ w.heap.size < wr.heap.size)
    (fun _ i _ => 12 - (intOf i).toNat)
  case atStart => exact ⟨0, by omega, rfl, rfl, by simpa [marksW] using hown2, hb2, hz⟩
  case round =>
    obtain ⟨k, hk, rfl, rfl, hrow, hbr, hzr⟩ := hrel
    by_cases hlt : k < 12
    · have hmk : (1000003 * ((1 : Int) + 7) + (k : Int)) = 8000024 + (k : Int) := by omega
      have HMK := Lib.hid hmk
      clear hmk
      go_wp2_with (first
        | (go_at_call 31; ((with_reducible refine (markw_any 1 k _ (by omega) (by omega) (by omega) (by omega)).mono ?_); rintro e w' ⟨rfl, rfl⟩))
        | (at_builtin; refine wpList_append_fits _ rfl (.tmp 16) (.tmp 19) 23 rfl w.heap.size 47 i0 3 Try.underlying23 H1.out H3.out w.heap.size (l.length + k) (l.length + 12) _ rfl ((hrow.alloc _).alloc _) ⟨wr.heap.size + 1, 0, none⟩ 1 1 [.string ⟨#[]⟩, .int .i64 (8000024 + (k : Int)), .int .i64 0] rfl rfl (neww_at _ _ (by simp) _ _) (onew_mark _) (by omega) ?_; intro w3 hown3 hg3))
      have hst : wcells (l ++ marksW 1 k) ++ [.string ⟨#[]⟩, .int .i64 (8000024 + (k : Int)), .int .i64 0] = wcells (l ++ marksW 1 (k + 1)) := by
        rw [marksW_succ, ← HMK.out, ← List.append_assoc, wcells_append (l ++ marksW 1 k)]; rfl
      rw [hst] at hown3
      have hb3 : Below w.heap.size w w3 := ((hbr.alloc hbr.size _).alloc (by simp only [World.size_alloc]; omega) _).grown hg3 (by simp only [World.size_alloc]; omega) (fun j hj => by cases hj; exact Nat.le_refl _)
      have hz3 := hg3.size
      simp only [World.size_alloc] at hz3
      have HST := Lib.hid hst
      clear hst
      go_roundw
      case rel => exact ⟨k + 1, by omega, by go_num, rfl, hown3, hb3, by omega⟩
      case measure => simp [intOf]; omega
    · obtain rfl : k = 12 := by omega
      go_wp2
      go_ret
      exact ⟨rfl, hbr, hrow⟩
end Go.Proofs.Ytddnfikjfmfhfaa
end
section
/- storemankit.KeptWants: whether a list and its marks are still as they were. Written by gen_flent.py. -/
namespace Go.Proofs.Ytddnfikjfmfhfaa
open Go.ChangeShapes Go.WideShapes Go.ChangeAt Go.RowKit Go.Maps Go.Sort
set_option linter.unusedVariables false

/-- It is itself. -/
def EqW (x y : Wt) : Prop := ∀ w, (binOp .eql 47 (.agg #[.string ⟨x.item.toArray⟩, .int .i64 x.day, .int .i64 x.qty]) (.agg #[.string ⟨y.item.toArray⟩, .int .i64 y.day, .int .i64 y.qty])).run Try.prog w = .ok (.bool true) w
theorem eqW_self (x : Wt) : EqW x x := fun w => by have := eql_W x x w; rw [decide_eq_true rfl] at this; exact this
def EqMW (M : Int) : Prop := ∀ w, (binOp .eql 47 (.agg #[.string ⟨#[]⟩, .int .i64 M, .int .i64 0]) (.agg #[.string ⟨#[]⟩, .int .i64 M, .int .i64 0])).run Try.prog w = .ok (.bool true) w
theorem eqW_mark (M : Int) : EqMW M := eqW_self ⟨[], M, 0⟩
theorem markw_grown (k i M : Int) (w : World) (n : Nat) (os : Array Obj) (hM : 1000003 * (k + 7) + i = M) (h0 : 0 ≤ k) (h1 : k ≤ 1000000) (h2 : 0 ≤ i) (h3 : i ≤ 1099511627776) :
    Calls Try.prog 31 #[.int .i64 k, .int .i64 i] (grow (w.drewN n) os) fun e w'' => e = .returned (.agg #[.string ⟨#[]⟩, .int .i64 M, .int .i64 0]) ∧ ∃ p : GrownBy, w'' = grow (w.drewN p.n) p.os := by
  subst hM
  exact Calls.grown_of ((markw_any k i _ h0 h1 h2 h3).mono fun e w' ⟨he, hw⟩ => ⟨he, 0, #[.cells #[.string ⟨#[]⟩, .int .i64 (1000003 * (k + 7) + i), .int .i64 0] 47], by rw [← hw, alloc_eq_grow]; rfl⟩)

set_option maxRecDepth 100000 in
set_option maxHeartbeats 1000000 in
theorem keptw_any (v : Value) (l : List Wt) (B g : Nat) (w : World) (hv : WSl w B v l) (hg : Lies w B (some ⟨g, 0, none⟩) (wcells (l ++ marksW 1 12))) (hB : B ≤ w.heap.size) (hlen : l.length ≤ 1048576) :
    Calls Try.prog 21 #[.slice (some ⟨g, 0, none⟩) l.length (l.length + 12), v] w fun e w' => e = .returned (.bool true) ∧ Go.RowKit.Below w.heap.size w w' := by
  obtain ⟨A, c, rfl, hc1, hc2, hcz, hl⟩ := id hv
  have hm : Try.prog.follows .mixedOrders = true := by kernel_rfl
  have HM := Lib.hid hm
  clear hm
  go_enter Try.func21, Try.ntmps21
  go_wp2
  go_loopw [6] (fun i wr => ∃ k : Nat, k ≤ l.length + 12 ∧ i = .int .i64 k ∧ Go.RowKit.Below w.heap.size w wr) (fun i _ => l.length + 12 - (intOf i).toNat)
  case atStart => exact ⟨0, Nat.zero_le _, rfl, Below.refl _ _⟩
  case round =>
    obtain ⟨k, hk, rfl, hbr⟩ := hrel
    by_cases hlt : k < l.length
    · obtain ⟨p, hp⟩ : ∃ p, l[k]? = some p := ⟨_, List.getElem?_eq_getElem hlt⟩
      obtain ⟨ad, hA, _, hp0, hp1, hp2⟩ := (hl.below (hbr.mono hB)).rowW hp
      subst hA
      have hpp : (l ++ marksW 1 12)[k]? = some p := by rw [List.getElem?_append_left hlt, hp]
      obtain ⟨ag, hag, _, hg0, hg1, hg2⟩ := (hg.below (hbr.mono hB)).rowW hpp
      injection hag with hag
      subst hag
      rw [addr0] at hg0 hg1 hg2
      have heq : EqW p p := eqW_self p
      unfold EqW at heq
      have HN := Lib.hid hp
      have HPP := Lib.hid hpp
      clear hp hpp
      have hd1 : decide (k < l.length) = true := decide_eq_true (by omega)
      have hd2 : decide (l.length ≤ k) = false := decide_eq_false (by omega)
      go_wp2
      go_quiet (fail)
      go_wp2
      go_roundw
      case rel => exact ⟨k + 1, by omega, by go_num, below_draws hbr _⟩
      case measure => simp [intOf]; omega
    · by_cases hlt2 : k < l.length + 12
      · have hpp : (l ++ marksW 1 12)[k]? = some (markW 1 (k - l.length)) := by rw [List.getElem?_append_right (by omega), marksW_get 1 12 _ (by omega)]
        obtain ⟨ag, hag, hgb, hg0, hg1, hg2⟩ := (hg.below (hbr.mono hB)).rowW hpp
        injection hag with hag
        subst hag
        rw [addr0] at hg0 hg1 hg2
        have hgs : g < wr.heap.size := by have := hbr.size; show (⟨g, 0, none⟩ : Addr).block < _; omega
        have hq0 : ∀ n os, (grow (wr.drewN n) os).cell? ⟨g, k * 3, none⟩ = some (.string ⟨#[]⟩) := fun n os => cell_grown hgs hg0 n os
        have hq1 : ∀ n os, (grow (wr.drewN n) os).cell? ⟨g, k * 3 + 1, none⟩ = some (.int .i64 (8000024 + ((k : Int) - (l.length : Int)))) := fun n os => by
          rw [cell_grown hgs hg1 n os]
          simp only [markW]
          congr 2
          omega
        have hq2 : ∀ n os, (grow (wr.drewN n) os).cell? ⟨g, k * 3 + 2, none⟩ = some (.int .i64 0) := fun n os => cell_grown hgs hg2 n os
        clear hg0 hg1 hg2
        have heq := eqW_mark (8000024 + ((k : Int) - (l.length : Int)))
        unfold EqMW at heq
        have HPP := Lib.hid hpp
        clear hpp
        have hd1 : decide (k < l.length) = false := decide_eq_false (by omega)
        have hd2 : decide (l.length ≤ k) = true := decide_eq_true (by omega)
        have hle0 : 0 ≤ (k : Int) - (l.length : Int) := by omega
        go_wp2
        have hm := HM.out
        refine wp_region_quiet_grown (by assumption) (by kernel_rfl) ?_
        repeat (go_big_quiet_step ((go_at_call 31; exact markw_grown 1 ((k : Int) - (l.length : Int)) (8000024 + ((k : Int) - (l.length : Int))) _ _ _ (by omega) (by omega) (by omega) (by omega) (by omega))))
        refine wpQuiet_nil ?_
        intro _ hw'
        obtain ⟨⟨nq, osq⟩, hw''⟩ := hw'
        subst hw''
        clear hm
        have hbq := below_grow hbr hbr.size nq osq
        go_wp2
        go_roundw
        case rel => exact ⟨k + 1, by omega, by go_num, hbq⟩
        case measure => simp [intOf]; omega
      · obtain rfl : k = l.length + 12 := by omega
        go_wp2
        go_ret
        exact ⟨rfl, hbr⟩
end Go.Proofs.Ytddnfikjfmfhfaa
end
section
/- storemankit.markPart, LentParts: a list of parts with marks behind its end. -/
namespace Go.Proofs.Ytddnfikjfmfhfaa
open Go.ChangeShapes Go.WideShapes Go.ChangeAt Go.RowKit Go.Maps
set_option linter.unusedVariables false


def markL (k i : Nat) : Lt := ⟨1000003 * ((k : Int) + 7) + (i : Int), [], 0, 0, 0, false⟩
def marksL (k n : Nat) : List Lt := (List.range n).map fun i => markL k i
theorem marksL_succ (k n : Nat) : marksL k (n + 1) = marksL k n ++ [markL k n] := by simp [marksL, List.range_succ]
theorem marksL_len (k n : Nat) : (marksL k n).length = n := by simp [marksL]
theorem marksL_get (k n i : Nat) (h : i < n) : (marksL k n)[i]? = some (markL k i) := by simp [marksL, h]
theorem markl_any (k i : Int) (w : World) (h0 : 0 ≤ k) (h1 : k ≤ 1000000) (h2 : 0 ≤ i) (h3 : i ≤ 1099511627776) :
    Calls Try.prog 30 #[.int .i64 k, .int .i64 i] w fun e w' => e = .returned (.agg #[.int .i64 (1000003 * (k + 7) + i), .string ⟨#[]⟩, .int .i64 0, .int .i64 0, .int .i64 0, .bool false]) ∧ w.alloc (.cells #[.int .i64 (1000003 * (k + 7) + i), .string ⟨#[]⟩, .int .i64 0, .int .i64 0, .int .i64 0, .bool false] 42) = w' := by
  go_enter Try.func30, Try.ntmps30
  go_wp2_with (go_at_call 46; ((with_reducible refine (mark_any k i _ h0 h1 h2 h3).mono ?_); rintro e w' ⟨rfl, rfl⟩))
  exact bodyPost_ret (v := .agg #[.int .i64 (1000003 * (k + 7) + i), .string ⟨#[]⟩, .int .i64 0, .int .i64 0, .int .i64 0, .bool false]) (by simp [results, Try.results30, go_sem]) rfl ⟨rfl, rfl⟩

theorem six_new_at (w : World) (n : Nat) (hn : w.heap.size = n) (M : Int) (t : TypeId) : ∀ (j : Nat) (u : Value), [.int .i64 M, .string ⟨#[]⟩, .int .i64 0, .int .i64 0, .int .i64 0, .bool false][j]? = some u → (w.alloc (.cells #[.int .i64 M, .string ⟨#[]⟩, .int .i64 0, .int .i64 0, .int .i64 0, .bool false] t)).cell? ((⟨n, 0, none⟩ : Addr).add j) = some u := by
  subst hn
  intro j u h
  rw [fresh_cell, ← h, ← Array.getElem?_toList]
theorem six_one (M : Int) : ∀ u ∈ [Value.int .i64 M, .string ⟨#[]⟩, .int .i64 0, .int .i64 0, .int .i64 0, .bool false], u.oneCell' = true := by
  intro u hu
  simp at hu
  rcases hu with rfl | rfl | rfl | rfl <;> rfl

/-- What is lent: the parts, twelve marks behind their end. -/
def LentToL (l : List Lt) (w : World) (e : Ending) (w' : World) : Prop :=
  e = .returned (.slice (some ⟨w.heap.size, 0, none⟩) l.length (l.length + 12)) ∧ Below w.heap.size w w' ∧
  w'.ownsRow w.heap.size 42 6 (.slice (some ⟨w.heap.size, 0, none⟩) (l.length + 12) (l.length + 12)) (l.length + 12) (lcells (l ++ marksL 1 12))

set_option maxRecDepth 100000 in
set_option maxHeartbeats 1000000 in
theorem lentl_any (v : Value) (l : List Lt) (B : Nat) (w : World) (hv : LSl w B v l) (hB : B ≤ w.heap.size) (hlen : l.length ≤ 1048576) :
    Calls Try.prog 11 #[v] w (LentToL l w) := by
  obtain ⟨i0, hi, hz0, hz1, hz2⟩ := info_parts infoLot
  obtain ⟨A, c, rfl, hc1, hc2, hcz, hl⟩ := id hv
  have H1 := Lib.hid hi
  have H2 := Lib.hid hz0
  have H3 := Lib.hid hz1
  have H4 := Lib.hid hz2
  clear hi hz0 hz1 hz2
  go_enter Try.func11, Try.ntmps11
  go_wp2_with (first
    | (at_make; refine wpList_make_own _ rfl _ _ 22 rfl w.heap.size 42 i0 (.agg #[.int .i64 0, .string ⟨#[]⟩, .int .i64 0, .int .i64 0, .int .i64 0, .bool false]) 6 Try.underlying22 H1.out H2.out H3.out .i64 .i64 _ (l.length + 12) rfl rfl (by omega) (by rw [H4.out]; omega) (by unfold maxLen; omega) (Nat.le_refl _) ?_; intro w1 hown1 hg1)
    | (at_builtin; refine wpList_append_fits_any _ rfl (.tmp 9) (.tmp 10) 22 rfl w.heap.size 42 i0 6 Try.underlying22 H1.out H3.out w.heap.size 0 (l.length + 12) [] rfl hown1 A l.length c (lcells l) rfl (lcells_length l) (fun h => ⟨by have := hcz h; omega, hcz h⟩) (fun ad had j u hu => by have h2 := (hl.below ((Below.refl _ _).grown hg1 hB (fun k hk => by cases hk))).get hu; obtain ⟨ad', e1, _, e2⟩ := h2; rw [had] at e1; injection e1 with e1; rw [e1]; exact e2) (lcells_one l) (by omega) ?_; intro w2 hown2 hg2))
  have hb2 : Below w.heap.size w w2 := ((Below.refl _ _).grown hg1 (Nat.le_refl _) (fun k hk => by cases hk)).grown hg2 hg1.size (fun k hk => by cases hk; exact Nat.le_refl _)
  have hz : w.heap.size < w2.heap.size := by have := hown2.lt w.heap.size rfl; omega
  clear hown1 hg1 hg2
  simp only [Nat.zero_add, List.nil_append] at hown2
  go_loopw [3, 4] (fun v i wr => ∃ k : Nat, k ≤ 12 ∧ i = .int .i64 k ∧ v = .slice (some ⟨w.heap.size, 0, none⟩) (l.length + k) (l.length + 12) ∧
      wr.ownsRow w.heap.size 42 6 (.slice (some ⟨w.heap.size, 0, none⟩) (l.length + k) (l.length + 12)) (l.length + k) (lcells (l ++ marksL 1 k)) ∧ Below w.heap.size w wr ∧ w.heap.size < wr.heap.size)
    (fun _ i _ => 12 - (intOf i).toNat)
  case atStart => exact ⟨0, by omega, rfl, rfl, by simpa [marksL] using hown2, hb2, hz⟩
  case round =>
    obtain ⟨k, hk, rfl, rfl, hrow, hbr, hzr⟩ := hrel
    by_cases hlt : k < 12
    · have hmk : (1000003 * ((1 : Int) + 7) + (k : Int)) = 8000024 + (k : Int) := by omega
      have HMK := Lib.hid hmk
      clear hmk
      go_wp2_with (first
        | (go_at_call 30; ((with_reducible refine (markl_any 1 k _ (by omega) (by omega) (by omega) (by omega)).mono ?_); rintro e w' ⟨rfl, rfl⟩))
        | (at_builtin; refine wpList_append_fits _ rfl (.tmp 16) (.tmp 19) 22 rfl w.heap.size 42 i0 6 Try.underlying22 H1.out H3.out w.heap.size (l.length + k) (l.length + 12) _ rfl ((hrow.alloc _).alloc _) ⟨wr.heap.size + 1, 0, none⟩ 1 1 [.int .i64 (8000024 + (k : Int)), .string ⟨#[]⟩, .int .i64 0, .int .i64 0, .int .i64 0, .bool false] rfl rfl (six_new_at _ _ (by simp) _ _) (six_one _) (by omega) ?_; intro w3 hown3 hg3))
      have hst : lcells (l ++ marksL 1 k) ++ [.int .i64 (8000024 + (k : Int)), .string ⟨#[]⟩, .int .i64 0, .int .i64 0, .int .i64 0, .bool false] = lcells (l ++ marksL 1 (k + 1)) := by
        rw [marksL_succ, ← HMK.out, ← List.append_assoc, lcells_append (l ++ marksL 1 k)]; rfl
      rw [hst] at hown3
      have hb3 : Below w.heap.size w w3 := ((hbr.alloc hbr.size _).alloc (by simp only [World.size_alloc]; omega) _).grown hg3 (by simp only [World.size_alloc]; omega) (fun j hj => by cases hj; exact Nat.le_refl _)
      have hz3 := hg3.size
      simp only [World.size_alloc] at hz3
      have HST := Lib.hid hst
      clear hst
      go_roundw
      case rel => exact ⟨k + 1, by omega, by go_num, rfl, hown3, hb3, by omega⟩
      case measure => simp [intOf]; omega
    · obtain rfl : k = 12 := by omega
      go_wp2
      go_ret
      exact ⟨rfl, hbr, hrow⟩
end Go.Proofs.Ytddnfikjfmfhfaa
end
section
/- storemankit.KeptLots, OverParts: whether a list of parts and its marks are still as they were; both written over. -/
namespace Go.Proofs.Ytddnfikjfmfhfaa
open Go.ChangeShapes Go.WideShapes Go.ChangeAt Go.RowKit Go.Maps Go.Sort
set_option linter.unusedVariables false

/-- A lot is itself. -/
def EqL (x y : Lt) : Prop := ∀ w, (binOp .eql 42 (.agg #[.int .i64 x.id, .string ⟨x.item.toArray⟩, .int .i64 x.fr, .int .i64 x.un, .int .i64 x.qty, .bool x.arr]) (.agg #[.int .i64 y.id, .string ⟨y.item.toArray⟩, .int .i64 y.fr, .int .i64 y.un, .int .i64 y.qty, .bool y.arr])).run Try.prog w = .ok (.bool true) w
theorem eq_self (x : Lt) : EqL x x := fun w => by have := eql_lot x x w; rw [decide_eq_true rfl] at this; exact this
def EqM (M : Int) : Prop := ∀ w, (binOp .eql 42 (.agg #[.int .i64 M, .string ⟨#[]⟩, .int .i64 0, .int .i64 0, .int .i64 0, .bool false]) (.agg #[.int .i64 M, .string ⟨#[]⟩, .int .i64 0, .int .i64 0, .int .i64 0, .bool false])).run Try.prog w = .ok (.bool true) w
theorem eq_mark (M : Int) : EqM M := eq_self ⟨M, [], 0, 0, 0, false⟩
theorem markl_grown (k i M : Int) (w : World) (n : Nat) (os : Array Obj) (hM : 1000003 * (k + 7) + i = M) (h0 : 0 ≤ k) (h1 : k ≤ 1000000) (h2 : 0 ≤ i) (h3 : i ≤ 1099511627776) :
    Calls Try.prog 30 #[.int .i64 k, .int .i64 i] (grow (w.drewN n) os) fun e w'' => e = .returned (.agg #[.int .i64 M, .string ⟨#[]⟩, .int .i64 0, .int .i64 0, .int .i64 0, .bool false]) ∧ ∃ p : GrownBy, w'' = grow (w.drewN p.n) p.os := by
  subst hM
  exact Calls.grown_of ((markl_any k i _ h0 h1 h2 h3).mono fun e w' ⟨he, hw⟩ => ⟨he, 0, #[.cells #[.int .i64 (1000003 * (k + 7) + i), .string ⟨#[]⟩, .int .i64 0, .int .i64 0, .int .i64 0, .bool false] 42], by rw [← hw, alloc_eq_grow]; rfl⟩)

set_option maxRecDepth 100000 in
set_option maxHeartbeats 1000000 in
theorem keptl_any (v : Value) (l : List Lt) (B g : Nat) (w : World) (hv : LSl w B v l) (hg : Lies w B (some ⟨g, 0, none⟩) (lcells (l ++ marksL 1 12))) (hB : B ≤ w.heap.size) (hlen : l.length ≤ 1048576) :
    Calls Try.prog 20 #[.slice (some ⟨g, 0, none⟩) l.length (l.length + 12), v] w fun e w' => e = .returned (.bool true) ∧ Go.RowKit.Below w.heap.size w w' := by
  obtain ⟨A, c, rfl, hc1, hc2, hcz, hl⟩ := id hv
  have hm : Try.prog.follows .mixedOrders = true := by kernel_rfl
  have HM := Lib.hid hm
  clear hm
  go_enter Try.func20, Try.ntmps20
  go_wp2
  go_loopw [6] (fun i wr => ∃ k : Nat, k ≤ l.length + 12 ∧ i = .int .i64 k ∧ Go.RowKit.Below w.heap.size w wr) (fun i _ => l.length + 12 - (intOf i).toNat)
  case atStart => exact ⟨0, Nat.zero_le _, rfl, Below.refl _ _⟩
  case round =>
    obtain ⟨k, hk, rfl, hbr⟩ := hrel
    by_cases hlt : k < l.length
    · obtain ⟨p, hp⟩ : ∃ p, l[k]? = some p := ⟨_, List.getElem?_eq_getElem hlt⟩
      obtain ⟨ad, hA, _, hp0, hp1, hp2, hp3, hp4, hp5⟩ := (hl.below (hbr.mono hB)).six hp
      subst hA
      have hpp : (l ++ marksL 1 12)[k]? = some p := by rw [List.getElem?_append_left hlt, hp]
      obtain ⟨ag, hag, _, hg0, hg1, hg2, hg3, hg4, hg5⟩ := (hg.below (hbr.mono hB)).six hpp
      injection hag with hag
      subst hag
      rw [addr0] at hg0 hg1 hg2 hg3 hg4 hg5
      have heq : EqL p p := eq_self p
      unfold EqL at heq
      have HN := Lib.hid hp
      have HPP := Lib.hid hpp
      clear hp hpp
      have hd1 : decide (k < l.length) = true := decide_eq_true (by omega)
      have hd2 : decide (l.length ≤ k) = false := decide_eq_false (by omega)
      go_wp2
      go_quiet (fail)
      go_wp2
      go_roundw
      case rel => exact ⟨k + 1, by omega, by go_num, below_draws hbr _⟩
      case measure => simp [intOf]; omega
    · by_cases hlt2 : k < l.length + 12
      · have hpp : (l ++ marksL 1 12)[k]? = some (markL 1 (k - l.length)) := by rw [List.getElem?_append_right (by omega), marksL_get 1 12 _ (by omega)]
        obtain ⟨ag, hag, hgb, hg0, hg1, hg2, hg3, hg4, hg5⟩ := (hg.below (hbr.mono hB)).six hpp
        injection hag with hag
        subst hag
        rw [addr0] at hg0 hg1 hg2 hg3 hg4 hg5
        have hgs : g < wr.heap.size := by have := hbr.size; show (⟨g, 0, none⟩ : Addr).block < _; omega
        have hq0 : ∀ n os, (grow (wr.drewN n) os).cell? ⟨g, k * 6, none⟩ = some (.int .i64 (8000024 + ((k : Int) - (l.length : Int)))) := fun n os => by
          rw [cell_grown hgs hg0 n os]
          simp only [markL]
          congr 2
          omega
        have hq1 : ∀ n os, (grow (wr.drewN n) os).cell? ⟨g, k * 6 + 1, none⟩ = some (.string ⟨#[]⟩) := fun n os => cell_grown hgs hg1 n os
        have hq2 : ∀ n os, (grow (wr.drewN n) os).cell? ⟨g, k * 6 + 2, none⟩ = some (.int .i64 0) := fun n os => cell_grown hgs hg2 n os
        have hq3 : ∀ n os, (grow (wr.drewN n) os).cell? ⟨g, k * 6 + 3, none⟩ = some (.int .i64 0) := fun n os => cell_grown hgs hg3 n os
        have hq4 : ∀ n os, (grow (wr.drewN n) os).cell? ⟨g, k * 6 + 4, none⟩ = some (.int .i64 0) := fun n os => cell_grown hgs hg4 n os
        have hq5 : ∀ n os, (grow (wr.drewN n) os).cell? ⟨g, k * 6 + 5, none⟩ = some (.bool false) := fun n os => cell_grown hgs hg5 n os
        clear hg0 hg1 hg2 hg3 hg4 hg5
        have heq := eq_mark (8000024 + ((k : Int) - (l.length : Int)))
        unfold EqM at heq
        have HPP := Lib.hid hpp
        clear hpp
        have hd1 : decide (k < l.length) = false := decide_eq_false (by omega)
        have hd2 : decide (l.length ≤ k) = true := decide_eq_true (by omega)
        have hle0 : 0 ≤ (k : Int) - (l.length : Int) := by omega
        go_wp2
        have hm := HM.out
        refine wp_region_quiet_grown (by assumption) (by kernel_rfl) ?_
        repeat (go_big_quiet_step ((go_at_call 30; exact markl_grown 1 ((k : Int) - (l.length : Int)) (8000024 + ((k : Int) - (l.length : Int))) _ _ _ (by omega) (by omega) (by omega) (by omega) (by omega))))
        refine wpQuiet_nil ?_
        intro _ hw'
        obtain ⟨⟨nq, osq⟩, hw''⟩ := hw'
        subst hw''
        clear hm
        have hbq := below_grow hbr hbr.size nq osq
        go_wp2
        go_roundw
        case rel => exact ⟨k + 1, by omega, by go_num, hbq⟩
        case measure => simp [intOf]; omega
      · obtain rfl : k = l.length + 12 := by omega
        go_wp2
        go_ret
        exact ⟨rfl, hbr⟩
end Go.Proofs.Ytddnfikjfmfhfaa
end
section
/- storemankit.LentUses: a list with marks behind its end. Written by gen_flent.py. -/
namespace Go.Proofs.Ytddnfikjfmfhfaa
open Go.ChangeShapes Go.WideShapes Go.ChangeAt Go.RowKit Go.Maps
set_option linter.unusedVariables false


def markU (k i : Nat) : Us := ⟨0, 1000003 * ((k : Int) + 7) + (i : Int), 0⟩
def marksU (k n : Nat) : List Us := (List.range n).map fun i => markU k i
theorem marksU_succ (k n : Nat) : marksU k (n + 1) = marksU k n ++ [markU k n] := by simp [marksU, List.range_succ]
theorem marksU_len (k n : Nat) : (marksU k n).length = n := by simp [marksU]
theorem marksU_get (k n i : Nat) (h : i < n) : (marksU k n)[i]? = some (markU k i) := by simp [marksU, h]
theorem marku_any (k i : Int) (w : World) (h0 : 0 ≤ k) (h1 : k ≤ 1000000) (h2 : 0 ≤ i) (h3 : i ≤ 1099511627776) :
    Calls Try.prog 36 #[.int .i64 k, .int .i64 i] w fun e w' => e = .returned (.agg #[.int .i64 0, .int .i64 (1000003 * (k + 7) + i), .int .i64 0]) ∧ w.alloc (.cells #[.int .i64 0, .int .i64 (1000003 * (k + 7) + i), .int .i64 0] 44) = w' := by
  go_enter Try.func36, Try.ntmps36
  go_wp2_with (go_at_call 46; ((with_reducible refine (mark_any k i _ h0 h1 h2 h3).mono ?_); rintro e w' ⟨rfl, rfl⟩))
  exact bodyPost_ret (v := .agg #[.int .i64 0, .int .i64 (1000003 * (k + 7) + i), .int .i64 0]) (by simp [results, Try.results36, go_sem]) rfl ⟨rfl, rfl⟩

theorem newu_at (w : World) (n : Nat) (hn : w.heap.size = n) (M : Int) (t : TypeId) : ∀ (j : Nat) (u : Value), [.int .i64 0, .int .i64 M, .int .i64 0][j]? = some u → (w.alloc (.cells #[.int .i64 0, .int .i64 M, .int .i64 0] t)).cell? ((⟨n, 0, none⟩ : Addr).add j) = some u := by
  subst hn
  intro j u h
  rw [fresh_cell, ← h, ← Array.getElem?_toList]
theorem oneu_mark (M : Int) : ∀ u ∈ [Value.int .i64 0, .int .i64 M, .int .i64 0], u.oneCell' = true := by
  intro u hu
  simp at hu
  rcases hu with rfl | rfl | rfl <;> rfl

/-- What is lent: the parts, twelve marks behind their end. -/
def LentToU (l : List Us) (w : World) (e : Ending) (w' : World) : Prop :=
  e = .returned (.slice (some ⟨w.heap.size, 0, none⟩) l.length (l.length + 12)) ∧ Below w.heap.size w w' ∧
  w'.ownsRow w.heap.size 44 3 (.slice (some ⟨w.heap.size, 0, none⟩) (l.length + 12) (l.length + 12)) (l.length + 12) (ucells (l ++ marksU 1 12))

set_option maxRecDepth 100000 in
set_option maxHeartbeats 1000000 in
theorem lentu_any (v : Value) (l : List Us) (B : Nat) (w : World) (hv : USl w B v l) (hB : B ≤ w.heap.size) (hlen : l.length ≤ 1048576) :
    Calls Try.prog 22 #[v] w (LentToU l w) := by
  obtain ⟨i0, hi, hz0, hz1, hz2⟩ := info_parts infoUse
  obtain ⟨A, c, rfl, hc1, hc2, hcz, hl⟩ := id hv
  have H1 := Lib.hid hi
  have H2 := Lib.hid hz0
  have H3 := Lib.hid hz1
  have H4 := Lib.hid hz2
  clear hi hz0 hz1 hz2
  go_enter Try.func22, Try.ntmps22
  go_wp2_with (first
    | (at_make; refine wpList_make_own _ rfl _ _ 28 rfl w.heap.size 44 i0 (.agg #[.int .i64 0, .int .i64 0, .int .i64 0]) 3 Try.underlying28 H1.out H2.out H3.out .i64 .i64 _ (l.length + 12) rfl rfl (by omega) (by rw [H4.out]; omega) (by unfold maxLen; omega) (Nat.le_refl _) ?_; intro w1 hown1 hg1)
    | (at_builtin; refine wpList_append_fits_any _ rfl (.tmp 9) (.tmp 10) 28 rfl w.heap.size 44 i0 3 Try.underlying28 H1.out H3.out w.heap.size 0 (l.length + 12) [] rfl hown1 A l.length c (ucells l) rfl (ucells_length l) (fun h => ⟨by have := hcz h; omega, hcz h⟩) (fun ad had j u hu => by have h2 := (hl.below ((Below.refl _ _).grown hg1 hB (fun k hk => by cases hk))).get hu; obtain ⟨ad', e1, _, e2⟩ := h2; rw [had] at e1; injection e1 with e1; rw [e1]; exact e2) (ucells_one l) (by omega) ?_; intro w2 hown2 hg2))
  have hb2 : Below w.heap.size w w2 := ((Below.refl _ _).grown hg1 (Nat.le_refl _) (fun k hk => by cases hk)).grown hg2 hg1.size (fun k hk => by cases hk; exact Nat.le_refl _)
  have hz : w.heap.size < w2.heap.size := by have := hown2.lt w.heap.size rfl; omega
  clear hown1 hg1 hg2
  simp only [Nat.zero_add, List.nil_append] at hown2
  go_loopw [3, 4] (fun v i wr => ∃ k : Nat, k ≤ 12 ∧ i = .int .i64 k ∧ v = .slice (some ⟨w.heap.size, 0, none⟩) (l.length + k) (l.length + 12) ∧
      wr.ownsRow w.heap.size 44 3 (.slice (some ⟨w.heap.size, 0, none⟩) (l.length + k) (l.length + 12)) (l.length + k) (ucells (l ++ marksU 1 k)) ∧ Below w.heap.size w wr ∧ w.heap.size < wr.heap.size)
    (fun _ i _ => 12 - (intOf i).toNat)
  case atStart => exact ⟨0, by omega, rfl, rfl, by simpa [marksU] using hown2, hb2, hz⟩
  case round =>
    obtain ⟨k, hk, rfl, rfl, hrow, hbr, hzr⟩ := hrel
    by_cases hlt : k < 12
    · have hmk : (1000003 * ((1 : Int) + 7) + (k : Int)) = 8000024 + (k : Int) := by omega
      have HMK := Lib.hid hmk
      clear hmk
      go_wp2_with (first
        | (go_at_call 36; ((with_reducible refine (marku_any 1 k _ (by omega) (by omega) (by omega) (by omega)).mono ?_); rintro e w' ⟨rfl, rfl⟩))
        | (at_builtin; refine wpList_append_fits _ rfl (.tmp 16) (.tmp 19) 28 rfl w.heap.size 44 i0 3 Try.underlying28 H1.out H3.out w.heap.size (l.length + k) (l.length + 12) _ rfl ((hrow.alloc _).alloc _) ⟨wr.heap.size + 1, 0, none⟩ 1 1 [.int .i64 0, .int .i64 (8000024 + (k : Int)), .int .i64 0] rfl rfl (newu_at _ _ (by simp) _ _) (oneu_mark _) (by omega) ?_; intro w3 hown3 hg3))
      have hst : ucells (l ++ marksU 1 k) ++ [.int .i64 0, .int .i64 (8000024 + (k : Int)), .int .i64 0] = ucells (l ++ marksU 1 (k + 1)) := by
        rw [marksU_succ, ← HMK.out, ← List.append_assoc, ucells_append (l ++ marksU 1 k)]; rfl
      rw [hst] at hown3
      have hb3 : Below w.heap.size w w3 := ((hbr.alloc hbr.size _).alloc (by simp only [World.size_alloc]; omega) _).grown hg3 (by simp only [World.size_alloc]; omega) (fun j hj => by cases hj; exact Nat.le_refl _)
      have hz3 := hg3.size
      simp only [World.size_alloc] at hz3
      have HST := Lib.hid hst
      clear hst
      go_roundw
      case rel => exact ⟨k + 1, by omega, by go_num, rfl, hown3, hb3, by omega⟩
      case measure => simp [intOf]; omega
    · obtain rfl : k = 12 := by omega
      go_wp2
      go_ret
      exact ⟨rfl, hbr, hrow⟩
end Go.Proofs.Ytddnfikjfmfhfaa
end
section
/- storemankit.KeptUses: whether a list and its marks are still as they were. Written by gen_flent.py. -/
namespace Go.Proofs.Ytddnfikjfmfhfaa
open Go.ChangeShapes Go.WideShapes Go.ChangeAt Go.RowKit Go.Maps Go.Sort
set_option linter.unusedVariables false

/-- It is itself. -/
def EqU (x y : Us) : Prop := ∀ w, (binOp .eql 44 (.agg #[.int .i64 x.want, .int .i64 x.lot, .int .i64 x.qty]) (.agg #[.int .i64 y.want, .int .i64 y.lot, .int .i64 y.qty])).run Try.prog w = .ok (.bool true) w
theorem eqU_self (x : Us) : EqU x x := fun w => by have := eql_U x x w; rw [decide_eq_true rfl] at this; exact this
def EqMU (M : Int) : Prop := ∀ w, (binOp .eql 44 (.agg #[.int .i64 0, .int .i64 M, .int .i64 0]) (.agg #[.int .i64 0, .int .i64 M, .int .i64 0])).run Try.prog w = .ok (.bool true) w
theorem eqU_mark (M : Int) : EqMU M := eqU_self ⟨0, M, 0⟩
theorem marku_grown (k i M : Int) (w : World) (n : Nat) (os : Array Obj) (hM : 1000003 * (k + 7) + i = M) (h0 : 0 ≤ k) (h1 : k ≤ 1000000) (h2 : 0 ≤ i) (h3 : i ≤ 1099511627776) :
    Calls Try.prog 36 #[.int .i64 k, .int .i64 i] (grow (w.drewN n) os) fun e w'' => e = .returned (.agg #[.int .i64 0, .int .i64 M, .int .i64 0]) ∧ ∃ p : GrownBy, w'' = grow (w.drewN p.n) p.os := by
  subst hM
  exact Calls.grown_of ((marku_any k i _ h0 h1 h2 h3).mono fun e w' ⟨he, hw⟩ => ⟨he, 0, #[.cells #[.int .i64 0, .int .i64 (1000003 * (k + 7) + i), .int .i64 0] 44], by rw [← hw, alloc_eq_grow]; rfl⟩)

set_option maxRecDepth 100000 in
set_option maxHeartbeats 1000000 in
theorem keptu_any (v : Value) (l : List Us) (B g : Nat) (w : World) (hv : USl w B v l) (hg : Lies w B (some ⟨g, 0, none⟩) (ucells (l ++ marksU 1 12))) (hB : B ≤ w.heap.size) (hlen : l.length ≤ 1048576) :
    Calls Try.prog 25 #[.slice (some ⟨g, 0, none⟩) l.length (l.length + 12), v] w fun e w' => e = .returned (.bool true) ∧ Go.RowKit.Below w.heap.size w w' := by
  obtain ⟨A, c, rfl, hc1, hc2, hcz, hl⟩ := id hv
  have hm : Try.prog.follows .mixedOrders = true := by kernel_rfl
  have HM := Lib.hid hm
  clear hm
  go_enter Try.func25, Try.ntmps25
  go_wp2
  go_loopw [6] (fun i wr => ∃ k : Nat, k ≤ l.length + 12 ∧ i = .int .i64 k ∧ Go.RowKit.Below w.heap.size w wr) (fun i _ => l.length + 12 - (intOf i).toNat)
  case atStart => exact ⟨0, Nat.zero_le _, rfl, Below.refl _ _⟩
  case round =>
    obtain ⟨k, hk, rfl, hbr⟩ := hrel
    by_cases hlt : k < l.length
    · obtain ⟨p, hp⟩ : ∃ p, l[k]? = some p := ⟨_, List.getElem?_eq_getElem hlt⟩
      obtain ⟨ad, hA, _, hp0, hp1, hp2⟩ := (hl.below (hbr.mono hB)).rowU hp
      subst hA
      have hpp : (l ++ marksU 1 12)[k]? = some p := by rw [List.getElem?_append_left hlt, hp]
      obtain ⟨ag, hag, _, hg0, hg1, hg2⟩ := (hg.below (hbr.mono hB)).rowU hpp
      injection hag with hag
      subst hag
      rw [addr0] at hg0 hg1 hg2
      have heq : EqU p p := eqU_self p
      unfold EqU at heq
      have HN := Lib.hid hp
      have HPP := Lib.hid hpp
      clear hp hpp
      have hd1 : decide (k < l.length) = true := decide_eq_true (by omega)
      have hd2 : decide (l.length ≤ k) = false := decide_eq_false (by omega)
      go_wp2
      go_quiet (fail)
      go_wp2
      go_roundw
      case rel => exact ⟨k + 1, by omega, by go_num, below_draws hbr _⟩
      case measure => simp [intOf]; omega
    · by_cases hlt2 : k < l.length + 12
      · have hpp : (l ++ marksU 1 12)[k]? = some (markU 1 (k - l.length)) := by rw [List.getElem?_append_right (by omega), marksU_get 1 12 _ (by omega)]
        obtain ⟨ag, hag, hgb, hg0, hg1, hg2⟩ := (hg.below (hbr.mono hB)).rowU hpp
        injection hag with hag
        subst hag
        rw [addr0] at hg0 hg1 hg2
        have hgs : g < wr.heap.size := by have := hbr.size; show (⟨g, 0, none⟩ : Addr).block < _; omega
        have hq0 : ∀ n os, (grow (wr.drewN n) os).cell? ⟨g, k * 3, none⟩ = some (.int .i64 0) := fun n os => cell_grown hgs hg0 n os
        have hq1 : ∀ n os, (grow (wr.drewN n) os).cell? ⟨g, k * 3 + 1, none⟩ = some (.int .i64 (8000024 + ((k : Int) - (l.length : Int)))) := fun n os => by
          rw [cell_grown hgs hg1 n os]
          simp only [markU]
          congr 2
          omega
        have hq2 : ∀ n os, (grow (wr.drewN n) os).cell? ⟨g, k * 3 + 2, none⟩ = some (.int .i64 0) := fun n os => cell_grown hgs hg2 n os
        clear hg0 hg1 hg2
        have heq := eqU_mark (8000024 + ((k : Int) - (l.length : Int)))
        unfold EqMU at heq
        have HPP := Lib.hid hpp
        clear hpp
        have hd1 : decide (k < l.length) = false := decide_eq_false (by omega)
        have hd2 : decide (l.length ≤ k) = true := decide_eq_true (by omega)
        have hle0 : 0 ≤ (k : Int) - (l.length : Int) := by omega
        go_wp2
        have hm := HM.out
        refine wp_region_quiet_grown (by assumption) (by kernel_rfl) ?_
        repeat (go_big_quiet_step ((go_at_call 36; exact marku_grown 1 ((k : Int) - (l.length : Int)) (8000024 + ((k : Int) - (l.length : Int))) _ _ _ (by omega) (by omega) (by omega) (by omega) (by omega))))
        refine wpQuiet_nil ?_
        intro _ hw'
        obtain ⟨⟨nq, osq⟩, hw''⟩ := hw'
        subst hw''
        clear hm
        have hbq := below_grow hbr hbr.size nq osq
        go_wp2
        go_roundw
        case rel => exact ⟨k + 1, by omega, by go_num, hbq⟩
        case measure => simp [intOf]; omega
      · obtain rfl : k = l.length + 12 := by omega
        go_wp2
        go_ret
        exact ⟨rfl, hbr⟩
end Go.Proofs.Ytddnfikjfmfhfaa
end
section
/- The law FlowChecks: whatever lots, wants and uses; the walk. -/
namespace Go.Proofs.Ytddnfikjfmfhfaa
open Go.ChangeShapes Go.WideShapes Go.ChangeAt Go.RowKit Go.Maps
set_option linter.unusedVariables false
theorem lies_left {w : World} {B : Nat} {A : Option Addr} {a b : List Value} (h : Lies w B A (a ++ b)) : Lies w B A a := fun hne => by
  obtain ⟨ad, e, hb, hc⟩ := h (fun e => hne (List.append_eq_nil_iff.1 e).1)
  refine ⟨ad, e, hb, fun j u hu => hc j u ?_⟩
  rw [List.getElem?_append_left (List.getElem?_eq_some_iff.1 hu).1]
  exact hu
theorem usl_lent {w : World} {B g : Nat} {us M : List Us} (h : Lies w B (some ⟨g, 0, none⟩) (ucells (us ++ M))) (hl : us.length ≤ 1048576) : USl w B (.slice (some ⟨g, 0, none⟩) us.length (us.length + 12)) us :=
  ⟨_, _, rfl, by omega, by unfold maxLen; omega, (fun h => by cases h), lies_left (by rw [← ucells_append]; exact h)⟩
set_option maxRecDepth 100000 in
set_option maxHeartbeats 8000000 in
theorem checks_any (v1 v2 v3 : Value) (l : List Lt) (ws : List Wt) (us : List Us) (w : World) (hv1 : LSl w w.heap.size v1 l) (hv2 : WSl w w.heap.size v2 ws) (hv3 : USl w w.heap.size v3 us) (hs : Sized l) (hsu : SizedU us) :
    Calls Try.prog 4 #[v1, v2, v3] w fun e w' => e = .returned (.bool true) ∧ Below w.heap.size w w' := by
  obtain ⟨A1, c1, rfl, hc11, hc12, hcz1, _⟩ := id hv1
  obtain ⟨A2, c2, rfl, hc21, hc22, hcz2, _⟩ := id hv2
  obtain ⟨A3, c3, rfl, hc31, hc32, hcz3, _⟩ := id hv3
  have HV1 := Lib.hid hv1
  have HV2 := Lib.hid hv2
  have HV3 := Lib.hid hv3
  have HS : Hid (Sized l) := Lib.hid hs
  have HSU : Hid (SizedU us) := Lib.hid hsu
  clear hv1 hv2 hv3 hs hsu
  go_enter Try.func4, Try.ntmps4
  go_wp2_with fail
  refine (awake_any w).mono ?_
  rintro e w1 ⟨rfl, hb1'⟩
  have HW1 := Lib.hid (HV1.out.at_ hb1')
  have HW2 := Lib.hid (HV2.out.at_ hb1')
  have HW3 := Lib.hid (HV3.out.at_ hb1')
  have HB1 := Lib.hid hb1'
  clear hb1'
  by_cases hS4 : l.length ≤ 40 ∧ ws.length ≤ 60
  · have hsd : decide (l.length ≤ 40 ∧ ws.length ≤ 60) = true := decide_eq_true hS4
    obtain ⟨h40, h60⟩ := hS4
    by_cases h200 : us.length ≤ 200
    · have hd2 : decide (200 < (us.length : Int)) = false := decide_eq_false (by omega)
      obtain ⟨b, hb⟩ : ∃ b, checkB l ws us = b := ⟨_, rfl⟩
      have KC : Hid (∀ v1 v2 v3 W, LSl W W.heap.size v1 l → WSl W W.heap.size v2 ws → USl W W.heap.size v3 us → Calls Try.prog 23 #[v1, v2, v3] W fun e w' => e = .returned (.bool b) ∧ Below W.heap.size W w') := Lib.hid (fun v1 v2 v3 W a b' c => by rw [← hb]; exact check_any v1 v2 v3 l ws us W (by omega) (by omega) (by omega) HS.out HSU.out a b' c)
      have KR : Hid (∀ v1 v2 v3 W, LSl W W.heap.size v1 l → WSl W W.heap.size v2 ws → USl W W.heap.size v3 us → Calls Try.prog 24 #[v1, v2, v3] W fun e w' => e = .returned (.bool b) ∧ Below W.heap.size W w') := Lib.hid (fun v1 v2 v3 W a b' c => by rw [← hb]; exact rcheck_any v1 v2 v3 l ws us W a b' c HS.out HSU.out (by omega))
      clear hb
      go_wp2_with (first
        | (go_at_call 10; ((with_reducible refine (small_any _ _ _ _ _ _ _).mono ?_); rintro e w2 ⟨rfl, rfl⟩; rw [hsd]))
        | (go_at_call 22; fail))
      refine (lentu_any _ us w1.heap.size w1 HW3.out (Nat.le_refl _) (by omega)).mono ?_
      rintro e w2 ⟨rfl, hb2', ho2'⟩
      obtain ⟨g, hg⟩ : ∃ g, w1.heap.size = g := ⟨_, rfl⟩
      have HG2 : Hid (Lies w2 w2.heap.size (some ⟨g, 0, none⟩) (ucells (us ++ marksU 1 12))) := Lib.hid (by rw [← hg]; exact Lies.own ho2')
      have HX1 := Lib.hid (HW1.out.at_ hb2')
      have HX2 := Lib.hid (HW2.out.at_ hb2')
      have HX3 := Lib.hid (HW3.out.at_ hb2')
      have HB2 := Lib.hid (below_two HB1.out hb2')
      rw [hg]
      clear hb2' ho2' HW1 HW2 HW3 HB1 hg
      cases b
      all_goals
        go_wp2_with (first
          | (go_at_call 23; ((with_reducible refine (KC.out _ _ _ _ HX1.out HX2.out (usl_lent HG2.out (by omega))).mono ?_); rintro e w3 ⟨rfl, hb3'⟩; have HG3 := Lib.hid ((HG2.out.below hb3').mono hb3'.size); have HY1 := Lib.hid (HX1.out.at_ hb3'); have HY2 := Lib.hid (HX2.out.at_ hb3'); have HY3 := Lib.hid (HX3.out.at_ hb3'); have HB3 := Lib.hid (below_two HB2.out hb3'); clear hb3' HX1 HX2 HX3 HB2 HG2))
          | (go_at_call 24; ((with_reducible refine (KR.out _ _ _ _ HY1.out HY2.out HY3.out).mono ?_); rintro e w4 ⟨rfl, hb4'⟩; have HG4 := Lib.hid ((HG3.out.below hb4').mono hb4'.size); have HZ3 := Lib.hid (HY3.out.at_ hb4'); have HB4 := Lib.hid (below_two HB3.out hb4'); clear hb4' HY1 HY2 HY3 HB3 HG3))
          | (go_at_call 25; ((with_reducible refine (keptu_any _ us _ g _ HZ3.out HG4.out (Nat.le_refl _) (by omega)).mono ?_); rintro e w5 ⟨rfl, hb5'⟩; have HB5 := Lib.hid (below_two HB4.out hb5'); clear hb5')))
        go_ret
        exact ⟨rfl, HB5.out⟩
    · have hd2 : decide (200 < (us.length : Int)) = true := decide_eq_true (by omega)
      go_wp2_with (go_at_call 10; ((with_reducible refine (small_any _ _ _ _ _ _ _).mono ?_); rintro e w2 ⟨rfl, rfl⟩; rw [hsd]))
      go_ret
      exact ⟨rfl, HB1.out⟩
  · have hsd : decide (l.length ≤ 40 ∧ ws.length ≤ 60) = false := decide_eq_false hS4
    clear hS4
    go_wp2_with (go_at_call 10; ((with_reducible refine (small_any _ _ _ _ _ _ _).mono ?_); rintro e w2 ⟨rfl, rfl⟩; rw [hsd]))
    go_ret
    exact ⟨rfl, HB1.out⟩
end Go.Proofs.Ytddnfikjfmfhfaa
end
