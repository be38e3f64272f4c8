/- Texts of this proof, one behind the other. -/
import Derived.Laws.StructEq
import Derived.Deep.QuietTactic
import Derived.BigQuiet
import Derived.Test.YtkdcpnbfeagggaaA04
import Derived.Test.YtkdcpnbfeagggaaA03
import Derived.Test.YtkdcpnbfeagggaaA00
section
/- kit.spread: how much of each is needed; the walk. Written by gen_kspr.py. -/
namespace Go.Proofs.Ytkdcpnbfeagggaa
namespace Kt
open Go.RowKit Go.Shelf Go.Maps
set_option linter.unusedVariables false
attribute [local go_sem] Oper.semAt_some

/-- What spread answers. -/
def SpreadTo (F : Fd) (N : Nat) (l : List It) (root : List UInt8) (q : Int) (w : World) (e : Ending) (w' : World) : Prop :=
  ((∃ b needs n S, e = .returned (.tuple #[.map (some b), .bool true]) ∧ SMap (.int .i64 0) w' b n (fun c => .int .i64 (needs c)) S ∧ (∃ ww, Sp F N l root q 0 ww needs)) ∨
    (e = .returned (.tuple #[.map none, .bool false]) ∧ ¬ JoinOk (flat F N root q))) ∧ Below w.heap.size w w'

set_option maxRecDepth 100000 in
set_option maxHeartbeats 16000000 in
theorem spread_any (v : Value) (l : List Iv) (q : Int) (w : World) (F : Fd) (N : Nat) (x : Iv) (hv : ISl w w.heap.size v l) (hs : SizedI l) (hlen : l.length ≤ 1048576) (h0 : 0 < l.length) (hx : l[l.length - 1]? = some x) (hg : Good F N) (ht : Topo F (l.map (·.it))) (hq0 : 1 ≤ q) (hq1 : q ≤ 1125899906842624)
    (hq30 : ∀ y ∈ l, ∀ p ∈ y.it.parts, p.2 ≤ 1073741824) :
    Calls Try.prog 27 #[v, .int .i64 q] w (SpreadTo F N (l.map (·.it)) x.it.code q w) := by
  obtain ⟨⟨A, c, rfl, hc1, hc2, hcz, hl⟩, hsub⟩ := id hv
  have hmm := @run_makeMap Try.prog
  have hxm := List.mem_of_getElem? hx
  have hb3 : Go.RowKit.Below w.heap.size w (((w.alloc (.cells #[.map none] 55)).alloc (.cells #[.bool false] 4)).alloc (.map #[] 0)) := ((below_alloc1 w _).alloc (by simp only [World.size_alloc]; omega) _).alloc (by simp only [World.size_alloc]; omega) _
  obtain ⟨ad, rfl, hab, x0, x1, x2, x3⟩ := (hl.below hb3).rowI hx
  have hcs := (hs x hxm).1
  have hlt0 : decide ((0 : Int) ≤ (l.length : Int) - 1) = true := decide_eq_true (by omega)
  have hnat : (l.length : Int) - 1 = ((l.length - 1 : Nat) : Int) := by omega
  have hm0 := mapOf_made (fun s : List UInt8 => Lit.string s) Try.prog 9 (.int .i64 0) ((w.alloc (.cells #[.map none] 55)).alloc (.cells #[.bool false] 4))
  obtain ⟨w4, hrun4, hm4, hg4⟩ := hm0.put strKeyLits skeyed Try.underlying55 (by unfold maxLen; omega) (key := .string ⟨x.it.code.toArray⟩) (val := .int .i64 q) (skey_of x.it.code hcs)
  simp only [World.size_alloc] at hrun4 hm4 hg4
  have hsz4 := hg4.size
  simp only [World.size_alloc] at hsz4
  have hne : ∀ k, k ≠ w.heap.size + 2 → some k ≠ some (w.heap.size + 2) := fun k hk e => hk (by cases e; rfl)
  have hr1 : Boxed w4 w.heap.size 55 (.map none) := (((Boxed.new w _ _).alloc _).alloc _).kept hg4 (hne _ (by omega))
  have hr2 : Boxed w4 (w.heap.size + 1) 4 (.bool false) := by
    have := Boxed.new (w.alloc (.cells #[.map none] 55)) 4 (.bool false)
    simp only [World.size_alloc] at this
    exact (this.alloc _).kept hg4 (hne _ (by omega))
  have hlow4 : Below w.heap.size w w4 := hb3.grown hg4 (by simp only [World.size_alloc]; omega) (fun j e => by cases e; omega)
  have hsg : Sg w.heap.size w4.heap.size (w4.heap.size + 1) (w4.heap.size + 2) (.slice (some ad) l.length c) ((w4.alloc (.cells #[.map (some (w.heap.size + 2))] 55)).alloc (.cells #[.slice (some ad) l.length c] 22)) ((w4.alloc (.cells #[.map (some (w.heap.size + 2))] 55)).alloc (.cells #[.slice (some ad) l.length c] 22)) (put (fun _ => 0) x.it.code q) 1 (fun u => u = x.it.code ∨ False) := by
    refine ⟨(hr1.alloc _).alloc _, (hr2.alloc _).alloc _, ((hm4.congr (fun u => ?_) (fun _ => Iff.rfl)).alloc _).alloc _, (Boxed.new w4 _ _).alloc _, ?_, Below.refl _ _, fun u => ?_, by omega, by omega, by omega, by omega, by simp only [World.size_alloc]; omega⟩
    · unfold updK Kt.put; split <;> rfl
    · have := Boxed.new (w4.alloc (.cells #[.map (some (w.heap.size + 2))] 55)) 22 (.slice (some ad) l.length c)
      simpa only [World.size_alloc] using this
    · by_cases e : u = x.it.code
      · rw [e, put_same]; omega
      · rw [put_other _ _ e]; simp
  have hlow6 : Below w.heap.size w ((w4.alloc (.cells #[.map (some (w.heap.size + 2))] 55)).alloc (.cells #[.slice (some ad) l.length c] 22)) := (hlow4.alloc (by omega) _).alloc (by simp only [World.size_alloc]; omega) _
  have hsz6 : ((w4.alloc (.cells #[.map (some (w.heap.size + 2))] 55)).alloc (.cells #[.slice (some ad) l.length c] 22)).heap.size = w4.heap.size + 2 := by simp only [World.size_alloc]
  have hlast : ∃ l', l.map (·.it) = l' ++ [x.it] := ⟨(l.map (·.it)).take (l.length - 1), by
    have h1 : (l.map (·.it))[l.length - 1]? = some x.it := by simp [hx]
    have h2 := nth_split h1
    rwa [List.drop_of_length_le (by rw [List.length_map]; omega)] at h2⟩
  obtain ⟨l', hl'⟩ := hlast
  have hsp0 : Sp F N (l.map (·.it)) x.it.code q l.length (put (fun _ => 0) x.it.code q) (put (fun _ => 0) x.it.code q) := by
    have := Sp.start (N := N) hl' ht (by omega) hq1
    rwa [List.length_map] at this
  have hroot : F x.it.code = some x.it := ht.found x.it (List.mem_map_of_mem hxm)
  have HSG := Lib.hid hsg
  have HLOW6 := Lib.hid hlow6
  have HL6 := Lib.hid (hl.below hlow6)
  have HSP0 := Lib.hid hsp0
  have HG := Lib.hid hg
  have HT := Lib.hid ht
  have HR := Lib.hid hroot
  have HS : Hid (SizedI l) := Lib.hid hs
  have HU := Lib.hid (fun y hy => (hsub y hy).below hlow6)
  have HQ := Lib.hid hq30
  have HSZ6 := Lib.hid hsz6
  clear hm0 hm4 hg4 hr1 hr2 hlow4 hsg hlow6 hsp0 hg ht hroot hs hsub hl hv hx hxm hq30 hl' hne hsz6
  refine (callsIn_wide (n := 9)).1 ?_
  refine callsIn_of_wp_marks Try.func27 rfl trivial ?_ rfl
  simp only [Try.ntmps27, List.size_toArray, List.length_cons, List.length_nil, Nat.reduceAdd, Nat.reduceSub, Array.replicate_succ, Array.replicate_zero, List.push_toArray, List.append_toArray, List.nil_append, List.cons_append]
  gi_wp2_with (refine ⟨trivial, ?_⟩; gi_at_call 42; refine (back_in Fence.wide _ trivial rfl _ _ _ _).mono ?_; rintro e w' ⟨rfl, rfl⟩)
  rw [show w.heap.size + 1 + 1 = w.heap.size + 2 from rfl]
  clear hmm x0 x1 x2 x3 hrun4 hb3
  refine wpIn_rangeFunc_ownH (α := Fin l.length) rfl (by omega) (gf := 55) (lb := #[.pointer (some ⟨w4.heap.size + 1, 0, none⟩)]) rfl trivial (enters_of Try.func55 (by kernel_rfl) rfl)
    (back_stops Fence.wide _ trivial rfl (by omega) (w4.heap.size + 1) w.heap.size c (some ad) l hlen ((w4.alloc (.cells #[.map (some (w.heap.size + 2))] 55)).alloc (.cells #[.slice (some ad) l.length c] 22)) (by rw [HSZ6.out]; omega) HSG.out.rs HL6.out) KeepB.trans (fun W lb ob ob' h1 h2 h3 h4 => ⟨belowK_b (w := ((w4.alloc (.cells #[.map (some (w.heap.size + 2))] 55)).alloc (.cells #[.slice (some ad) l.length c] 22))) (by rw [HSZ6.out]; omega) W lb ob ob' h1 h2 h3 h4, (belowK_b (w := ((w4.alloc (.cells #[.map (some (w.heap.size + 2))] 55)).alloc (.cells #[.slice (some ad) l.length c] 22))) (n₀ := w4.heap.size + 2) (by rw [HSZ6.out]; omega) W lb ob ob' h1 h2 h3 h4).block (w4.heap.size + 1) (by omega)⟩) (Below.refl _ _) (fun _ => rfl)
    (fun pre W => ∃ needs n S, Sg w.heap.size w4.heap.size (w4.heap.size + 1) (w4.heap.size + 2) (.slice (some ad) l.length c) ((w4.alloc (.cells #[.map (some (w.heap.size + 2))] 55)).alloc (.cells #[.slice (some ad) l.length c] 22)) W needs n S ∧ n ≤ 1 + pre.length * 1048576 ∧ (pre = downs l.length pre.length → ∃ ww, Sp F N (l.map (·.it)) x.it.code q (l.length - pre.length) ww needs))
    (fun cd pre W => cd = .ret ∧ (∃ needs n S, Sg w.heap.size w4.heap.size (w4.heap.size + 1) (w4.heap.size + 2) (.slice (some ad) l.length c) ((w4.alloc (.cells #[.map (some (w.heap.size + 2))] 55)).alloc (.cells #[.slice (some ad) l.length c] 22)) W needs n S) ∧ (pre = downs l.length pre.length → ¬ JoinOk (flat F N x.it.code q)))
    (fun s X Y row ⟨needs, n, S, h1, h2⟩ hgr hr => ⟨needs, n, S, h1.grown hgr (fun r e => by have := (hr r e).1; rw [HSZ6.out] at this; exact this), h2⟩)
    (fun cd s X Y row ⟨hc, ⟨needs, n, S, h1⟩, h2⟩ hgr hr => ⟨hc, ⟨needs, n, S, h1.grown hgr (fun r e => by have := (hr r e).1; rw [HSZ6.out] at this; exact this)⟩, h2⟩)
    ⟨_, _, _, HSG.out, by simp, fun _ => ⟨_, by simpa using HSP0.out⟩⟩
    (fun k a' W => ∃ Bx Y, w4.heap.size + 2 ≤ Bx ∧ l[k] = Y ∧ Box4 W Bx Y ∧ a' = { tmps := #[.slice (some ad) l.length c, .int .i64 q, undef, undef, .pointer (some ⟨w.heap.size, 0, none⟩), .pointer (some ⟨w.heap.size + 1, 0, none⟩), .pointer (some ⟨w4.heap.size, 0, none⟩), undef, .pointer (some ⟨Bx, 0, none⟩), undef, undef, undef, undef, .map (some (w.heap.size + 2)), .slice (some ad) l.length c, .slice (some ad) l.length c, .int .i64 (l.length : Int), .int .i64 ((l.length - 1 : Nat) : Int), .pointer (some (ad.add ((l.length - 1) * 4))), .pointer (some (ad.add ((l.length - 1) * 4))), strV x.it.code, .int .i64 q, .map (some (w.heap.size + 2)), .slice (some ad) l.length c, .func (.func 55) #[] #[.pointer (some ⟨w4.heap.size + 1, 0, none⟩)], .int .i64 (k.val : Nat), .agg #[.string ⟨Y.it.code.toArray⟩, .int .i64 Y.it.life, Y.pv, Y.ov], undef, undef, undef, undef, undef, undef, undef, undef, undef, undef, undef, undef, undef, undef, undef, undef, undef, undef, undef, undef, undef, undef, undef, undef, undef, undef, undef, undef, undef, undef, undef, undef, undef, undef, undef], defers := [] })
    (fun k a' => by
      rintro s X Z row ⟨Bx, Y, hB, hY, hbx, rfl⟩ hgr hr
      refine ⟨Bx, Y, hB, hY, (hgr.block Bx hbx.lt (fun e => ?_)).trans hbx, rfl⟩
      obtain ⟨_, ob, ho, hcl⟩ := hr Bx e.symm
      rw [show X.heap[Bx]? = _ from hbx] at ho
      cases ho
      cases hcl) ?assign ?body ?done ?stop
  case assign =>
    rintro lp pre k W K ⟨needs, n, S, h1, h2⟩ hK
    have hfo := HU.out _ (l.getElem_mem k.2)
    obtain ⟨Y, hY⟩ : ∃ Y, l[k] = Y := ⟨_, rfl⟩
    have hY' : l[k.val] = Y := hY
    rw [hY'] at hfo
    dsimp only [encsB]
    rw [hY]
    obtain ⟨⟨code, life, ps⟩, os, pv, ov⟩ := Y
    obtain ⟨Ap, cp, Ao, co, rfl, rfl, _, _⟩ := hfo.form
    clear hY' hfo
    have hW := h1.ord.2.2.2.2
    gi_wp2
    exact hK _ _ ((KeepsOthers.alloc _ _).from _) (KeepB.alloc (by omega) (by omega) _) ⟨needs, n, S, h1.alloc _, h2⟩ ⟨W.heap.size, _, hW, hY, Box4.new W ⟨⟨code, life, ps⟩, os, .slice Ap ps.length cp, .slice Ao os.length co⟩, rfl⟩
  case body =>
    rintro lp pre k a' W hlp hrec ⟨needs, n, S, h1, hn, hsp⟩ ⟨Bx, Y, hBx, hY, hbx, rfl⟩ hplen
    have hY' : l[k.val] = Y := hY
    have hYm : Y ∈ l := by rw [← hY']; exact l.getElem_mem k.2
    have hfo := HU.out Y hYm
    have HPS := Lib.hid (HS.out Y hYm).2.2.1
    have hpsl := (HS.out Y hYm).2.2.2.2.1
    have hcs := (HS.out Y hYm).1
    have HQY := Lib.hid (HQ.out Y hYm)
    obtain ⟨⟨code, life, ps⟩, os, pv, ov⟩ := Y
    obtain ⟨Ap, cp, Ao, co, rfl, rfl, hcp, hcq⟩ := hfo.form
    obtain ⟨Ap', cp', hpe, hp1, hp2, hpz, hpl⟩ := hfo.parts
    simp only at hpsl hcs
    cases hpe
    have HPA := Lib.hid hpl
    have HBX := Lib.hid hbx
    have HK1 := Lib.hid h1
    have HSP := Lib.hid hsp
    obtain ⟨d0, d1, d2, d3⟩ := hbx.cells
    simp only at d0 d1 d2 d3
    have hW := h1.ord.2.2.2.2
    clear hpl hbx h1 hsp hfo
    have hki : (l.map (·.it))[k.val]? = some ⟨code, life, ps⟩ := by
      rw [List.getElem?_map, List.getElem?_eq_getElem k.2, hY']
      rfl
    have HKI := Lib.hid hki
    have hcd : pre ++ [k] = downs l.length (pre.length + 1) → ∃ ww, SpMid F N (l.map (·.it)) x.it.code q k.val ⟨code, life, ps⟩ (needs code) 0 ww needs := fun hd => by
      obtain ⟨h2, h3⟩ := downs_snoc hd hplen
      obtain ⟨ww, h4⟩ := HSP.out h2
      rw [h3] at h4
      exact h4.enterAny HG.out HT.out HKI.out
    have HCD := Lib.hid hcd
    have HBW := Lib.hid (Below.refl w.heap.size W)
    have HKW := Lib.hid (KeepsFrom.refl (((w4.alloc (.cells #[.map (some (w.heap.size + 2))] 55)).alloc (.cells #[.slice (some ad) l.length c] 22))).heap.size W)
    have HRS := Lib.hid HK1.out.rs
    clear hki hcd hY'
    gi_wp2
    gi_loopw [30] (fun i wr => ∃ (j : Nat) (nd : List UInt8 → Int) (n' : Nat) (S' : List UInt8 → Prop), j ≤ ps.length ∧ i = .int .i64 j ∧ Hid (Sg w.heap.size w4.heap.size (w4.heap.size + 1) (w4.heap.size + 2) (.slice (some ad) l.length c) ((w4.alloc (.cells #[.map (some (w.heap.size + 2))] 55)).alloc (.cells #[.slice (some ad) l.length c] 22)) (wr) (nd) (n') (S')) ∧ n' ≤ n + j ∧ Hid (KeepsFrom (((w4.alloc (.cells #[.map (some (w.heap.size + 2))] 55)).alloc (.cells #[.slice (some ad) l.length c] 22))).heap.size W wr) ∧ Hid (Below w.heap.size W wr) ∧ Hid (Box4 wr Bx ⟨⟨code, life, ps⟩, os, .slice Ap ps.length cp, .slice Ao os.length co⟩) ∧
      Hid (pre ++ [k] = downs l.length (pre.length + 1) → ∃ ww, SpMid F N (l.map (·.it)) x.it.code q k.val ⟨code, life, ps⟩ (needs code) j ww nd)) (fun i _ => ps.length - (intOf i).toNat)
    case atStart => exact ⟨0, needs, n, S, Nat.zero_le _, rfl, HK1, by omega, HKW, HBW, HBX, HCD⟩
    case round =>
      clear d0 d1 d2 d3 HBX HBW HKW HK1 HCD HSP hW
      obtain ⟨j, nd, n', S', hj, rfl, HSj, hnj, HKj, HBj, HXj, HCj⟩ := hrel
      have hord := HSj.out.ord
      by_cases hjt : j < ps.length
      · obtain ⟨p, hp⟩ : ∃ p, ps[j]? = some p := ⟨_, List.getElem?_eq_getElem hjt⟩
        have hpm := List.mem_of_getElem? hp
        have hpl1 := (HPS.out p hpm).1
        have hpr := (HPS.out p hpm).2
        have hp30 := HQY.out p hpm
        have hlowj := HSj.out.low
        obtain ⟨ap, rfl, hapb, y0, y1⟩ := (HPA.out.below hlowj).part hp
        obtain ⟨pi, pq⟩ := p
        simp only at y0 y1 hpl1 hpr hp30
        obtain ⟨q0, q1⟩ := part_new wr (pi, pq)
        simp only at q0 q1
        have hbA : Below wr.heap.size wr (wr.alloc (.cells #[.string ⟨pi.toArray⟩, .int .i64 pq] 34)) := below_alloc1 _ _
        have hSA := HSj.out.alloc (.cells #[.string ⟨pi.toArray⟩, .int .i64 pq] 34)
        have hXA := HXj.out.below hbA HXj.out.lt
        have hKA : KeepsFrom (((w4.alloc (.cells #[.map (some (w.heap.size + 2))] 55)).alloc (.cells #[.slice (some ad) l.length c] 22))).heap.size W (wr.alloc (.cells #[.string ⟨pi.toArray⟩, .int .i64 pq] 34)) := HKj.out.trans ((KeepsOthers.alloc _ _).from _)
        have hBA : Below w.heap.size W (wr.alloc (.cells #[.string ⟨pi.toArray⟩, .int .i64 pq] 34)) := HBj.out.trans (hbA.mono (by omega))
        have hnb := hSA.rb.cell
        have hlk := hSA.rm.look skeyed Try.underlying55 (zero64 _) (skey_of code hcs)
        have hlk2 := hSA.rm.look skeyed Try.underlying55 (zero64 _) (skey_of pi hpl1)
        obtain ⟨e0, e1, e2, e3⟩ := hXA.cells
        simp only at e0 e1 e2 e3
        have HP := Lib.hid hp
        have hrc := HSj.out.rng code
        have hrp := HSj.out.rng pi
        have HSA := Lib.hid hSA
        have HXA := Lib.hid hXA
        have HKA := Lib.hid hKA
        have HBA := Lib.hid hBA
        have HB1 := Lib.hid hbA
        clear hp hSA hXA hKA hBA hbA hlowj hpm
        obtain ⟨a, ha⟩ : ∃ a, nd code = a := ⟨_, rfl⟩
        obtain ⟨b, hb⟩ : ∃ b, nd pi = b := ⟨_, rfl⟩
        rw [ha] at hlk hrc
        rw [hb] at hlk2 hrp
        have HA := Lib.hid ha
        have HBq := Lib.hid hb
        clear ha hb
        obtain ⟨tv, htv⟩ : ∃ tv, timesV a pq = tv := ⟨_, rfl⟩
        cases htb : timesB a pq
        · have hres := HSA.out.res
          have hlen1 : (pre ++ [k]).length = pre.length + 1 := by simp
          have hno : Hid (pre ++ [k] = downs l.length (pre ++ [k]).length → ¬ JoinOk (flat F N x.it.code q)) := Lib.hid (fun hd => by
            rw [hlen1] at hd
            obtain ⟨ww, h4⟩ := HCj.out hd
            have h5 := h4.bound HG.out HT.out HKI.out HP.out
            have h6 : 1125899906842624 < a * pq := times_no hrc.1 hrc.2 h5.2.1 hp30 htb
            have h7 : nd code = needs code := h4.own
            refine h4.over HG.out HT.out (by omega) HR.out HKI.out HP.out ?_
            show (1125899906842624 : Int) < nd pi + needs code * pq
            rw [HBq.out, ← h7, HA.out]
            omega)
          have hm6 := HSZ6.out
          have hp1 := Lib.hid (HKA.out.trans (by rw [hm6]; exact hres.2.2))
          have hp2 := Lib.hid hres.2.1
          have k1 := HSA.out.r1.cell
          have k2 := HSA.out.r1.frozen
          have k3 := hres.1.cell
          have k4 := hres.1.frozen
          clear hres hm6
          gi_wp2_with (refine ⟨trivial, ?_⟩; gi_at_call 43; refine (CallsIn.inRound lp (callsIn_wide.2 (times_any a pq _))).mono ?_; rintro e w' ⟨rfl, rfl⟩; rw [htv, htb])
          exact ⟨hp1.out, rfl, ⟨_, _, _, hp2.out⟩, hno.out⟩
        · obtain ⟨hv1, hv2, hv3⟩ := times_yes htb
          rw [htv] at hv1
          have HV1 := Lib.hid hv1
          clear hv1
          gi_wp2_with (refine ⟨trivial, ?_⟩; gi_at_call 43; refine (CallsIn.inRound lp (callsIn_wide.2 (times_any a pq _))).mono ?_; rintro e w' ⟨rfl, rfl⟩; rw [htv, htb])
          obtain ⟨av, hav⟩ : ∃ av, addV b tv = av := ⟨_, rfl⟩
          have hlkd : (Instr.lookup 55 (.map (some (w.heap.size + 2))) (.string ⟨pi.toArray⟩) false).run Try.prog (wr.alloc (.cells #[.string ⟨pi.toArray⟩, .int .i64 pq] 34)).drew = .ok (.int .i64 b) (wr.alloc (.cells #[.string ⟨pi.toArray⟩, .int .i64 pq] 34)).drew := by
            have := ((HSA.out.rm).at_block (w' := (wr.alloc (.cells #[.string ⟨pi.toArray⟩, .int .i64 pq] 34)).drew) rfl).look skeyed Try.underlying55 (zero64 _) (skey_of pi hpl1)
            rwa [HBq.out] at this
          have hSd := HSA.out.below (Below.refl _ _).drew
          have hn47 : n' < maxLen := by unfold maxLen; have hpl := hplen; have h8 : pre.length * 1048576 ≤ 1048576 * 1048576 := Nat.mul_le_mul (by omega) (Nat.le_refl _); omega
          obtain ⟨w9, hrun9, hm9, hg9⟩ := hSd.rm.put strKeyLits skeyed Try.underlying55 hn47 (key := .string ⟨pi.toArray⟩) (val := .int .i64 av) (skey_of pi hpl1)
          have hwz : w.heap.size + 2 < wr.heap.size := by omega
          have hpc9 : w9.cell? ⟨wr.heap.size, 0, none⟩ = some (.string ⟨pi.toArray⟩) := by
            have h8 : w9.heap[wr.heap.size]? = (wr.alloc (.cells #[.string ⟨pi.toArray⟩, .int .i64 pq] 34)).heap[wr.heap.size]? := hg9.block wr.heap.size (by show _ < (wr.alloc _).heap.size; simp only [World.size_alloc]; omega) (fun e => by have := Option.some.inj e; omega)
            rw [Go.cell_of_row _ _ _ _ _ _ (h8.trans (Go.heap_alloc_new wr _))]
            rfl
          have hX9 : Box4 w9 Bx ⟨⟨code, life, ps⟩, os, .slice (some ap) ps.length cp, .slice Ao os.length co⟩ := (hg9.block Bx HXA.out.lt (fun e => by have := Option.some.inj e; omega)).trans HXA.out
          have hB9 : Below w.heap.size W w9 := (HBA.out.drew).grown hg9 (by show _ ≤ (wr.alloc _).heap.size; simp only [World.size_alloc]; omega) (fun jj e => by cases e; omega)
          have hm6 := HSZ6.out
          have hK9 : KeepsFrom (((w4.alloc (.cells #[.map (some (w.heap.size + 2))] 55)).alloc (.cells #[.slice (some ad) l.length c] 22))).heap.size W w9 := (HKA.out.trans ((KeepsOthers.drew _).from _)).trans (KeepsFrom.of_grownBy hg9 (fun jj e => by cases e; rw [hm6]; omega))
          have HX9 := Lib.hid hX9
          have HB9 := Lib.hid hB9
          have HK9 := Lib.hid hK9
          have HSD := Lib.hid hSd
          have HM9 := Lib.hid hm9
          have HG9 := Lib.hid hg9
          clear hX9 hB9 hK9 hSd hm9 hg9 hlk hlk2 hnb e0 e1 e2 e3 y0 y1 q1 hm6 htv
          cases haB : addB b tv
          · have hav0 : av = 0 := by rw [← hav]; unfold addV; rw [haB]; rfl
            have hS9 := HSD.out.put HG9.out HM9.out (by rw [hav0]; omega) (by rw [hav0]; omega)
            have hb9 := hS9.rb
            have hres := hS9.res
            have hlen1 : (pre ++ [k]).length = pre.length + 1 := by simp
            have hno : Hid (pre ++ [k] = downs l.length (pre ++ [k]).length → ¬ JoinOk (flat F N x.it.code q)) := Lib.hid (fun hd => by
              rw [hlen1] at hd
              obtain ⟨ww, h4⟩ := HCj.out hd
              have h7 : nd code = needs code := h4.own
              refine h4.over HG.out HT.out (by omega) HR.out HKI.out HP.out ?_
              show (1125899906842624 : Int) < nd pi + needs code * pq
              rw [HBq.out, ← h7, HA.out, ← HV1.out]
              rw [← HV1.out] at hv2 hv3
              exact add_no hrp.1 hrp.2 hv2 hv3 haB)
            have hm6 := HSZ6.out
            have hp1 := Lib.hid (HK9.out.trans (by rw [hm6]; exact hres.2.2))
            have hp2 := Lib.hid hres.2.1
            have HRES := Lib.hid hres
            have HRR1 := Lib.hid hS9.r1
            clear hres hm6 hS9 hav0
            refine region_lit (by kernel_rfl) (by kernel_rfl) (fun w' => Boxed w' w4.heap.size 55 (.map (some (w.heap.size + 2))) ∧ w'.cell? ⟨wr.heap.size, 0, none⟩ = some (.string ⟨pi.toArray⟩)) ⟨HSD.out.rb, q0⟩ (fun _ _ h => h) (fun hS => ?_)
            refine wpAnyH_take (i := 0) (v := (.map (some (w.heap.size + 2)))) rfl (by kernel_rfl) (by kernel_rfl) (by kernel_rfl) (fun _ _ _ h => nomatch h.1) (Or.inl ⟨by kernel_rfl, fun w' hS' => by have hc := hS'.1.cell; go_simp⟩) hS ?_
            refine wpAnyH_take (i := 1) (v := (.pointer (some ⟨wr.heap.size, 0, none⟩))) rfl (by kernel_rfl) (by kernel_rfl) (by kernel_rfl) (fun _ _ _ h => nomatch h.1) (Or.inl ⟨by kernel_rfl, fun w' hS' => by go_simp⟩) hS ?_
            refine wpAnyH_take (i := 2) (v := (.string ⟨pi.toArray⟩)) rfl (by kernel_rfl) (by kernel_rfl) (by kernel_rfl) (fun _ _ _ h => nomatch h.1) (Or.inl ⟨by kernel_rfl, fun w' hS' => by have hc := hS'.2; go_simp⟩) hS ?_
            refine wpAnyH_take (i := 3) (v := (.map (some (w.heap.size + 2)))) rfl (by kernel_rfl) (by kernel_rfl) (by kernel_rfl) (fun _ _ _ h => nomatch h.1) (Or.inl ⟨by kernel_rfl, fun w' hS' => by have hc := hS'.1.cell; go_simp⟩) hS ?_
            refine wpAnyH_take (i := 4) (v := (.pointer (some ⟨wr.heap.size, 0, none⟩))) rfl (by kernel_rfl) (by kernel_rfl) (by kernel_rfl) (fun _ _ _ h => nomatch h.1) (Or.inl ⟨by kernel_rfl, fun w' hS' => by go_simp⟩) hS ?_
            refine wpAnyH_take (i := 5) (v := (.string ⟨pi.toArray⟩)) rfl (by kernel_rfl) (by kernel_rfl) (by kernel_rfl) (fun _ _ _ h => nomatch h.1) (Or.inl ⟨by kernel_rfl, fun w' hS' => by have hc := hS'.2; go_simp⟩) hS ?_
            refine wpAnyH_take (i := 7) (v := (.int .i64 tv)) rfl (by kernel_rfl) (by kernel_rfl) (by kernel_rfl) (fun _ _ _ h => nomatch h.1) (Or.inl ⟨by kernel_rfl, fun w' hS' => by go_simp⟩) hS ?_
            refine wpAnyH_ready (rs := [6]) (by kernel_rfl) (by simp) ?_
            refine AllReadyH.cons rfl (fun K hK => ?_) AllReadyH.nil
            go_simp
            refine hK.out _ _ (hS) (fun hS => ?_)
            clear hK K
            refine wpAnyH_ready (rs := [8]) (by kernel_rfl) (by simp) ?_
            refine AllReadyH.cons rfl (fun K hK => ?_) AllReadyH.nil
            go_simp
            refine (add_any b tv _).mono ?_
            rintro e w' ⟨rfl, rfl⟩
            refine hK.out _ _ (hS) (fun hS => ?_)
            clear hK K
            refine wpAnyH_take (i := 9) (v := (.tuple #[.int .i64 (addV b tv), .bool (addB b tv)])) rfl (by kernel_rfl) (by kernel_rfl) (by kernel_rfl) (fun _ _ _ h => nomatch h.1) (Or.inl ⟨by kernel_rfl, fun w' hS' => by go_simp⟩) hS ?_
            refine wpAnyH_take (i := 10) (v := (.int .i64 av)) rfl (by kernel_rfl) (by kernel_rfl) (by kernel_rfl) (fun _ _ _ h => nomatch h.1) (Or.inl ⟨by kernel_rfl, fun w' hS' => by go_simp⟩) hS ?_
            refine wpAnyH_take (i := 11) (v := (.bool false)) rfl (by kernel_rfl) (by kernel_rfl) (by kernel_rfl) (fun _ _ _ h => nomatch h.1) (Or.inl ⟨by kernel_rfl, fun w' hS' => by go_simp⟩) hS ?_
            refine wpAnyH_ready (rs := [12]) (by kernel_rfl) (by simp) ?_
            refine AllReadyH.cons rfl (fun K hK => ?_) AllReadyH.nil
            go_simp
            refine hK.out _ _ (⟨hb9, hpc9⟩) (fun hS => ?_)
            clear hK K
            refine wpAnyH_take (i := 13) (v := (.bool false)) rfl (by kernel_rfl) (by kernel_rfl) (by kernel_rfl) (fun _ _ _ h => nomatch h.1) (Or.inl ⟨by kernel_rfl, fun w' hS' => by go_simp⟩) hS ?_
            refine wpAnyH_done (by kernel_rfl) ?_ _
            refine ⟨rfl, ?_⟩
            have k1 := HRR1.out.cell
            have k2 := HRR1.out.frozen
            have k3 := HRES.out.1.cell
            have k4 := HRES.out.1.frozen
            gi_wp2
            exact ⟨hp1.out, rfl, ⟨_, _, _, hp2.out⟩, hno.out⟩
          · obtain ⟨ha1, ha2, ha3⟩ := add_yes haB
            rw [hav] at ha1
            have HA1 := Lib.hid ha1
            rw [← ha1] at ha2 ha3
            clear ha1
            have hS9 := HSD.out.put HG9.out HM9.out ha2 ha3
            have hb9 := hS9.rb
            have HS9 := Lib.hid hS9
            have hcn : Hid (pre ++ [k] = downs l.length (pre.length + 1) → ∃ ww, SpMid F N (l.map (·.it)) x.it.code q k.val ⟨code, life, ps⟩ (needs code) (j + 1) ww (put nd pi av)) := Lib.hid (fun hd => by
              obtain ⟨ww, h4⟩ := HCj.out hd
              have h7 : nd code = needs code := h4.own
              have h8 : av = nd pi + needs code * pq := by rw [HBq.out, ← h7, HA.out, ← HV1.out, HA1.out]
              have h9 : SpMid F N (l.map (·.it)) x.it.code q k.val ⟨code, life, ps⟩ (needs code) (j + 1) (put ww pi (ww pi + needs code * pq)) (put nd pi (nd pi + needs code * pq)) := h4.next HG.out HT.out HKI.out HP.out (by show nd pi + needs code * pq ≤ _; rw [← h8]; exact ha3)
              rw [← h8] at h9
              exact ⟨_, h9⟩)
            clear hS9
            refine region_lit (by kernel_rfl) (by kernel_rfl) (fun w' => Boxed w' w4.heap.size 55 (.map (some (w.heap.size + 2))) ∧ w'.cell? ⟨wr.heap.size, 0, none⟩ = some (.string ⟨pi.toArray⟩)) ⟨HSD.out.rb, q0⟩ (fun _ _ h => h) (fun hS => ?_)
            refine wpAnyH_take (i := 0) (v := (.map (some (w.heap.size + 2)))) rfl (by kernel_rfl) (by kernel_rfl) (by kernel_rfl) (fun _ _ _ h => nomatch h.1) (Or.inl ⟨by kernel_rfl, fun w' hS' => by have hc := hS'.1.cell; go_simp⟩) hS ?_
            refine wpAnyH_take (i := 1) (v := (.pointer (some ⟨wr.heap.size, 0, none⟩))) rfl (by kernel_rfl) (by kernel_rfl) (by kernel_rfl) (fun _ _ _ h => nomatch h.1) (Or.inl ⟨by kernel_rfl, fun w' hS' => by go_simp⟩) hS ?_
            refine wpAnyH_take (i := 2) (v := (.string ⟨pi.toArray⟩)) rfl (by kernel_rfl) (by kernel_rfl) (by kernel_rfl) (fun _ _ _ h => nomatch h.1) (Or.inl ⟨by kernel_rfl, fun w' hS' => by have hc := hS'.2; go_simp⟩) hS ?_
            refine wpAnyH_take (i := 3) (v := (.map (some (w.heap.size + 2)))) rfl (by kernel_rfl) (by kernel_rfl) (by kernel_rfl) (fun _ _ _ h => nomatch h.1) (Or.inl ⟨by kernel_rfl, fun w' hS' => by have hc := hS'.1.cell; go_simp⟩) hS ?_
            refine wpAnyH_take (i := 4) (v := (.pointer (some ⟨wr.heap.size, 0, none⟩))) rfl (by kernel_rfl) (by kernel_rfl) (by kernel_rfl) (fun _ _ _ h => nomatch h.1) (Or.inl ⟨by kernel_rfl, fun w' hS' => by go_simp⟩) hS ?_
            refine wpAnyH_take (i := 5) (v := (.string ⟨pi.toArray⟩)) rfl (by kernel_rfl) (by kernel_rfl) (by kernel_rfl) (fun _ _ _ h => nomatch h.1) (Or.inl ⟨by kernel_rfl, fun w' hS' => by have hc := hS'.2; go_simp⟩) hS ?_
            refine wpAnyH_take (i := 7) (v := (.int .i64 tv)) rfl (by kernel_rfl) (by kernel_rfl) (by kernel_rfl) (fun _ _ _ h => nomatch h.1) (Or.inl ⟨by kernel_rfl, fun w' hS' => by go_simp⟩) hS ?_
            refine wpAnyH_ready (rs := [6]) (by kernel_rfl) (by simp) ?_
            refine AllReadyH.cons rfl (fun K hK => ?_) AllReadyH.nil
            go_simp
            refine hK.out _ _ (hS) (fun hS => ?_)
            clear hK K
            refine wpAnyH_ready (rs := [8]) (by kernel_rfl) (by simp) ?_
            refine AllReadyH.cons rfl (fun K hK => ?_) AllReadyH.nil
            go_simp
            refine (add_any b tv _).mono ?_
            rintro e w' ⟨rfl, rfl⟩
            refine hK.out _ _ (hS) (fun hS => ?_)
            clear hK K
            refine wpAnyH_take (i := 9) (v := (.tuple #[.int .i64 (addV b tv), .bool (addB b tv)])) rfl (by kernel_rfl) (by kernel_rfl) (by kernel_rfl) (fun _ _ _ h => nomatch h.1) (Or.inl ⟨by kernel_rfl, fun w' hS' => by go_simp⟩) hS ?_
            refine wpAnyH_take (i := 10) (v := (.int .i64 av)) rfl (by kernel_rfl) (by kernel_rfl) (by kernel_rfl) (fun _ _ _ h => nomatch h.1) (Or.inl ⟨by kernel_rfl, fun w' hS' => by go_simp⟩) hS ?_
            refine wpAnyH_take (i := 11) (v := (.bool true)) rfl (by kernel_rfl) (by kernel_rfl) (by kernel_rfl) (fun _ _ _ h => nomatch h.1) (Or.inl ⟨by kernel_rfl, fun w' hS' => by go_simp⟩) hS ?_
            refine wpAnyH_ready (rs := [12]) (by kernel_rfl) (by simp) ?_
            refine AllReadyH.cons rfl (fun K hK => ?_) AllReadyH.nil
            go_simp
            refine hK.out _ _ (⟨hb9, hpc9⟩) (fun hS => ?_)
            clear hK K
            refine wpAnyH_take (i := 13) (v := (.bool true)) rfl (by kernel_rfl) (by kernel_rfl) (by kernel_rfl) (fun _ _ _ h => nomatch h.1) (Or.inl ⟨by kernel_rfl, fun w' hS' => by go_simp⟩) hS ?_
            refine wpAnyH_done (by kernel_rfl) ?_ _
            refine ⟨rfl, ?_⟩
            gi_wp2
            go_roundw
            case rel => exact ⟨j + 1, put nd pi av, n' + 1, _, by omega, by go_num, HS9, by omega, HK9, HB9, HX9, hcn⟩
            case measure => simp [intOf]; omega
      · obtain rfl : j = ps.length := by omega
        have hlen1 : (pre ++ [k]).length = pre.length + 1 := by simp
        have hfin : Hid (pre ++ [k] = downs l.length (pre ++ [k]).length → ∃ ww, Sp F N (l.map (·.it)) x.it.code q (l.length - (pre ++ [k]).length) ww nd) := Lib.hid (fun hd => by
          rw [hlen1] at hd ⊢
          obtain ⟨ww, h4⟩ := HCj.out hd
          obtain ⟨_, h3⟩ := downs_snoc hd hplen
          have h5 := h4.leave (Nat.le_refl _)
          have e : l.length - (pre.length + 1) = k.val := by omega
          rw [e]
          exact ⟨ww, h5⟩)
        have hpost : Hid (KeepsFrom (((w4.alloc (.cells #[.map (some (w.heap.size + 2))] 55)).alloc (.cells #[.slice (some ad) l.length c] 22))).heap.size W wr ∧ KeepB w.heap.size (w4.heap.size + 1) W wr ∧ ∃ needs n S, Sg w.heap.size w4.heap.size (w4.heap.size + 1) (w4.heap.size + 2) (.slice (some ad) l.length c) ((w4.alloc (.cells #[.map (some (w.heap.size + 2))] 55)).alloc (.cells #[.slice (some ad) l.length c] 22)) (wr) (needs) (n) (S) ∧ n ≤ 1 + (pre ++ [k]).length * 1048576 ∧ (pre ++ [k] = downs l.length (pre ++ [k]).length → ∃ ww, Sp F N (l.map (·.it)) x.it.code q (l.length - (pre ++ [k]).length) ww needs)) := Lib.hid ⟨HKj.out, ⟨HBj.out, HSj.out.rs.trans HRS.out.symm⟩, nd, n', S', HSj.out, by rw [hlen1]; omega, hfin.out⟩
        gi_wp2
        exact hpost.out
  case done =>
    rintro D xs W hD rfl ⟨needs, n, S, h1, hn, hsp⟩ hK
    obtain ⟨ww, hww⟩ := hsp (by rw [downs_len _ (Nat.le_refl _)])
    rw [downs_len _ (Nat.le_refl _), Nat.sub_self] at hww
    have HWW := Lib.hid hww
    have H1 := Lib.hid h1
    have c1 := h1.rb.cell
    have c2 := h1.r1.cell
    have c3 := h1.r1.frozen
    have hr2 : Boxed (W.setCell ⟨w.heap.size, 0, none⟩ (.map (some (w.heap.size + 2)))) (w.heap.size + 1) 4 (.bool false) := h1.r2.other (by omega) _
    have c4 := hr2.cell
    have c5 := hr2.frozen
    have hord := h1.ord
    have hK2 : ((W.setCell ⟨w.heap.size, 0, none⟩ (.map (some (w.heap.size + 2)))).setCell ⟨w.heap.size + 1, 0, none⟩ (.bool true)).heap[D]? = some (.deferred (some [])) := (KeepsOthers.setCell (W.setCell ⟨w.heap.size, 0, none⟩ (.map (some (w.heap.size + 2)))) ⟨w.heap.size + 1, 0, none⟩ (.bool true)).same D _ ((KeepsOthers.setCell W ⟨w.heap.size, 0, none⟩ (.map (some (w.heap.size + 2)))).same D _ hK rfl) rfl
    have hgp := grownBy_putObj' ((W.setCell ⟨w.heap.size, 0, none⟩ (.map (some (w.heap.size + 2)))).setCell ⟨w.heap.size + 1, 0, none⟩ (.bool true)) D (.deferred none)
    have hDz : w4.heap.size + 2 ≤ D := by rw [← HSZ6.out]; exact hD
    have hsetb : ((W.setCell ⟨w.heap.size, 0, none⟩ (.map (some (w.heap.size + 2)))).setCell ⟨w.heap.size + 1, 0, none⟩ (.bool true)).heap[w.heap.size + 2]? = W.heap[w.heap.size + 2]? := (Below.heap_setCell _ ⟨w.heap.size + 1, 0, none⟩ (.bool true) (w.heap.size + 2) (fun e => by simp at e)).trans (Below.heap_setCell W ⟨w.heap.size, 0, none⟩ (.map (some (w.heap.size + 2))) (w.heap.size + 2) (fun e => by simp at e))
    have hm9 := ((h1.rm).at_block hsetb).kept hgp (fun e => by have := Option.some.inj e; omega)
    have hb1 := ((h1.r1.set (.map (some (w.heap.size + 2)))).other (B' := w.heap.size + 1) (by omega) (.bool true)).kept hgp (fun e => by have := Option.some.inj e; omega)
    have hb2 := (hr2.set (.bool true)).kept hgp (fun e => by have := Option.some.inj e; omega)
    have hbl := ((((HLOW6.out.trans h1.low).setCell (p := ⟨w.heap.size, 0, none⟩) (Nat.le_refl _) (.map (some (w.heap.size + 2)))).setCell (p := ⟨w.heap.size + 1, 0, none⟩) (by show w.heap.size ≤ w.heap.size + 1; omega) (.bool true))).grown hgp (by simp only [World.setCell, Array.size_modify]; omega) (fun jj e => by have := Option.some.inj e; omega)
    have HM9 := Lib.hid hm9
    have HB1 := Lib.hid hb1.cell
    have HB2 := Lib.hid hb2.cell
    have HBL := Lib.hid hbl
    have HK := Lib.hid hK2
    clear hsp hww h1 hn hK hK2 hgp hsetb hm9 hb1 hb2 hbl hr2 hord
    gi_wp2
    refine ⟨by simp, .inl ⟨_, _, rfl, run_takeDeferred HK.out, ?_⟩⟩
    have p1 := HB1.out
    have p2 := HB2.out
    refine ⟨.tuple #[.map (some (w.heap.size + 2)), .bool true], results2 (t := 55) (s := 4) rfl _ _ ⟨w.heap.size, 0, none⟩ ⟨w.heap.size + 1, 0, none⟩ _ _ rfl rfl (by go_simp) (by go_simp), ⟨.inl ⟨_, needs, n, S, rfl, HM9.out, _, HWW.out⟩, HBL.out⟩⟩
  case stop =>
    rintro D cd pre W hD ⟨m, hm, rfl⟩ ⟨rfl, ⟨needs, n, S, h1⟩, hno⟩ hK
    have hno' := hno (by rw [downs_len _ hm])
    have HNO := Lib.hid hno'
    have H1 := Lib.hid h1
    have hgp := grownBy_putObj' W D (.deferred none)
    have hDz : w4.heap.size + 2 ≤ D := by rw [← HSZ6.out]; exact hD
    have hord := h1.ord
    have hb1 := h1.r1.kept hgp (fun e => by have := Option.some.inj e; omega)
    have hb2 := h1.r2.kept hgp (fun e => by have := Option.some.inj e; omega)
    have hbl := (HLOW6.out.trans h1.low).grown hgp (by omega) (fun jj e => by have := Option.some.inj e; omega)
    have HB1 := Lib.hid hb1.cell
    have HB2 := Lib.hid hb2.cell
    have HBL := Lib.hid hbl
    have HK := Lib.hid hK
    clear hno hno' h1 hK hgp hb1 hb2 hbl
    gi_wp2
    refine ⟨by simp, .inl ⟨_, _, rfl, run_takeDeferred HK.out, ?_⟩⟩
    have p1 := HB1.out
    have p2 := HB2.out
    refine ⟨.tuple #[.map none, .bool false], results2 (t := 55) (s := 4) rfl _ _ ⟨w.heap.size, 0, none⟩ ⟨w.heap.size + 1, 0, none⟩ _ _ rfl rfl (by go_simp) (by go_simp), ⟨.inr ⟨rfl, HNO.out⟩, HBL.out⟩⟩
end Kt
end Go.Proofs.Ytkdcpnbfeagggaa
end
section
/- kit.inEnd: what is kept of what is within, joined. -/
namespace Go.Proofs.Ytkdcpnbfeagggaa
namespace Kt
open Go.ChangeShapes Go.WideShapes Go.ChangeAt Go.RowKit Go.Maps Go.Shelf
set_option linter.unusedVariables false

/-- What is kept, and how much of it. -/
def keptP (needs : List UInt8 → Int) (l : List It) : List Pt := (l.filter keptB).map (fun x => (x.code, needs x.code))
theorem keptP_yes {needs : List UInt8 → Int} {l : List It} {k : Nat} {x : It} (hx : l[k]? = some x) (h : keptB x = true) : keptP needs (l.take (k + 1)) = keptP needs (l.take k) ++ [(x.code, needs x.code)] := by
  unfold keptP
  rw [List.take_add_one, hx, List.filter_append, List.map_append]
  simp [h]
theorem keptP_no {needs : List UInt8 → Int} {l : List It} {k : Nat} {x : It} (hx : l[k]? = some x) (h : keptB x = false) : keptP needs (l.take (k + 1)) = keptP needs (l.take k) := by
  unfold keptP
  rw [List.take_add_one, hx, List.filter_append, List.map_append]
  simp [h]
theorem keptP_len (needs : List UInt8 → Int) (l : List It) : (keptP needs l).length ≤ l.length := by
  unfold keptP
  rw [List.length_map]
  exact List.length_filter_le _ _
theorem keptP_len_take (needs : List UInt8 → Int) (l : List It) (k : Nat) : (keptP needs (l.take k)).length ≤ k := by
  have := keptP_len needs (l.take k)
  rw [List.length_take] at this
  omega
theorem keptP_mem {needs : List UInt8 → Int} {l : List It} {p : Pt} (h : p ∈ keptP needs l) : ∃ x ∈ l, keptB x = true ∧ p = (x.code, needs x.code) := by
  unfold keptP at h
  obtain ⟨x, hx, rfl⟩ := List.mem_map.1 h
  obtain ⟨h1, h2⟩ := List.mem_filter.1 hx
  exact ⟨x, h1, h2, rfl⟩

/-- Join of one list. -/
theorem flat1 (l : List Pt) : [l].flatten = l := by simp
theorem rows1 (w : World) (v : Value) (l : List Pt) (t : TypeId) (h : PSl w w.heap.size v l) : PRows (w.alloc (.cells #[v] t)) (w.alloc (.cells #[v] t)).heap.size (some ⟨w.heap.size, 0, none⟩) [l] := by
  have hb0 := below_alloc1 w (.cells #[v] t)
  have h2 : PSl (w.alloc (.cells #[v] t)) (w.alloc (.cells #[v] t)).heap.size v l := (h.below hb0).mono hb0.size
  obtain ⟨A, c, rfl, h1⟩ := id h
  have ho := World.ownsRow_lit (base := w.heap.size) (e := t) (size := 1) w #[.slice A l.length c] 1 (Nat.le_refl _) (by simp [maxLen]) rfl
  exact ⟨[.slice A l.length c], rfl, Lies.own ho, fun i v' l' hv hl => by
    match i, hv, hl with
    | 0, hv, hl => cases hv; cases hl; exact h2
    | i + 1, hv, hl => simp at hl⟩
def JoinedTo (l : List Pt) (W : World) (e : Ending) (w' : World) : Prop :=
  ∃ v out, e = .returned (.tuple #[v, .bool true]) ∧ IsJoin l out ∧ out.length ≤ l.length ∧ w'.ownsRow W.heap.size 34 2 v out.length (pcells out) ∧ Go.RowKit.Below W.heap.size W w'
theorem join_of {W : World} {v : Value} {l : List Pt} (g : Nat) (hg : W.heap.size = g) (hv : PSl W W.heap.size v l) (hs : Sized l) (hl : l.length ≤ 1099511627776) (hok : JoinOk l) :
    Calls Try.prog 46 #[.slice (some ⟨g, 0, none⟩) 1 1] (W.alloc (.cells #[v] 29)) (JoinedTo l W) := by
  subst hg
  refine (join_any (H := Unit) (some ⟨W.heap.size, 0, none⟩) 1 [l] _ (rows1 W v l 29 hv) (by rw [flat1]; exact hs) (by rw [flat1]; exact hl) (by simp)).mono ?_
  rw [flat1]
  have hb0 := below_alloc1 W (.cells #[v] 29)
  rintro e w' ⟨hb, ⟨_, v', out, rfl, hj, hl', ho⟩ | ⟨hno, _⟩⟩
  · exact ⟨v', out, rfl, hj, hl', base_less ho hb0.size, hb0.trans (hb.mono hb0.size)⟩
  · exact absurd hok hno

theorem partI : (Try.prog.info? 34).map (fun i => (i.zero, i.size, i.bytes)) = some (some (.agg #[.string ⟨#[]⟩, .int .i64 0]), 2, 24) := by kernel_rfl
/-- What inEnd answers. -/
def EndTo (P : List Pt) (w : World) (e : Ending) (w' : World) : Prop :=
  ∃ v out, e = .returned v ∧ IsJoin P out ∧ out.length ≤ P.length ∧ w'.ownsRow w.heap.size 34 2 v out.length (pcells out) ∧ Go.RowKit.Below w.heap.size w w'
set_option maxRecDepth 100000 in
set_option maxHeartbeats 4000000 in
theorem inEnd_any (v : Value) (b n : Nat) (needs : List UInt8 → Int) (S : List UInt8 → Prop) (l : List Iv) (w : World) (hv : ISl w w.heap.size v l) (hs : SizedI l) (hlen : l.length ≤ 1048576) (hm : SMap (.int .i64 0) w b n (fun c => .int .i64 (needs c)) S)
    (hok : JoinOk (keptP needs (l.map (·.it)))) :
    Calls Try.prog 28 #[v, .map (some b)] w (EndTo (keptP needs (l.map (·.it))) w) := by
  obtain ⟨i0, hi, hz0, hz1, hz2⟩ := info_parts partI
  obtain ⟨⟨A, c, rfl, hc1, hc2, hcz, hl⟩, hsub⟩ := id hv
  have HL := Lib.hid hl
  have HU := Lib.hid hsub
  have HS : Hid (SizedI l) := Lib.hid hs
  have HM := Lib.hid hm
  have HO := Lib.hid hok
  have H1 := Lib.hid hi
  have H2 := Lib.hid hz0
  have H3 := Lib.hid hz1
  have H4 := Lib.hid hz2
  clear hl hsub hv hs hi hz0 hz1 hz2 hm hok
  go_enter Try.func28, Try.ntmps28
  go_wp2
  go_loopw [5, 10] (fun o i wr => ∃ k : Nat, k ≤ l.length ∧ i = .int .i64 k ∧ Hid (wr.ownsRow w.heap.size 34 2 o (keptP needs ((l.map (·.it)).take k)).length (pcells (keptP needs ((l.map (·.it)).take k)))) ∧ Hid (Go.RowKit.Below w.heap.size w wr)) (fun _ i _ => l.length - (intOf i).toNat)
  case atStart => exact ⟨0, Nat.zero_le _, rfl, Lib.hid ⟨rfl, .inl ⟨rfl, rfl⟩⟩, Lib.hid (Below.refl _ _)⟩
  case round =>
    obtain ⟨k, hk, rfl, HR, HB⟩ := hrel
    by_cases hlt : k < l.length
    · obtain ⟨x, hx⟩ : ∃ x, l[k]? = some x := ⟨_, List.getElem?_eq_getElem hlt⟩
      have hxm := List.mem_of_getElem? hx
      have HXI : Hid ((l.map (·.it))[k]? = some x.it) := Lib.hid (by simp [hx])
      have HK := Lib.hid (kept_any x w.heap.size)
      obtain ⟨⟨code, life, ps⟩, os, pv, ov⟩ := x
      obtain ⟨Ap, cp, Ao, co, rfl, rfl, hcp, hcq⟩ := (HU.out _ hxm).form
      obtain ⟨ad, rfl, hab, x0, x1, x2, x3⟩ := (HL.out.below HB.out).rowI hx
      have hcs := (HS.out _ hxm).1
      have HX := Lib.hid (Box4.new wr ⟨⟨code, life, ps⟩, os, .slice Ap ps.length cp, .slice Ao os.length co⟩)
      have HB1 : Hid (Go.RowKit.Below w.heap.size w (wr.alloc (.cells #[.string ⟨code.toArray⟩, .int .i64 life, .slice Ap ps.length cp, .slice Ao os.length co] 32))) := Lib.hid (HB.out.alloc HB.out.size _)
      obtain ⟨e0, e1, e2, e3⟩ := HX.out.cells
      simp only at *
      clear hx
      have HXM := Lib.hid hxm
      clear hxm
      have hml := keptP_len_take needs (l.map (·.it)) k
      obtain ⟨m, hmm⟩ : ∃ m, (keptP needs ((l.map (·.it)).take k)).length = m := ⟨_, rfl⟩
      have hbx := HB1.out.size
      have hbs := HB.out.size
      cases hkp : keptB ⟨code, life, ps⟩
      · have hst := Lib.hid (keptP_no (needs := needs) HXI.out hkp)
        go_wp2_with (go_at_call 45; ((with_reducible refine (HK.out _ ((HU.out _ HXM.out).below HB1.out)).mono ?_); rintro e w3 ⟨rfl, hb3'⟩; have hb3 := Lib.hid (HB1.out.trans (hb3'.mono HB1.out.size)); have HW := Lib.hid hb3'; clear hb3'; rw [hkp]))
        go_roundw
        case rel => exact ⟨k + 1, by omega, by go_num, by rw [hst.out]; exact Lib.hid ((HR.out.alloc _).kept (below_none HW.out) (Classical.em _)), hb3⟩
        case measure => simp [intOf]; omega
      · have hst := Lib.hid (keptP_yes (needs := needs) HXI.out hkp)
        go_wp2_with (first
          | (go_at_call 45; ((with_reducible refine (HK.out _ ((HU.out _ HXM.out).below HB1.out)).mono ?_); rintro e w3 ⟨rfl, hb3'⟩; have hb3 := Lib.hid (HB1.out.trans (hb3'.mono HB1.out.size)); have HX3 := Lib.hid (HX.out.below hb3' HX.out.lt); obtain ⟨q0, q1, q2, q3⟩ := HX3.out.cells; simp only at q0 q1 q2 q3; have hlk := (HM.out.below hb3.out).look skeyed Try.underlying55 (zero64 _) (skey_of code hcs); have HR3 := Lib.hid ((HR.out.alloc (.cells #[.string ⟨code.toArray⟩, .int .i64 life, .slice Ap ps.length cp, .slice Ao os.length co] 32)).kept (below_none hb3') (Classical.em _)); have hb3s := hb3.out.size; clear hb3'; rw [hkp]))
          | (at_builtin; refine wpList_append_own _ rfl _ _ 29 rfl w.heap.size 34 i0 _ 2 24 Try.underlying29 H1.out H2.out H3.out H4.out rfl (by decide) _ _ _ rfl (HR3.out.alloc _) ⟨w3.heap.size, 0, none⟩ 1 1 [strV code, .int .i64 (needs code)] rfl rfl (two_new _ _ _ _) (two_one _ _) (by unfold maxLen; omega) (by rw [hmm]; omega) (by simp only [World.size_alloc]; omega) ?_; intro v' w4 hown4 hg4 _; have ho4 := Lib.hid hown4; have hG4 := Lib.hid hg4; clear hown4 hg4))
        have hb4 : Hid (Go.RowKit.Below w.heap.size w w4) := Lib.hid ((hb3.out.alloc (by omega) _).grown hG4.out (by simp only [World.size_alloc]; omega) (fun j hj => (HR3.out.lt j hj).1))
        go_roundw
        case rel =>
          refine ⟨k + 1, by omega, by go_num, ?_, hb4⟩
          rw [hst.out, List.length_append, pcells_append]
          exact ho4
        case measure => simp [intOf]; omega
    · obtain rfl : k = l.length := by omega
      have hall : (l.map (·.it)).take l.length = l.map (·.it) := List.take_of_length_le (by simp)
      have HR5 := HR.out
      rw [hall] at HR5
      obtain ⟨P, hP⟩ : ∃ P, keptP needs (l.map (·.it)) = P := ⟨_, rfl⟩
      have hPl : P.length ≤ l.length := by rw [← hP]; have := keptP_len needs (l.map (·.it)); simpa using this
      have HSz : Hid (Sized P) := Lib.hid (by
        intro p hp
        have h1 := HO.out.1 p (by rw [hP]; exact hp)
        rw [← hP] at hp
        obtain ⟨y, hy, _, rfl⟩ := keptP_mem hp
        obtain ⟨z, hz, rfl⟩ := List.mem_map.1 hy
        exact ⟨(HS.out z hz).1, by simp only at h1 ⊢; omega, by simp only at h1 ⊢; omega⟩)
      rw [hP] at HR5 HO
      have HP := Lib.hid hP
      obtain ⟨Ar, cr, rfl, qa, qb, qc⟩ := own_form HR5
      have HPS := Lib.hid (PSl.own HR5)
      have HQ := Lib.hid HR5
      clear HR5 HR hP hall
      have hbs := HB.out.size
      go_wp2_with (go_at_call 46; ((with_reducible refine (join_of (l := P) _ rfl HPS.out HSz.out (by omega) HO.out).mono ?_); rintro e w5 ⟨v5, out, rfl, hj, hjl, ho5, hb5⟩; have hO5 := Lib.hid (base_less ho5 HB.out.size); have hb6 := Lib.hid (below_two HB.out hb5); have hJ := Lib.hid hj; clear hj ho5 hb5))
      go_ret
      rw [HP.out]
      exact ⟨_, out, rfl, hJ.out, hjl, hO5.out, hb6.out⟩
end Kt
end Go.Proofs.Ytkdcpnbfeagggaa
end
section
/- Parts in words: what sound items are, and what is kept of what is within. -/
namespace Go.Proofs.Ytkdcpnbfeagggaa
namespace Kt
set_option linter.unusedVariables false

theorem shapedB_at {l : List It} (h : shapedB l = true) {x : It} (hx : x ∈ l) : ∃ k, l[k]? = some x ∧ (Cd.rightL x.code && (decide (lastOf l k < x.code) && (keptB x || kitB x))) = true := by
  obtain ⟨k, hk⟩ := List.getElem?_of_mem hx
  have hkl : k < l.length := by
    rcases Nat.lt_or_ge k l.length with h | h
    · exact h
    · rw [List.getElem?_eq_none h] at hk; cases hk
  unfold shapedB at h
  rw [List.all_eq_true] at h
  have h1 := h k (List.mem_range.2 hkl)
  unfold shapeAt at h1
  rw [hk] at h1
  exact ⟨k, hk, h1⟩
theorem shapedB_one {l : List It} (h : shapedB l = true) {x : It} (hx : x ∈ l) : keptB x = true ∨ kitB x = true := by
  obtain ⟨k, _, h1⟩ := shapedB_at h hx
  simp only [Bool.and_eq_true, Bool.or_eq_true] at h1
  exact h1.2.2
theorem keptB_parts {x : It} (h : keptB x = true) : x.parts = [] := by
  unfold keptB at h
  simp only [Bool.and_eq_true, decide_eq_true_eq] at h
  exact List.eq_nil_of_length_eq_zero h.2.2
theorem kitB_parts {x : It} (h : kitB x = true) : x.parts ≠ [] ∧ ∀ p ∈ x.parts, 1 ≤ p.2 ∧ p.2 ≤ 1073741824 := by
  unfold kitB at h
  simp only [Bool.and_eq_true, decide_eq_true_eq] at h
  obtain ⟨_, h1, _, h2⟩ := h
  refine ⟨fun e => by rw [e] at h1; simp at h1, fun p hp => ?_⟩
  obtain ⟨j, hj⟩ := List.getElem?_of_mem hp
  have hjl : j < x.parts.length := by
    rcases Nat.lt_or_ge j x.parts.length with h | h
    · exact h
    · rw [List.getElem?_eq_none h] at hj; cases hj
  unfold partsB at h2
  rw [List.all_eq_true] at h2
  have h3 := h2 j (List.mem_range.2 hjl)
  unfold freshB at h3
  rw [hj] at h3
  simp only [Bool.and_eq_true, decide_eq_true_eq] at h3
  omega
theorem kept_iff {l : List It} (h : shapedB l = true) {x : It} (hx : x ∈ l) : keptB x = true ↔ x.parts = [] := by
  constructor
  · exact keptB_parts
  · intro h0
    rcases shapedB_one h hx with h1 | h1
    · exact h1
    · exact absurd h0 (kitB_parts h1).1
theorem shaped_qty {l : List It} (h : shapedB l = true) {x : It} (hx : x ∈ l) : ∀ p ∈ x.parts, 1 ≤ p.2 ∧ p.2 ≤ 1073741824 := by
  rcases shapedB_one h hx with h1 | h1
  · rw [keptB_parts h1]; simp
  · exact (kitB_parts h1).2
theorem Sd.good {l : List It} (h : Sd l) : Good (lastI l) 8 where
  deep := fun c x hx => by
    obtain ⟨h1, h2⟩ := lastI_some l hx
    obtain ⟨d, hd, h8⟩ := h.deep x h1
    rw [h2] at hd
    exact ⟨d, hd, h8⟩
  qty := fun c x hx p hp => (shaped_qty h.shaped (lastI_some l hx).1 p hp).1

/-! ### what is kept, by its sums -/
theorem tot_keptP_out {needs : List UInt8 → Int} {it : List UInt8} {l : List It} (h : ∀ x ∈ l, keptB x = true → x.code ≠ it) : tot it (keptP needs l) = 0 := by
  refine tot_of_not_mem it _ (fun hm => ?_)
  obtain ⟨p, hp, rfl⟩ := List.mem_map.1 hm
  obtain ⟨x, hx, hk, rfl⟩ := keptP_mem hp
  exact h x hx hk rfl
theorem keptP_cons (needs : List UInt8 → Int) (x : It) (l : List It) : keptP needs (x :: l) = (if keptB x = true then [(x.code, needs x.code)] else []) ++ keptP needs l := by
  unfold keptP
  by_cases h : keptB x = true
  · rw [if_pos h]; simp [h]
  · rw [if_neg h]; simp [h]
theorem tot_keptP_in {needs : List UInt8 → Int} : ∀ {l : List It} {x : It}, (l.map (·.code)).Nodup → x ∈ l → keptB x = true → tot x.code (keptP needs l) = needs x.code
  | [], x, _, h, _ => by simp at h
  | y :: l, x, hn, h, hk => by
    rw [List.map_cons, List.nodup_cons] at hn
    rw [keptP_cons, tot_append]
    rcases List.mem_cons.1 h with rfl | h
    · rw [if_pos hk, tot_keptP_out (fun z hz _ e => hn.1 (by rw [← e]; exact List.mem_map_of_mem hz))]
      simp [tot]
    · rw [tot_keptP_in hn.2 h hk]
      have hne : y.code ≠ x.code := fun e => hn.1 (by rw [e]; exact List.mem_map_of_mem h)
      split
      · simp [tot, hne]
      · simp [tot]

/-- What is kept of what is within is what is flattened. -/
theorem keptP_flat {L m : List It} {c : List UInt8} {x : It} {q : Int} {ww needs : List UInt8 → Int} (hsd : Sd L) (hx : lastI L c = some x) (hq : 1 ≤ q) (hin : Inward (lastI L) [c] m) (hm : ∀ y ∈ m, y ∈ L) (hmem : ∀ a, a ∈ m.map (·.code) ↔ Reach (lastI L) c a)
    (hsp : Sp (lastI L) 8 m c q 0 ww needs) : JoinOk (keptP needs m) ∧ JoinOk (flat (lastI L) 8 c q) ∧ ∀ out, IsJoin (keptP needs m) out → IsJoin (flat (lastI L) 8 c q) out := by
  have hg := hsd.good
  have hfin : ∀ y ∈ m, keptB y = true → needs y.code = q * amt (lastI L) y.code 8 c := fun y hy hk => hsp.finish hg hin.topo hy (keptB_parts hk)
  have hkey : ∀ it, it ∈ (flat (lastI L) 8 c q).map (·.1) ↔ ∃ y ∈ m, keptB y = true ∧ y.code = it := by
    intro it
    constructor
    · intro hi
      obtain ⟨p, hp, rfl⟩ := List.mem_map.1 hi
      obtain ⟨⟨z, hz, hz0⟩, _, hr⟩ := flat_mem hg c x hx q (by omega) p hp
      obtain ⟨y, hy, hyc⟩ := List.mem_map.1 ((hmem p.1).2 hr)
      have hyz := hin.topo.found y hy
      rw [hyc, hz] at hyz
      cases hyz
      exact ⟨z, hy, (kept_iff hsd.shaped (hm z hy)).2 hz0, hyc⟩
    · rintro ⟨y, hy, hk, rfl⟩
      rw [flat_keys hg hx hq]
      exact reach_amt hg (hin.topo.found y hy) (keptB_parts hk) c x hx ((hmem y.code).1 (List.mem_map_of_mem hy))
  have htot : ∀ it, tot it (keptP needs m) = tot it (flat (lastI L) 8 c q) := by
    intro it
    by_cases h : ∃ y ∈ m, keptB y = true ∧ y.code = it
    · obtain ⟨y, hy, hk, rfl⟩ := h
      rw [tot_keptP_in hin.topo.nodup hy hk, tot_flat hg y.code c x hx q, hfin y hy hk]
    · rw [tot_keptP_out (fun y hy hk e => h ⟨y, hy, hk, e⟩), tot_of_not_mem it _ (fun hi => h ((hkey it).1 hi))]
  have hle : ∀ it, tot it (keptP needs m) ≤ 1125899906842624 := by
    intro it
    by_cases h : ∃ y ∈ m, keptB y = true ∧ y.code = it
    · obtain ⟨y, hy, hk, rfl⟩ := h
      rw [tot_keptP_in hin.topo.nodup hy hk]
      exact (hsp.rng y.code).2.1
    · rw [tot_keptP_out (fun y hy hk e => h ⟨y, hy, hk, e⟩)]; decide
  refine ⟨⟨fun p hp => ?_, hle⟩, ?_, fun out ho => ⟨ho.1, fun it n => ?_⟩⟩
  · obtain ⟨y, hy, hk, rfl⟩ := keptP_mem hp
    exact ⟨(hsp.rng _).1, (hsp.rng _).2.1⟩
  · rw [flat_ok hg hx (by omega)]
    intro y
    rw [← tot_flat hg y c x hx q, ← htot]
    exact hle y
  · rw [ho.2 it n, htot it]
    have : it ∈ (keptP needs m).map (·.1) ↔ it ∈ (flat (lastI L) 8 c q).map (·.1) := by
      rw [hkey]
      constructor
      · intro hi
        obtain ⟨p, hp, rfl⟩ := List.mem_map.1 hi
        obtain ⟨y, hy, hk, rfl⟩ := keptP_mem hp
        exact ⟨y, hy, hk, rfl⟩
      · rintro ⟨y, hy, hk, rfl⟩
        unfold keptP
        rw [List.map_map]
        exact List.mem_map.2 ⟨y, List.mem_filter.2 ⟨hy, hk⟩, rfl⟩
    rw [this]
end Kt
end Go.Proofs.Ytkdcpnbfeagggaa
end
section
/- kit.Parts: what is in so many of an item in the end. -/
namespace Go.Proofs.Ytkdcpnbfeagggaa
namespace Kt
open Go.ChangeShapes Go.WideShapes Go.ChangeAt Go.RowKit Go.Maps Go.Shelf
set_option linter.unusedVariables false

/-- What Parts answers. -/
def PartsTo (L : List It) (c : List UInt8) (q : Int) (w : World) (e : Ending) (w' : World) : Prop :=
  ((checkM L ≠ 0 ∧ e = .returned (.tuple #[.slice none 0 0, .int .i64 (checkM L)])) ∨
   (checkM L = 0 ∧ ¬ (1 ≤ q ∧ q ≤ 1125899906842624) ∧ e = .returned (.tuple #[.slice none 0 0, .int .i64 2])) ∨
   (checkM L = 0 ∧ (1 ≤ q ∧ q ≤ 1125899906842624) ∧ lastI L c = none ∧ e = .returned (.tuple #[.slice none 0 0, .int .i64 150])) ∨
   (checkM L = 0 ∧ (1 ≤ q ∧ q ≤ 1125899906842624) ∧ (lastI L c).isSome = true ∧ ¬ JoinOk (flat (lastI L) 8 c q) ∧ e = .returned (.tuple #[.slice none 0 0, .int .i64 3])) ∨
   (checkM L = 0 ∧ (1 ≤ q ∧ q ≤ 1125899906842624) ∧ (lastI L c).isSome = true ∧ JoinOk (flat (lastI L) 8 c q) ∧ ∃ v out, e = .returned (.tuple #[v, .int .i64 0]) ∧ IsJoin (flat (lastI L) 8 c q) out ∧ out.length ≤ 1048576 ∧ w'.ownsRow w.heap.size 34 2 v out.length (pcells out))) ∧ Go.RowKit.Below w.heap.size w w'

theorem inward_none {L m : List It} {c : List UInt8} (h : Inward (FS L) [c] m) (h0 : lastI L c = none) : m = [] := by
  cases m with
  | nil => rfl
  | cons x m =>
    obtain ⟨_, h2, _⟩ := (inward_codes h x.code).1 (by simp)
    rw [h0] at h2; cases h2
theorem inward_last {L : List It} {m : List Iv} {c : List UInt8} {x : It} (h : Inward (FS L) [c] (m.map (·.it))) (h0 : FS L c = some x) : 0 < m.length ∧ ∃ y, m[m.length - 1]? = some y ∧ y.it = x := by
  obtain ⟨e, he⟩ := h.last c x rfl h0
  have hl := congrArg List.length he
  simp only [List.length_map, List.length_append, List.length_cons, List.length_nil] at hl
  refine ⟨by omega, ?_⟩
  have h1 : (m.map (·.it))[m.length - 1]? = some x := by
    rw [he, hl, List.getElem?_append_right (by omega)]
    simp
  rw [List.getElem?_map] at h1
  cases hy : m[m.length - 1]? with
  | none => rw [hy] at h1; cases h1
  | some y => rw [hy] at h1; exact ⟨y, rfl, by simpa using h1⟩

set_option maxRecDepth 100000 in
set_option maxHeartbeats 4000000 in
theorem parts_any (v : Value) (l : List Iv) (c : List UInt8) (q : Int) (w : World) (hv : ISl w w.heap.size v l) (hs : SizedI l) (hlen : l.length ≤ 1048576) (hc : c.length ≤ maxLen) (hq0 : -9223372036854775808 ≤ q) (hq1 : q ≤ 9223372036854775807) :
    Calls Try.prog 10 #[v, .string ⟨c.toArray⟩, .int .i64 q] w (PartsTo (l.map (·.it)) c q w) := by
  have HSD := Lib.hid (sound_any v l w hv hs hlen)
  obtain ⟨⟨A, k, rfl, hc1, hc2, hcz, hl⟩, hsub⟩ := id hv
  have HV := Lib.hid hv
  have HS : Hid (SizedI l) := Lib.hid hs
  clear hl hsub hv hs
  obtain ⟨L, hL⟩ : ∃ L, l.map (·.it) = L := ⟨_, rfl⟩
  obtain ⟨cm, hcm⟩ : ∃ cm, checkM L = cm := ⟨_, rfl⟩
  have HCM : Hid (checkM (l.map (·.it)) = cm) := Lib.hid (by rw [hL]; exact hcm)
  have HCL := Lib.hid hcm
  have HL := Lib.hid hL
  rw [hL]
  clear hcm hL
  by_cases h0 : cm = 0
  rotate_left
  · have d0 : decide (cm = 0) = false := decide_eq_false h0
    go_enter Try.func10, Try.ntmps10
    go_wp2_with (go_at_call 18; ((with_reducible refine HSD.out.mono ?_); rintro e w1 hsd; obtain ⟨mo, rfl, hf1, hb1⟩ := sound_GS hsd; have HB1 := Lib.hid hb1; clear hsd hf1 hb1; rw [HCM.out]))
    go_ret2
    exact ⟨.inl ⟨by rw [HCL.out]; exact h0, by rw [HCL.out]; rfl⟩, HB1.out⟩
  subst h0
  by_cases hq : 1 ≤ q ∧ q ≤ 1125899906842624
  rotate_left
  · by_cases hq1' : q < 1
    · go_enter Try.func10, Try.ntmps10
      go_wp2_with (go_at_call 18; ((with_reducible refine HSD.out.mono ?_); rintro e w1 hsd; obtain ⟨mo, rfl, hf1, hb1⟩ := sound_GS hsd; have HB1 := Lib.hid hb1; clear hsd hf1 hb1; rw [HCM.out]))
      go_ret2
      exact ⟨.inr (.inl ⟨HCL.out, hq, rfl⟩), HB1.out⟩
    · have HR : Hid (rightB q = false) := Lib.hid (by unfold rightB; exact decide_eq_false (by omega))
      go_enter Try.func10, Try.ntmps10
      go_wp2_with (first
        | (go_at_call 18; ((with_reducible refine HSD.out.mono ?_); rintro e w1 hsd; obtain ⟨mo, rfl, hf1, hb1⟩ := sound_GS hsd; have HB1 := Lib.hid hb1; clear hsd hf1 hb1; rw [HCM.out]))
        | (go_at_call 25; ((with_reducible refine (right_no q _ HR.out).mono ?_); rintro e w' ⟨rfl, rfl⟩)))
      go_ret2
      exact ⟨.inr (.inl ⟨HCL.out, hq, rfl⟩), HB1.out⟩
  have HQ := Lib.hid hq
  have hq1' : ¬ q < 1 := by omega
  have HR : Hid (rightB q = true) := Lib.hid (by unfold rightB; exact decide_eq_true (by omega))
  have HFS : Hid (FS L = lastI L) := Lib.hid (by unfold FS; rw [if_pos HCL.out])
  cases hx : lastI L c with
  | none =>
    have HX := Lib.hid hx
    clear hx
    go_enter Try.func10, Try.ntmps10
    go_wp2_with (first
      | (go_at_call 18; ((with_reducible refine HSD.out.mono ?_); rintro e w1 hsd; obtain ⟨mo, rfl, hf1, hb1⟩ := sound_GS hsd; have HB1 := Lib.hid hb1; have HF1 := Lib.hid hf1; have HV1 := Lib.hid (HV.out.at_ hb1); clear hsd hf1 hb1; rw [HCM.out]))
      | (go_at_call 25; ((with_reducible refine (right_yes q _ HR.out).mono ?_); rintro e w' ⟨rfl, rfl⟩))
      | (go_at_call 26; ((with_reducible refine (inward_one mo l c _ _ HV1.out HS.out hlen hc HF1.out _ rfl).mono ?_); rintro e w2 ⟨A2, k2, m, rfl, hi2, hin2, hms, hm2, _, hb2⟩; rw [HL.out] at hin2; have HB2 := Lib.hid (below_two HB1.out hb2); obtain rfl : m = [] := List.map_eq_nil_iff.1 (inward_none hin2 HX.out); clear hi2 hin2 hms hb2; simp only [List.length_nil])))
    go_ret2
    exact ⟨.inr (.inr (.inl ⟨HCL.out, HQ.out, HX.out, rfl⟩)), HB2.out⟩
  | some x =>
    have HX := Lib.hid hx
    have HXF : Hid (FS L c = some x) := Lib.hid (by rw [HFS.out]; exact hx)
    have HXC := Lib.hid (lastI_some L hx).2
    have HGD := Lib.hid (checkM_sd HCL.out)
    clear hx
    go_enter Try.func10, Try.ntmps10
    go_wp2_with (first
      | (go_at_call 18; ((with_reducible refine HSD.out.mono ?_); rintro e w1 hsd; obtain ⟨mo, rfl, hf1, hb1⟩ := sound_GS hsd; have HB1 := Lib.hid hb1; have HF1 := Lib.hid hf1; have HV1 := Lib.hid (HV.out.at_ hb1); clear hsd hf1 hb1; rw [HCM.out]))
      | (go_at_call 25; ((with_reducible refine (right_yes q _ HR.out).mono ?_); rintro e w' ⟨rfl, rfl⟩))
      | (go_at_call 26; ((with_reducible refine (inward_one mo l c _ _ HV1.out HS.out hlen hc HF1.out _ rfl).mono ?_); rintro e w2 ⟨A2, k2, m, rfl, hi2, hin2, hms, hm2, hml, hb2⟩; rw [HL.out] at hin2; have HI2 := Lib.hid hi2; have HIN2 := Lib.hid hin2; have HMS := Lib.hid hms; have HML := Lib.hid hml; have HB2 := Lib.hid (below_two HB1.out hb2); have hm0 := (inward_last hin2 HXF.out).1; have hmd : decide ((m.length : Int) = 0) = false := decide_eq_false (by omega); clear hi2 hin2 hms hml hb2))
      | fail)
    obtain ⟨hl0, y, hy, hyx⟩ := inward_last HIN2.out HXF.out
    have htop : Topo (lastI L) (m.map (·.it)) := by have := HIN2.out.topo; rwa [HFS.out] at this
    have hyc : y.it.code = c := by rw [hyx]; exact HXC.out
    have hqs : ∀ z ∈ m, ∀ p ∈ z.it.parts, p.2 ≤ 1073741824 := fun z hz p hp => (shaped_qty HGD.out.shaped (by rw [← HL.out]; exact List.mem_map_of_mem (HML.out z hz)) p hp).2
    have HSP := Lib.hid (spread_any _ m q _ (lastI L) 8 y HI2.out HMS.out hm2 hl0 hy HGD.out.good htop HQ.out.1 HQ.out.2 hqs)
    rw [hyc] at HSP
    clear hy hyx htop hyc hqs
    refine HSP.out.mono ?_
    rintro e w3 ⟨(⟨b3, needs, n3, S3, rfl, hm3, ww, hsp⟩ | ⟨rfl, hno⟩), hb3⟩
    · have HB3 := Lib.hid (below_two HB2.out hb3)
      have HI3 := Lib.hid (HI2.out.at_ hb3)
      have hmem : ∀ a, a ∈ (m.map (·.it)).map (·.code) ↔ Reach (lastI L) c a := fun a => by
        rw [inward_codes HIN2.out a]
        exact ⟨fun h => h.2.2, fun h => ⟨HCL.out, by rw [HX.out]; rfl, h⟩⟩
      have hinl : Inward (lastI L) [c] (m.map (·.it)) := by have := HIN2.out; rwa [HFS.out] at this
      have hmL : ∀ z ∈ m.map (·.it), z ∈ L := fun z hz => by
        obtain ⟨z', hz', rfl⟩ := List.mem_map.1 hz
        rw [← HL.out]; exact List.mem_map_of_mem (HML.out z' hz')
      have HKF := Lib.hid (keptP_flat HGD.out HX.out HQ.out.1 hinl hmL hmem hsp)
      have HM3 := Lib.hid hm3
      have hkl := keptP_len needs (m.map (·.it))
      rw [List.length_map] at hkl
      clear hb3 hsp hm3 hmem hinl hmL
      go_wp2_with (go_at_call 28; ((with_reducible refine (inEnd_any _ b3 n3 needs S3 m _ HI3.out HMS.out hm2 HM3.out HKF.out.1).mono ?_); rintro e w4 ⟨v4, out, rfl, hj4, hl4, ho4, hb4⟩; have HJ4 := Lib.hid hj4; have HO4 := Lib.hid (base_less ho4 HB3.out.size); have HB4 := Lib.hid (below_two HB3.out hb4); clear hj4 ho4 hb4))
      go_ret2
      exact ⟨.inr (.inr (.inr (.inr ⟨HCL.out, HQ.out, by rw [HX.out]; rfl, HKF.out.2.1, v4, out, rfl, HKF.out.2.2 out HJ4.out, by omega, HO4.out⟩))), HB4.out⟩
    · have HB3 := Lib.hid (below_two HB2.out hb3)
      have HNO := Lib.hid hno
      clear hb3 hno
      go_wp2
      go_ret2
      exact ⟨.inr (.inr (.inr (.inl ⟨HCL.out, HQ.out, by rw [HX.out]; rfl, HNO.out, rfl⟩))), HB3.out⟩
end Kt
end Go.Proofs.Ytkdcpnbfeagggaa
end
section
/- storemankit.SameParts: are two lists of parts the same? -/
namespace Go.Proofs.Ytkdcpnbfeagggaa
open Go.ChangeShapes Go.WideShapes Go.ChangeAt Go.RowKit Go.Maps
set_option linter.unusedVariables false

theorem below_draws {B : Nat} {a w : World} (h : Below B a w) (n : Nat) : Below B a (w.drewN n) := ⟨h.os, h.tape, h.output, h.size, h.block⟩

theorem eq_part (p q : Pt) (w : World) : (Op.equalIn 10000 34 (.agg #[encStr p.1, .int .i64 p.2]) (.agg #[encStr q.1, .int .i64 q.2])).run Try.prog w = .ok (decide (p = q)) w := by
  have u2 := Try.underlying2
  have a2 := Try.isAgg2
  have z2 := Try.sizeOf2
  have u9 := Try.underlying9
  have a9 := Try.isAgg9
  have z9 := Try.sizeOf9
  have hS : Try.prog.underlying 34 = some (.struct (Try.prog.fieldsOf 34)) := by kernel_rfl
  have hp : Try.prog.stoodInHeld 34 = false := by kernel_rfl
  rw [show (10000 : Nat) = 9999 + 1 from rfl, run_equalIn_agg w 9999 34 _ _ hS hp]
  simp only [Program.fieldsOf, Try.underlying34]
  go_simp
  obtain ⟨a, b⟩ := p
  obtain ⟨c, d⟩ := q
  by_cases h1 : a = c <;> by_cases h2 : b = d <;> simp [h1, h2]

theorem neq_part (p q : Pt) (w : World) : (binOp .neq 34 (.agg #[encStr p.1, .int .i64 p.2]) (.agg #[encStr q.1, .int .i64 q.2])).run Try.prog w = .ok (.bool (!decide (p = q))) w := by
  rw [run_neq_struct, eq_part]; rfl

/-- The two cells of part k. -/
theorem PSl.cells {w : World} {B : Nat} {v : Value} {l : List Pt} (h : PSl w B v l) {k : Nat} {p : Pt} (hk : l[k]? = some p) :
    ∃ ad c, v = .slice (some ad) l.length c ∧ c ≤ maxLen ∧ ad.block < B ∧ w.cell? (ad.add (k * 2)) = some (encStr p.1) ∧ w.cell? ⟨(ad.add (k * 2)).block, (ad.add (k * 2)).off + 1, none⟩ = some (.int .i64 p.2) := by
  obtain ⟨A, c, rfl, h1, h2, _, hl⟩ := h
  obtain ⟨ad, rfl, hb, hc0⟩ := hl.get (pcells_item l k p hk)
  obtain ⟨ad', ha, _, hc1⟩ := hl.get (pcells_qty l k p hk)
  obtain rfl : ad = ad' := by simpa using ha
  rw [← addr_add] at hc1
  exact ⟨ad, c, rfl, h2, hb, hc0, hc1⟩

def sameB (l m : List Pt) : Bool := decide (l = m)

set_option maxHeartbeats 1000000 in
theorem same_any (l m : List Pt) (v1 v2 : Value) (w : World) (h1 : PSl w w.heap.size v1 l) (h2 : PSl w w.heap.size v2 m) (hl : l.length ≤ 1099511627776) (hm : m.length ≤ 1099511627776) :
    Calls Try.prog 12 #[v1, v2] w fun e w' => e = .returned (.bool (sameB l m)) ∧ Below w.heap.size w w' := by
  obtain ⟨A, c, rfl, hc1, hc2, _, hl1⟩ := id h1
  obtain ⟨A', c', rfl, hc1', hc2', _, hl1'⟩ := id h2
  by_cases hlen : l.length = m.length
  · have hn1 : (decide ((l.length : Int) = (m.length : Int))) = true := by simp [hlen]
    have hle1 : l.length ≤ m.length := by omega
    have hle2 : m.length ≤ l.length := by omega
    have hb1 : ((l.length : Int) == (m.length : Int)) = true := by simp [hlen]
    have hb2 : ((l.length : Int) != (m.length : Int)) = false := by simp [hlen]
    have HLEN := Lib.hid hlen
    clear hlen
    go_enter Try.func12, Try.ntmps12
    go_wp2
    clear hn1 hb1 hb2
    go_loopw [5] (fun i wr => ∃ k : Nat, k ≤ l.length ∧ i = .int .i64 k ∧ Below w.heap.size w wr ∧ l.take k = m.take k) (fun i _ => l.length - (intOf i).toNat)
    case atStart => exact ⟨0, Nat.zero_le _, rfl, Below.refl _ _, rfl⟩
    case round =>
      obtain ⟨k, hk, rfl, hbr, htk⟩ := hrel
      have HTK := Lib.hid htk
      clear htk
      by_cases hlt : k < l.length
      · obtain ⟨p, hp⟩ : ∃ p, l[k]? = some p := ⟨_, List.getElem?_eq_getElem hlt⟩
        obtain ⟨q, hq⟩ : ∃ q, m[k]? = some q := ⟨_, List.getElem?_eq_getElem (by omega)⟩
        obtain ⟨ap, cp, hvp, _, _, hp0, hp1⟩ := (h1.below hbr).cells hp
        obtain ⟨aq, cq, hvq, _, _, hq0, hq1⟩ := (h2.below hbr).cells hq
        injection hvp with hA _ hC
        injection hvq with hA' _ hC'
        subst hA hA' hC hC'
        have HP := Lib.hid hp
        have HQ := Lib.hid hq
        clear hp hq
        have hltm : k < m.length := by omega
        by_cases hpq : p = q
        · have hne : ∀ w, (binOp .neq 34 (.agg #[encStr p.1, .int .i64 p.2]) (.agg #[encStr q.1, .int .i64 q.2])).run Try.prog w = .ok (.bool false) w := fun w => by rw [neq_part]; simp [hpq]
          have HPQ := Lib.hid hpq
          clear hpq
          go_wp2
          go_quiet (fail)
          go_wp2
          go_roundw
          case rel => exact ⟨k + 1, by omega, by go_num, below_draws hbr _, by rw [List.take_add_one, List.take_add_one, HTK.out, HP.out, HQ.out, HPQ.out]⟩
          case measure => simp [intOf]; omega
        · have hne : ∀ w, (binOp .neq 34 (.agg #[encStr p.1, .int .i64 p.2]) (.agg #[encStr q.1, .int .i64 q.2])).run Try.prog w = .ok (.bool true) w := fun w => by rw [neq_part]; simp [hpq]
          have HPQ := Lib.hid hpq
          clear hpq
          go_wp2
          go_quiet (fail)
          go_wp2
          go_ret
          refine ⟨ret_bool ?_, below_draws hbr _⟩
          symm
          simp only [sameB, decide_eq_false_iff_not]
          intro e
          subst e
          exact HPQ.out (Option.some.inj (HP.out.symm.trans HQ.out))
      · obtain rfl : k = l.length := by omega
        go_wp2
        go_ret
        refine ⟨ret_bool ?_, hbr⟩
        have h := HTK.out
        rw [List.take_of_length_le (Nat.le_refl _), List.take_of_length_le (by omega)] at h
        simp [sameB, h]
  · have hb1 : ((l.length : Int) == (m.length : Int)) = false := by simp; omega
    have hb2 : ((l.length : Int) != (m.length : Int)) = true := by simp; omega
    have HLEN := Lib.hid hlen
    clear hlen
    go_enter Try.func12, Try.ntmps12
    go_wp2
    go_ret
    refine ⟨ret_bool ?_, Below.refl _ _⟩
    symm
    simp only [sameB, decide_eq_false_iff_not]
    rintro rfl
    exact HLEN.out rfl

theorem same_yes (l : List Pt) (v1 v2 : Value) (w : World) (h1 : PSl w w.heap.size v1 l) (h2 : PSl w w.heap.size v2 l) (hl : l.length ≤ 1099511627776) :
    Calls Try.prog 12 #[v1, v2] w fun e w' => e = .returned (.bool true) ∧ Below w.heap.size w w' := by
  refine (same_any l l v1 v2 w h1 h2 hl hl).mono ?_
  rintro e w' ⟨rfl, hb⟩
  exact ⟨ret_bool (by simp [sameB]), hb⟩
end Go.Proofs.Ytkdcpnbfeagggaa
end
