/- Texts of this proof, one behind the other. -/
import Derived.Maps.AppendAt
import Derived.Sort.OwnSorted
import Derived.Test.YtkdcpnbfeagggaaA02
section
/- kit.inward's function that calls itself. -/
namespace Go.Proofs.Ytkdcpnbfeagggaa
namespace Kt
open Go.ChangeShapes Go.WideShapes Go.ChangeAt Go.RowKit Go.Maps Go.Shelf
set_option linter.unusedVariables false

theorem infoItem : (Try.prog.info? 32).map (fun i => (i.zero, i.size, i.bytes)) = some (some zI, 4, 72) := by kernel_rfl
theorem four_new (w : World) (x : Iv) (t : TypeId) : ∀ j u, (encI x)[j]? = some u → (w.alloc (.cells #[strV x.it.code, .int .i64 x.it.life, x.pv, x.ov] t)).cell? ((⟨w.heap.size, 0, none⟩ : Addr).add j) = some u := by
  intro j u h
  rw [fresh_cell, ← h, ← Array.getElem?_toList]
  rfl
theorem own_new {v v' : Value} {n : Nat} (h : v'.ownBlock = v.ownBlock ∨ v'.ownBlock = some n) : ∀ b, v'.ownBlock = some b → v.ownBlock = some b ∨ n ≤ b := fun b hb => by
  rcases h with e | e <;> rw [e] at hb
  · exact .inl hb
  · cases hb; exact .inr (Nat.le_refl _)
theorem upd_iff {seen : List UInt8 → Nat} {G : List UInt8 → Option Iv} {c : List UInt8} : (fdOf G c).isSome = (G c).isSome := by simp [fdOf]

set_option maxRecDepth 100000 in
set_option maxHeartbeats 8000000 in
theorem enter_any (mv : Value) (n₀ : Nat) (G : List UInt8 → Option Iv) (K : List (List UInt8)) (hS : Stat G K) : ∀ (m : Nat) (c : List UInt8) (seen : List UInt8 → Nat) (l : List Iv) (n β : Nat) (v : Value) (W : World),
    left K seen < m → c.length ≤ maxLen → Inv (fdOf G) seen (l.map (·.it)) → OnWay (fdOf G) seen c → At mv n₀ G K W v seen l n β →
    Calls Try.prog 41 #[.string ⟨c.toArray⟩, .pointer (some ⟨n₀, 0, none⟩), .pointer (some ⟨n₀ + 3, 0, none⟩), .pointer (some ⟨n₀ + 4, 0, none⟩), .pointer (some ⟨n₀ + 1, 0, none⟩)] W (EnterTo mv n₀ G K W v seen l β c) := by
  intro m
  induction m with
  | zero => intro c seen l n β v W h; omega
  | succ m ih =>
    intro c seen l n β v W hm hc hinv hway hat
    have IH := Lib.hid ih
    have HINV := Lib.hid hinv
    have HWAY := Lib.hid hway
    have HAT := Lib.hid hat
    have HST : Hid (Stat G K) := Lib.hid hS
    have hsz := hat.size
    have hnK : n ≤ 1048576 := by have := hat.nk; have := hS.few; omega
    have hmf : ∃ mo, mv = .map mo := by rcases hat.fnd with ⟨rfl, _⟩ | ⟨b, _, rfl, _⟩ <;> exact ⟨_, rfl⟩
    obtain ⟨mo, rfl⟩ := hmf
    have hlk1 := hat.fnd.look c hc
    have hfc := hat.cf.cell
    have hcode := hS.code c
    have hfits := hS.fits c
    have hink := hS.inK c
    have hgs := hat.gs c
    clear ih hinv hway hS
    cases hg : G c with
    | none =>
      rw [hg] at hlk1
      simp only [elI, Option.isSome_none] at hlk1
      have hb1 : Go.RowKit.Below W.heap.size W (W.alloc (.cells #[.string ⟨#[]⟩, .int .i64 0, .slice none 0 0, .slice none 0 0] 32)) := below_alloc1 _ _
      have hdone : Hid (EnterTo (.map mo) n₀ G K W v seen l β c (.returned (.bool true)) (W.alloc (.cells #[.string ⟨#[]⟩, .int .i64 0, .slice none 0 0, .slice none 0 0] 32))) :=
        Lib.hid (.inl ⟨rfl, v, seen, l, n, hat.below hb1, Went.none HINV.out (by simp [fdOf, hg]), Fr.below hb1 (by omega) v⟩)
      clear hat hb1 hgs
      go_enter Try.func41, Try.ntmps41
      go_wp2
      go_ret
      exact hdone.out
    | some x =>
      rw [hg] at hlk1
      simp only [elI, Option.isSome_some] at hlk1
      have hxc := hcode x hg
      have hxf := hfits x hg
      have hxk := hink x hg
      have hxs := hgs x hg
      obtain ⟨⟨code, life, ps⟩, os, pv, ov⟩ := x
      obtain ⟨Ap, cp, Ao, co, rfl, rfl, hcp, hcq⟩ := hxs.form
      simp only at hxc
      subst hxc
      have hb1 : Go.RowKit.Below W.heap.size W (W.alloc (.cells #[.string ⟨code.toArray⟩, .int .i64 life, .slice Ap ps.length cp, .slice Ao os.length co] 32)) := below_alloc1 _ _
      have hat1 := hat.below hb1
      have hlk2 := hat1.sm.look skeyed Try.underlying59 (zInt_run _) (skey_of code hc)
      have hcs := hat1.cs.cell
      have HB1 := Lib.hid hb1
      have HAT1 := Lib.hid hat1
      have HG := Lib.hid hg
      have HXF := Lib.hid hxf
      have HXS := Lib.hid hxs
      clear hat hb1 hgs hat1 hcode hfits hink hg hxf hxs
      have hrng := HINV.out.rng code
      by_cases h2 : seen code = 2
      · rw [h2] at hlk2
        have hdone : Hid (EnterTo (.map mo) n₀ G K W v seen l β code (.returned (.bool true)) (W.alloc (.cells #[.string ⟨code.toArray⟩, .int .i64 life, .slice Ap ps.length cp, .slice Ao os.length co] 32))) :=
          Lib.hid (.inl ⟨rfl, v, seen, l, n, HAT1.out, Went.done HINV.out h2, Fr.below HB1.out (by omega) v⟩)
        go_enter Try.func41, Try.ntmps41
        go_wp2
        go_ret
        exact hdone.out
      · by_cases h1 : seen code = 1
        · rw [h1] at hlk2
          have hdone : Hid (EnterTo (.map mo) n₀ G K W v seen l β code (.returned (.bool false)) (W.alloc (.cells #[.string ⟨code.toArray⟩, .int .i64 life, .slice Ap ps.length cp, .slice Ao os.length co] 32))) :=
            Lib.hid (.inr ⟨rfl, round_hit HWAY.out h1, HB1.out.mono (by omega)⟩)
          go_enter Try.func41, Try.ntmps41
          go_wp2
          go_ret
          exact hdone.out
        · have h0 : seen code = 0 := by omega
          rw [h0] at hlk2
          have hFx : fdOf G code = some ⟨code, life, ps⟩ := by simp [fdOf, HG.out]
          have HFX := Lib.hid hFx
          have HMS := Lib.hid (Midst.start HINV.out hFx h0)
          have HZ : Hid (seen code = 0) := Lib.hid h0
          have hX := Box4.new W ⟨⟨code, life, ps⟩, os, .slice Ap ps.length cp, .slice Ao os.length co⟩
          have HX := Lib.hid hX
          have hpsl : ps.length ≤ 1048576 := HXF.out.2.2.2.2.1
          have HPS := Lib.hid HXF.out.2.2.1
          have hpl0 := HXS.out.parts
          obtain ⟨Ap', cp', hpe, hp1, hp2, hpz, hpl⟩ := hpl0
          cases hpe
          have HPA := Lib.hid hpl
          have hleft : left K (put seen code 1) < left K seen := left_lt (fun a ha => by
            by_cases e : a = code
            · subst e; rw [put_same] at ha; omega
            · rwa [put_other _ _ e] at ha) hxk h0 (by rw [put_same]; omega)
          have hnk := HAT1.out.nk
          have hlb := HAT1.out.lb
          clear hFx hX hpl h1 h2 hrng h0
          go_enter Try.func41, Try.ntmps41
          go_wp2_with (at_mapUpdate; refine wpList_put _ rfl _ _ _ 59 rfl 9 3 strKeyLits skeyed Try.underlying59 (.int .i64 0) (n₀ + 2) n _ _ rfl HAT1.out.sm (by unfold maxLen; omega) _ _ code rfl rfl (skey_of code hc) ?_; intro w2 hown2' hg2'; obtain ⟨hat2', hfr2'⟩ := HAT1.out.put (k := 1) (β' := β + 1) (by omega) hg2' hown2' (by omega) (by omega); have HAT2 := Lib.hid hat2'; have HFR2 := Lib.hid hfr2'; clear hown2' hg2' hat2' hfr2'; have HX2 := Lib.hid (HFR2.out.box4 (by omega) (fun e => by have := (HAT.out.row.lt _ e).2; omega) HX.out); obtain ⟨d0, d1, d2, d3⟩ := HX2.out.cells; simp only at d0 d1 d2 d3)
          clear hlk1 hlk2 hcs hfc d0 d1 d2 d3 HX2
          go_loopw [34] (fun i wr => ∃ (j : Nat) (v' : Value) (seen' : List UInt8 → Nat) (l' : List Iv) (n' : Nat), j ≤ ps.length ∧ i = .int .i64 j ∧ Hid (At (.map mo) n₀ G K wr v' seen' l' n' (β + 1)) ∧ Hid (Midst (fdOf G) seen (l.map (·.it)) code ⟨code, life, ps⟩ j seen' (l'.map (·.it))) ∧
            Hid (Fr n₀ (W.alloc (.cells #[.string ⟨code.toArray⟩, .int .i64 life, .slice Ap ps.length cp, .slice Ao os.length co] 32)) wr v v')) (fun i _ => ps.length - (intOf i).toNat)
          case atStart => exact ⟨0, v, put seen code 1, l, n + 1, Nat.zero_le _, rfl, HAT2, HMS, HFR2⟩
          case round =>
            obtain ⟨j, v', seen', l', n', hj, rfl, HATR, HMR, HFR⟩ := hrel
            have hlowr : Hid (Go.RowKit.Below n₀ W wr) := Lib.hid ((HB1.out.mono (by omega)).trans HFR.out.low)
            by_cases hjt : j < ps.length
            · obtain ⟨p, hp⟩ : ∃ p, ps[j]? = some p := ⟨_, List.getElem?_eq_getElem hjt⟩
              have hpm := List.mem_of_getElem? hp
              obtain ⟨ap, rfl, hapb, y0, y1⟩ := (HPA.out.below hlowr.out).part hp
              have hpl1 := (HPS.out p hpm).1
              have hbA : Go.RowKit.Below wr.heap.size wr (wr.alloc (.cells #[.string ⟨p.1.toArray⟩, .int .i64 p.2] 34)) := below_alloc1 _ _
              have hatA := HATR.out.below hbA
              have hce := hatA.ce.cell
              obtain ⟨q0, q1⟩ := part_new wr p
              have hcall := IH.out p.1 seen' l' n' (β + 1) v' _ (by have := HMR.out.less HINV.out HZ.out hxk; omega) hpl1 HMR.out.inv (HMR.out.way HFX.out HWAY.out hpm) hatA
              have HC := Lib.hid hcall
              have HFA := Lib.hid (Fr.below (n₀ := n₀) hbA (by have := HATR.out.size; omega) v')
              have HP := Lib.hid hp
              clear hcall hatA hbA hp hpm
              go_wp2_with (go_at_fn 41; fail)
              refine HC.out.mono ?_
              rintro e w3 (⟨rfl, v3, seen3, l3, n3, hat3, hw3, hfr3⟩ | ⟨rfl, hrd, hlow⟩)
              · have HAT3 := Lib.hid hat3
                have HM3 := Lib.hid (HMR.out.next HFX.out HP.out hw3)
                have HF3 := Lib.hid ((HFR.out.trans HFA.out).trans hfr3)
                clear hat3 hw3 hfr3
                go_wp2
                go_roundw
                case rel => exact ⟨j + 1, v3, seen3, l3, n3, by omega, by go_num, HAT3, HM3, HF3⟩
                case measure => simp [intOf]; omega
              · have hdone : Hid (EnterTo (.map mo) n₀ G K W v seen l β code (.returned (.bool false)) w3) := Lib.hid (.inr ⟨rfl, hrd, (hlowr.out.trans HFA.out.low).trans hlow⟩)
                clear hrd hlow
                go_wp2
                go_ret
                exact hdone.out
            · obtain rfl : j = ps.length := by omega
              clear HPA
              have hinv := HMR.out.inv
              have hlk3 := HATR.out.sm.look skeyed Try.underlying59 (zInt_run _) (skey_of code hc)
              have hs1 : seen' code = 1 := (HMR.out.same code).2 (.inr rfl)
              have hsn : seen' code ≠ 0 := by omega
              have hfew := HST.out.few
              have HXR := Lib.hid (HFR.out.box4 (by omega) (fun e => by have := (HAT.out.row.lt _ e).2; omega) HX.out)
              have haway := HFR.out.away (fun e => by have := (HAT.out.row.lt _ e).2; omega) HX.out.lt
              have hcs := HATR.out.cs.cell
              have hnr := HATR.out.nk
              have hlr := HATR.out.lb
              have hleft2 : left K (put seen' code 2) ≤ left K seen' := left_le (fun a ha => by
                by_cases e : a = code
                · subst e; rw [put_same] at ha; omega
                · rwa [put_other _ _ e] at ha)
              have HW : Hid (Went (fdOf G) seen (l.map (·.it)) code (put seen' code 2) (l'.map (·.it) ++ [⟨code, life, ps⟩])) := Lib.hid (HMR.out.finish HFX.out rfl HZ.out (Nat.le_refl _))
              clear hinv hlk3
              obtain ⟨i0, hi, hz0, hz1, hz2⟩ := info_parts infoItem
              have H1 := Lib.hid hi
              have H2 := Lib.hid hz0
              have H3 := Lib.hid hz1
              have H4 := Lib.hid hz2
              clear hi hz0 hz1 hz2
              have HXO := Lib.hid HXS.out.one
              go_wp2_with (first
                | (at_mapUpdate; refine wpList_put_old _ rfl _ _ _ 59 rfl 9 3 strKeyLits skeyed Try.underlying59 (.int .i64 0) (n₀ + 2) n' _ _ rfl HATR.out.sm (by unfold maxLen; omega) _ _ code hsn rfl rfl (skey_of code hc) ?_; intro w4 hown4' hg4'; obtain ⟨hat4', hfr4'⟩ := HATR.out.put (c := code) (k := 2) (n' := n') (β' := β + 1) (by omega) hg4' (hown4'.congr (fun _ => rfl) (fun u => by by_cases e : u = code <;> simp [e, hs1])) (by omega) (by omega); have HAT4 := Lib.hid hat4'; have HFR4 := Lib.hid hfr4'; clear hown4' hg4' hat4' hfr4'; have HX4 := Lib.hid (HFR4.out.box4 (by omega) haway HXR.out); obtain ⟨d0, d1, d2, d3⟩ := HX4.out.cells; simp only at d0 d1 d2 d3; have hcl4 := HAT4.out.cl.cell; have hs4 := HAT4.out.size)
                | (at_builtin; refine wpList_append_own_at _ rfl _ _ 22 rfl (n₀ + 5) 32 i0 _ 4 72 Try.underlying22 H1.out H2.out H3.out H4.out rfl (by decide) v' l'.length _ rfl (HAT4.out.row.alloc _) ⟨w4.heap.size, 0, none⟩ 1 1 (encI ⟨⟨code, life, ps⟩, os, .slice Ap ps.length cp, .slice Ao os.length co⟩) rfl rfl (four_new w4 ⟨⟨code, life, ps⟩, os, .slice Ap ps.length cp, .slice Ao os.length co⟩ _) HXO.out (by unfold maxLen; omega) (by omega) (by simp only [World.size_alloc]; omega) ?_; intro v5 w5 hown5 hg5 _ hat5; obtain ⟨A5, c5, rfl, qa5, qb5, qc5⟩ := own_form hown5; obtain ⟨hbx5, hat6, hfr6⟩ := HAT4.out.app (x := ⟨⟨code, life, ps⟩, os, .slice Ap ps.length cp, .slice Ao os.length co⟩) HG.out hown5 hg5 (own_new hat5); have HAT6 := Lib.hid hat6; have HFR6 := Lib.hid hfr6; have hc5 := hbx5.cell; have hf5 := hbx5.frozen; clear hown5 hg5 hat5 hbx5 hat6 hfr6))
              go_ret
              exact .inl ⟨rfl, _, put seen' code 2, l' ++ [⟨⟨code, life, ps⟩, os, .slice Ap ps.length cp, .slice Ao os.length co⟩], n', HAT6.out, by simpa using HW.out, (((Fr.below (n₀ := n₀) HB1.out (by omega) v).trans HFR.out).trans HFR4.out).trans HFR6.out⟩
end Kt
end Go.Proofs.Ytkdcpnbfeagggaa
end
section
/- kit.inward: items within those of some codes, each once, behind its parts. -/
namespace Go.Proofs.Ytkdcpnbfeagggaa
namespace Kt
open Go.ChangeShapes Go.WideShapes Go.ChangeAt Go.RowKit Go.Maps Go.Shelf
set_option linter.unusedVariables false

/-- What inward answers. -/
def InwardTo (G : List UInt8 → Option Iv) (fr : List (List UInt8)) (w : World) (e : Ending) (w' : World) : Prop :=
  ((∃ (A : Option Addr) (c : Nat) (l : List Iv), e = .returned (.tuple #[.slice A l.length c, .bool true]) ∧ ISl w' w'.heap.size (.slice A l.length c) l ∧ Inward (fdOf G) fr (l.map (·.it)) ∧ (∀ x ∈ l, G x.it.code = some x) ∧ l.length ≤ 1048576) ∨
    (e = .returned (.tuple #[.slice none 0 0, .bool false]) ∧ Round (fdOf G))) ∧ Go.RowKit.Below w.heap.size w w'
theorem left_all (K : List (List UInt8)) : left K (fun _ => 0) ≤ K.length := List.length_filter_le _ _

theorem at_start (mo : Option Nat) (w : World) (G : List UInt8 → Option Iv) (K : List (List UInt8)) (hf : Fnd w w.heap.size (.map mo) G) (hg : GSub w w.heap.size G) :
    At (.map mo) w.heap.size G K (((((w.alloc (.cells #[.map mo] 44)).alloc (.cells #[.slice none 0 0] 22)).alloc (.map #[] 0)).alloc (.cells #[.map (some (w.heap.size + 2))] 59)).alloc (.cells #[entV w.heap.size] 47)) (.slice none 0 0) (fun _ => 0) [] 0 0 ∧ Go.RowKit.Below w.heap.size w (((((w.alloc (.cells #[.map mo] 44)).alloc (.cells #[.slice none 0 0] 22)).alloc (.map #[] 0)).alloc (.cells #[.map (some (w.heap.size + 2))] 59)).alloc (.cells #[entV w.heap.size] 47)) := by
  have hb : Go.RowKit.Below w.heap.size w (((((w.alloc (.cells #[.map mo] 44)).alloc (.cells #[.slice none 0 0] 22)).alloc (.map #[] 0)).alloc (.cells #[.map (some (w.heap.size + 2))] 59)).alloc (.cells #[entV w.heap.size] 47)) := ((((below_alloc1 w _).alloc (by simp only [World.size_alloc]; omega) _).alloc (by simp only [World.size_alloc]; omega) _).alloc (by simp only [World.size_alloc]; omega) _).alloc (by simp only [World.size_alloc]; omega) _
  refine ⟨⟨((((Boxed.new w _ _).alloc _).alloc _).alloc _).alloc _, ?_, ?_, ?_, ?_, ⟨rfl, .inl ⟨rfl, rfl⟩⟩, hf.below hb, hg.below hb, by simp, by have := left_all K; omega, by simp⟩, hb⟩
  · have := Boxed.new (w.alloc (.cells #[.map mo] 44)) 22 (.slice none 0 0)
    simp only [World.size_alloc] at this
    exact ((this.alloc _).alloc _).alloc _
  · have := (mapOf_made (fun s : List UInt8 => Lit.string s) Try.prog 9 (.int .i64 0) ((w.alloc (.cells #[.map mo] 44)).alloc (.cells #[.slice none 0 0] 22))).congr (f' := fun c => .int .i64 ((0 : Nat) : Int)) (S' := fun c => ((0 : Nat) ≠ 0)) (fun _ => rfl) (fun _ => by simp)
    simp only [World.size_alloc] at this
    exact (this.alloc _).alloc _
  · have := Boxed.new (((w.alloc (.cells #[.map mo] 44)).alloc (.cells #[.slice none 0 0] 22)).alloc (.map #[] 0)) 59 (.map (some (w.heap.size + 2)))
    simp only [World.size_alloc] at this
    exact this.alloc _
  · have := Boxed.new ((((w.alloc (.cells #[.map mo] 44)).alloc (.cells #[.slice none 0 0] 22)).alloc (.map #[] 0)).alloc (.cells #[.map (some (w.heap.size + 2))] 59)) 47 (entV w.heap.size)
    simp only [World.size_alloc] at this
    exact this
set_option maxRecDepth 100000 in
set_option maxHeartbeats 8000000 in
theorem inward_any (mv fv : Value) (G : List UInt8 → Option Iv) (K : List (List UInt8)) (fr : List (List UInt8)) (w : World) (hS : Stat G K) (hf : Fnd w w.heap.size mv G) (hg : GSub w w.heap.size G) (hv : TSl w w.heap.size fv fr) (hfl : fr.length ≤ 1048576) (hfs : ∀ s ∈ fr, s.length ≤ maxLen) :
    Calls Try.prog 26 #[mv, fv] w (InwardTo G fr w) := by
  obtain ⟨A, c, rfl, hc1, hc2, hcz, hl⟩ := id hv
  have hmf : ∃ mo, mv = .map mo := by rcases hf with ⟨rfl, _⟩ | ⟨b, _, rfl, _⟩ <;> exact ⟨_, rfl⟩
  obtain ⟨mo, rfl⟩ := hmf
  have hmm := @run_makeMap Try.prog
  have HF := Lib.hid hf
  have HG := Lib.hid hg
  have HL := Lib.hid hl
  have HST : Hid (Stat G K) := Lib.hid hS
  have HFS := Lib.hid hfs
  clear hl hv hf hg hS hfs
  go_enter Try.func26, Try.ntmps26
  go_wp2
  rw [show w.heap.size + 1 + 1 + 1 + 1 = w.heap.size + 4 from rfl, show w.heap.size + 1 + 1 + 1 = w.heap.size + 3 from rfl, show w.heap.size + 1 + 1 = w.heap.size + 2 from rfl]
  obtain ⟨W0, hW0⟩ : ∃ W0, W0 = (((((w.alloc (.cells #[.map mo] 44)).alloc (.cells #[.slice none 0 0] 22)).alloc (.map #[] 0)).alloc (.cells #[.map (some (w.heap.size + 2))] 59)).alloc (.cells #[entV w.heap.size] 47)) := ⟨_, rfl⟩
  obtain ⟨hat0, hlow0⟩ := at_start mo w G K HF.out HG.out
  rw [← hW0] at hat0 hlow0 ⊢
  have HAT0 := Lib.hid hat0
  have HLOW0 := Lib.hid hlow0
  clear hat0 hlow0 hW0 hmm
  go_loopw [15] (fun i wr => ∃ (j : Nat) (v' : Value) (seen' : List UInt8 → Nat) (l' : List Iv) (n' : Nat), j ≤ fr.length ∧ i = .int .i64 j ∧ Hid (At (.map mo) w.heap.size G K wr v' seen' l' n' 0) ∧ Hid (Going (fdOf G) fr j seen' (l'.map (·.it))) ∧ Hid (Go.RowKit.Below w.heap.size w wr)) (fun i _ => fr.length - (intOf i).toNat)
  case atStart => exact ⟨0, _, fun _ => 0, [], 0, Nat.zero_le _, rfl, HAT0, Lib.hid (Going.start _ _), HLOW0⟩
  case round =>
    obtain ⟨j, v', seen', l', n', hj, rfl, HAT, HGO, HB⟩ := hrel
    by_cases hjt : j < fr.length
    · obtain ⟨s, hs⟩ : ∃ s, fr[j]? = some s := ⟨_, List.getElem?_eq_getElem hjt⟩
      obtain ⟨ad, rfl, hab, x0⟩ := (HL.out.below HB.out).text hs
      have hsl := HFS.out s (List.mem_of_getElem? hs)
      have hce := HAT.out.ce.cell
      have hcall := enter_any (.map mo) w.heap.size G K HST.out (left K seen' + 1) s seen' l' n' 0 v' wr (by omega) hsl HGO.out.inv (HGO.out.way s) HAT.out
      have HC := Lib.hid hcall
      have HS := Lib.hid hs
      clear hcall hs
      go_wp2_with (go_at_fn 41; fail)
      refine HC.out.mono ?_
      rintro e w3 (⟨rfl, v3, seen3, l3, n3, hat3, hw3, hfr3⟩ | ⟨rfl, hrd, hlow⟩)
      · have HAT3 := Lib.hid hat3
        have HG3 := Lib.hid (HGO.out.next HS.out hw3)
        have HB3 := Lib.hid (HB.out.trans hfr3.low)
        clear hat3 hw3 hfr3
        go_wp2
        go_roundw
        case rel => exact ⟨j + 1, v3, seen3, l3, n3, by omega, by go_num, HAT3, HG3, HB3⟩
        case measure => simp [intOf]; omega
      · have hdone : Hid (InwardTo G fr w (.returned (.tuple #[.slice none 0 0, .bool false])) w3) := Lib.hid ⟨.inr ⟨rfl, hrd⟩, HB.out.trans hlow⟩
        clear hrd hlow
        go_wp2
        go_ret2
        exact hdone.out
    · obtain rfl : j = fr.length := by omega
      obtain ⟨A', c', hv', q1, q2, q3⟩ := own_form HAT.out.row
      subst hv'
      have hlen : l'.length ≤ 1048576 := by have := HAT.out.lb; have := HAT.out.nk; have := HST.out.few; omega
      have hcl := HAT.out.cl.cell
      have hsub : ∀ x ∈ l', ISub wr wr.heap.size x := fun x hx => (HAT.out.gs _ _ (HAT.out.lg x hx)).mono HB.out.size
      have hdone : Hid (InwardTo G fr w (.returned (.tuple #[.slice A' l'.length c', .bool true])) wr) := Lib.hid ⟨.inl ⟨A', c', l', rfl, ISl.own HAT.out.row hsub, HGO.out.done (Nat.le_refl _), HAT.out.lg, hlen⟩, HB.out⟩
      go_wp2
      go_ret2
      exact hdone.out
end Kt
end Go.Proofs.Ytkdcpnbfeagggaa
end
section
/- kit.depths: how deep each item of a list is, where each stands behind its parts. -/
namespace Go.Proofs.Ytkdcpnbfeagggaa
namespace Kt
open Go.ChangeShapes Go.WideShapes Go.ChangeAt Go.RowKit Go.Maps Go.Shelf
set_option linter.unusedVariables false

def depL (l : List It) : List UInt8 → Nat := l.foldl (fun f x => put f x.code (mx f x.parts + 1)) (fun _ => 0)
theorem depL_snoc (l : List It) (x : It) : depL (l ++ [x]) = put (depL l) x.code (mx (depL l) x.parts + 1) := by simp [depL, List.foldl_append]
theorem depL_succ {l : List It} {k : Nat} {x : It} (h : l[k]? = some x) : depL (l.take (k + 1)) = put (depL (l.take k)) x.code (mx (depL (l.take k)) x.parts + 1) := by
  rw [← depL_snoc, List.take_add_one, h]; rfl
theorem depL_out {l : List It} {c : List UInt8} (h : c ∉ l.map (·.code)) : depL l c = 0 := by
  induction l using snocRec with
  | nil => rfl
  | snoc l x ih =>
    rw [List.map_append, List.mem_append] at h
    rw [depL_snoc, put_other _ _ (fun e => h (.inr (by simp [e]))), ih (fun e => h (.inl e))]
theorem mx_congr {e e' : List UInt8 → Nat} {ps : List Pt} (h : ∀ p ∈ ps, e p.1 = e' p.1) : mx e ps = mx e' ps := by
  unfold mx
  have : ∀ (ps : List Pt) (a : Nat), (∀ p ∈ ps, e p.1 = e' p.1) → ps.foldl (fun m p => max m (e p.1)) a = ps.foldl (fun m p => max m (e' p.1)) a := by
    intro ps
    induction ps with
    | nil => intro a _; rfl
    | cons p r ih => intro a h; simp only [List.foldl_cons]; rw [h p (by simp)]; exact ih _ (fun q hq => h q (by simp [hq]))
  exact this ps 0 h
theorem Topo.depL {F : Fd} {l : List It} (h : Topo F l) (hc : ∀ c x, F c = some x → ∀ p ∈ x.parts, (F p.1).isSome) : ∀ c ∈ l.map (·.code), Dp F c (depL l c) := by
  induction h with
  | nil => intro c hc; simp at hc
  | @snoc l x ht h1 h2 h3 ih =>
    intro c hcm
    rw [depL_snoc]
    rw [List.map_append, List.mem_append] at hcm
    by_cases e : c = x.code
    · subst e
      rw [put_same]
      exact Dp.mk h1 _ (fun p hp => ih p.1 (h3 p hp (hc _ _ h1 p hp)))
    · rw [put_other _ _ e]
      rcases hcm with hcm | hcm
      · exact ih c hcm
      · simp at hcm; exact absurd hcm e

theorem mx_le {e : List UInt8 → Nat} {n : Nat} (h : ∀ c, e c ≤ n) (ps : List Pt) : mx e ps ≤ n := by
  unfold mx
  have : ∀ (ps : List Pt) (a : Nat), a ≤ n → ps.foldl (fun m p => max m (e p.1)) a ≤ n := by
    intro ps
    induction ps with
    | nil => intro a h; exact h
    | cons p r ih => intro a ha; simp only [List.foldl_cons]; exact ih _ (by have := h p.1; omega)
  exact this ps 0 (by omega)
theorem depL_le (l : List It) : ∀ c, depL l c ≤ l.length := by
  induction l using snocRec with
  | nil => intro c; simp [depL]
  | snoc l x ih =>
    intro c
    rw [depL_snoc, List.length_append, List.length_singleton]
    unfold put
    split
    · have := mx_le ih x.parts; omega
    · have := ih c; omega
theorem mx_succ (e : List UInt8 → Nat) {ps : List Pt} {j : Nat} {p : Pt} (h : ps[j]? = some p) : mx e (ps.take (j + 1)) = max (mx e (ps.take j)) (e p.1) := by
  rw [List.take_add_one, h]; exact mx_snoc e _ p

theorem int_max (a b : Nat) : Value.int .i64 (max (a : Int) (b : Int)) = .int .i64 ((max a b : Nat) : Int) := by congr 1; omega
/-- What depths answers. -/
def DepthsTo (l : List It) (w : World) (e : Ending) (w' : World) : Prop := ∃ b n S, e = .returned (.map (some b)) ∧ SMap (.int .i64 0) w' b n (fun c => .int .i64 (depL l c : Nat)) S ∧ w.heap.size ≤ b ∧ Go.RowKit.Below w.heap.size w w'
theorem depths_step {l : List It} {k : Nat} {x : It} {w : World} {b n : Nat} {S : List UInt8 → Prop} (hx : l[k]? = some x) (h : SMap (.int .i64 0) w b n (updK (fun c => .int .i64 (depL (l.take k) c : Nat)) x.code (.int .i64 ((mx (depL (l.take k)) x.parts + 1 : Nat) : Int))) S) :
    SMap (.int .i64 0) w b n (fun c => .int .i64 (depL (l.take (k + 1)) c : Nat)) S := by
  refine h.congr (fun c => ?_) (fun _ => Iff.rfl)
  rw [depL_succ hx]
  unfold updK put
  split <;> rfl
set_option maxRecDepth 100000 in
set_option maxHeartbeats 4000000 in
theorem depths_any (v : Value) (l : List Iv) (w : World) (hv : ISl w w.heap.size v l) (hs : SizedI l) (hlen : l.length ≤ 1048576) : Calls Try.prog 29 #[v] w (DepthsTo (l.map (·.it)) w) := by
  obtain ⟨⟨A, c, rfl, hc1, hc2, hcz, hl⟩, hsub⟩ := id hv
  have hmm := @run_makeMap Try.prog
  have HL := Lib.hid hl
  have HU := Lib.hid hsub
  have HS : Hid (SizedI l) := Lib.hid hs
  clear hl hsub hv hs
  go_enter Try.func29, Try.ntmps29
  go_wp2
  clear hmm
  go_loopw [12] (fun i wr => ∃ (k : Nat) (S : List UInt8 → Prop), k ≤ l.length ∧ i = .int .i64 k ∧ Hid (SMap (.int .i64 0) wr w.heap.size k (fun c => .int .i64 (depL ((l.map (·.it)).take k) c : Nat)) S) ∧ Hid (Go.RowKit.Below w.heap.size w wr) ∧ w.heap.size < wr.heap.size) (fun i _ => l.length - (intOf i).toNat)
  case atStart => exact ⟨0, _, Nat.zero_le _, rfl, Lib.hid ((mapOf_made (fun s : List UInt8 => Lit.string s) Try.prog 9 (.int .i64 0) w).congr (fun c => rfl) (fun c => Iff.rfl)), Lib.hid (below_alloc1 _ _), by simp⟩
  case round =>
    obtain ⟨k, S, hk, rfl, HM, HB, hz⟩ := hrel
    by_cases hlt : k < l.length
    · obtain ⟨x, hx⟩ : ∃ x, l[k]? = some x := ⟨_, List.getElem?_eq_getElem hlt⟩
      have hxm := List.mem_of_getElem? hx
      have HXI : Hid ((l.map (·.it))[k]? = some x.it) := Lib.hid (by simp [hx])
      have HPS := Lib.hid (HS.out _ hxm).2.2.1
      have hpsl := (HS.out _ hxm).2.2.2.2.1
      have hcs := (HS.out _ hxm).1
      have HPL := Lib.hid (HU.out _ hxm).parts
      obtain ⟨⟨code, life, ps⟩, os, pv, ov⟩ := x
      obtain ⟨Ap, cp, Ao, co, rfl, rfl, hcp, hcq⟩ := (HU.out _ hxm).form
      obtain ⟨ad, rfl, hab, x0, x1, x2, x3⟩ := (HL.out.below HB.out).rowI hx
      have HX := Lib.hid (Box4.new wr ⟨⟨code, life, ps⟩, os, .slice Ap ps.length cp, .slice Ao os.length co⟩)
      have hb1 : Go.RowKit.Below wr.heap.size wr (wr.alloc (.cells #[.string ⟨code.toArray⟩, .int .i64 life, .slice Ap ps.length cp, .slice Ao os.length co] 32)) := below_alloc1 _ _
      obtain ⟨e0, e1, e2, e3⟩ := HX.out.cells
      simp only at e0 e1 e2 e3 hpsl hcs
      have hpl0 := HPL.out
      obtain ⟨Ap', cp', hpe, hp1, hp2, hpz, hpl⟩ := hpl0
      cases hpe
      have HPA := Lib.hid hpl
      have HB1 := Lib.hid hb1
      clear hx hpl hxm hb1
      have hdl : ∀ c, depL ((l.map (·.it)).take k) c ≤ 1048576 := fun c => by have := depL_le ((l.map (·.it)).take k) c; rw [List.length_take] at this; omega
      have hml : ∀ qs, mx (depL ((l.map (·.it)).take k)) qs ≤ 1048576 := fun qs => mx_le hdl qs
      have HDS := Lib.hid (fun (W : World) (n : Nat) (S : List UInt8 → Prop) (h : SMap (.int .i64 0) W w.heap.size n (updK (fun c => .int .i64 (depL ((l.map (·.it)).take k) c : Nat)) code (.int .i64 ((mx (depL ((l.map (·.it)).take k)) ps + 1 : Nat) : Int))) S) => depths_step (x := ⟨code, life, ps⟩) HXI.out h)
      generalize depL ((l.map (·.it)).take k) = dp at HM hdl hml HDS
      have HDL := Lib.hid hdl
      have HML := Lib.hid hml
      clear hdl hml
      go_wp2
      obtain ⟨wo, rfl⟩ : ∃ wo : World, wo = wr := ⟨_, rfl⟩
      go_loopw [6, 19] (fun d i wr => ∃ j : Nat, j ≤ ps.length ∧ i = .int .i64 j ∧ d = .int .i64 (mx dp (ps.take j) : Nat) ∧ Hid (Go.RowKit.Below (wo.heap.size + 1) (wo.alloc (.cells #[.string ⟨code.toArray⟩, .int .i64 life, .slice Ap ps.length cp, .slice Ao os.length co] 32)) wr)) (fun _ i _ => ps.length - (intOf i).toNat)
      case atStart => exact ⟨0, Nat.zero_le _, rfl, rfl, Lib.hid (Below.refl _ _)⟩
      case round =>
        clear e0 e1 e2 e3 x0 x1 x2 x3
        obtain ⟨j, hj, rfl, rfl, HBJ⟩ := hrel
        have HBW : Hid (Go.RowKit.Below wo.heap.size wo wr) := Lib.hid (HB1.out.trans (HBJ.out.mono (by omega)))
        by_cases hjt : j < ps.length
        · obtain ⟨p, hp⟩ : ∃ p, ps[j]? = some p := ⟨_, List.getElem?_eq_getElem hjt⟩
          obtain ⟨ap, rfl, hapb, y0, y1⟩ := (HPA.out.below (HB.out.trans (HBW.out.mono (by omega)))).part hp
          have hpl1 := (HPS.out p (List.mem_of_getElem? hp)).1
          have hbA : Go.RowKit.Below wr.heap.size wr (wr.alloc (.cells #[.string ⟨p.1.toArray⟩, .int .i64 p.2] 34)) := below_alloc1 _ _
          have hlk := ((HM.out.at_block (HBW.out.block _ hz)).alloc (.cells #[.string ⟨p.1.toArray⟩, .int .i64 p.2] 34)).look skeyed Try.underlying59 (zInt_run _) (skey_of p.1 hpl1)
          obtain ⟨q0, q1⟩ := part_new wr p
          have HMS := Lib.hid (mx_succ dp hp)
          have h1 := HML.out (ps.take j)
          have h2 := HDL.out p.1
          have hbw := HBJ.out.size
          simp only [World.size_alloc] at hbw
          have HBN : Hid (Go.RowKit.Below (wo.heap.size + 1) (wo.alloc (.cells #[.string ⟨code.toArray⟩, .int .i64 life, .slice (some ap) ps.length cp, .slice Ao os.length co] 32)) (wr.alloc (.cells #[.string ⟨p.1.toArray⟩, .int .i64 p.2] 34))) := Lib.hid (HBJ.out.alloc (by omega) _)
          clear hp hbA
          generalize mx dp (ps.take j) = a at HMS h1
          generalize dp p.1 = b at HMS h2 hlk
          by_cases hab2 : a < b
          · go_wp2
            go_roundw
            case rel => exact ⟨j + 1, by omega, by go_num, by rw [HMS.out, ← int_max], HBN⟩
            case measure => simp [intOf]; omega
          · go_wp2
            go_roundw
            case rel => exact ⟨j + 1, by omega, by go_num, by rw [HMS.out, ← int_max], HBN⟩
            case measure => simp [intOf]; omega
        · obtain rfl : j = ps.length := by omega
          rw [List.take_of_length_le (Nat.le_refl _)]
          have h1 := HML.out ps
          have HXR := Lib.hid (HX.out.below HBJ.out (by omega))
          obtain ⟨d0, d1, d2, d3⟩ := HXR.out.cells
          simp only at d0 d1 d2 d3
          have HMR := Lib.hid (HM.out.at_block (HBW.out.block _ hz))
          obtain ⟨a, ha⟩ : ∃ a, mx dp ps = a := ⟨_, rfl⟩
          rw [ha] at h1 ⊢
          have HA := Lib.hid ha
          clear ha
          go_wp2_with (at_mapUpdate; refine wpList_put _ rfl _ _ _ 59 rfl 9 3 strKeyLits skeyed Try.underlying59 (.int .i64 0) w.heap.size k _ _ rfl HMR.out (by unfold maxLen; omega) _ _ code rfl rfl (skey_of code hcs) ?_; intro w2 hown2' hg2'; have hown2 := Lib.hid hown2'; have hg2 := Lib.hid hg2'; clear hown2' hg2')
          have hst := Lib.hid (HDS.out w2 (k + 1) _ (by rw [HA.out]; exact hown2.out))
          have hz2 := hg2.out.size
          have hz3 := HBW.out.size
          have hb2 : Hid (Go.RowKit.Below w.heap.size w w2) := Lib.hid ((HB.out.trans (HBW.out.mono (by omega))).grown hg2.out (by omega) (fun j hj => by cases hj; exact Nat.le_refl _))
          go_roundw
          case rel => exact ⟨k + 1, _, by omega, by go_num, hst, hb2, by omega⟩
          case measure => simp [intOf]; omega
    · obtain rfl : k = l.length := by omega
      go_wp2
      go_ret
      exact ⟨w.heap.size, l.length, S, rfl, by have := HM.out; rwa [List.take_of_length_le (by simp)] at this, Nat.le_refl _, HB.out⟩
end Kt
end Go.Proofs.Ytkdcpnbfeagggaa
end
section
/- kit.tooDeep, kit.sound, kit.Check: whether items are sound. -/
namespace Go.Proofs.Ytkdcpnbfeagggaa
namespace Kt
open Go.ChangeShapes Go.WideShapes Go.ChangeAt Go.RowKit Go.Maps Go.Shelf
set_option linter.unusedVariables false

theorem enters_deep : ∀ args w, (callFunc 54 args).run Try.prog w = .ok (.enter 54 args) w := enters_of Try.func54 (by kernel_rfl) rfl
/-- A code that a program can hold, at any value. -/
theorem deep_gives (dp : List UInt8 → Nat) (hdp : ∀ c, dp c ≤ 1048576) (bm bb n n₀ : Nat) (S : List UInt8 → Prop) (w : World) (hb : bb < n₀) (hm : bm < n₀) (hn : n₀ ≤ w.heap.size) (hc : Boxed w bb 59 (.map (some bm))) (hs : SMap (.int .i64 0) w bm n (fun c => .int .i64 (dp c : Nat)) S) :
    ∀ (x : Iv) (W : World), x.it.code.length ≤ maxLen → Go.RowKit.Below n₀ w W → (∃ Ap lp cp Ao lo co, x.pv = .slice Ap lp cp ∧ x.ov = .slice Ao lo co) →
    Calls Try.prog 54 #[.agg #[.string ⟨x.it.code.toArray⟩, .int .i64 x.it.life, x.pv, x.ov], .pointer (some ⟨bb, 0, none⟩)] W fun e w' => e = .returned (.bool (decide (8 < dp x.it.code))) ∧ Go.RowKit.Below W.heap.size W w' := by
  intro x W hx hW hform
  obtain ⟨⟨code, life, ps⟩, os, pv, ov⟩ := x
  simp only at hx hform
  obtain ⟨Ap, lp, cp, Ao, lo, co, rfl, rfl⟩ := hform
  have hb0 : Go.RowKit.Below W.heap.size W (W.alloc (.cells #[.string ⟨code.toArray⟩, .int .i64 life, .slice Ap lp cp, .slice Ao lo co] 32)) := below_alloc1 _ _
  have hcW := ((boxed_below hc hW hb).alloc (.cells #[.string ⟨code.toArray⟩, .int .i64 life, .slice Ap lp cp, .slice Ao lo co] 32)).cell
  have hlk := ((hs.at_block (hW.block bm hm)).alloc (.cells #[.string ⟨code.toArray⟩, .int .i64 life, .slice Ap lp cp, .slice Ao lo co] 32)).look skeyed Try.underlying59 (zInt_run _) (skey_of code hx)
  have hd := hdp code
  clear hW hc hs
  show Calls Try.prog 54 #[.agg #[.string ⟨code.toArray⟩, .int .i64 life, .slice Ap lp cp, .slice Ao lo co], .pointer (some ⟨bb, 0, none⟩)] W fun e w' => e = .returned (.bool (decide (8 < dp code))) ∧ _
  generalize dp code = d at hlk hd ⊢
  by_cases h8 : 8 < d
  · have hd8 : decide ((8 : Int) < (d : Int)) = true := decide_eq_true (by omega)
    go_enter Try.func54, Try.ntmps54
    go_wp2
    go_ret
    exact ⟨Cd.ret_bool (by rw [decide_eq_true h8]), hb0⟩
  · have hd8 : decide ((8 : Int) < (d : Int)) = false := decide_eq_false (by omega)
    go_enter Try.func54, Try.ntmps54
    go_wp2
    go_ret
    exact ⟨Cd.ret_bool (by rw [decide_eq_false h8]), hb0⟩
def tooDeepB (l : List It) : Bool := l.any (fun x => decide (8 < depL l x.code))
set_option maxHeartbeats 1000000 in
theorem tooDeep_any (v : Value) (l : List Iv) (w : World) (hv : ISl w w.heap.size v l) (hs : SizedI l) (hlen : l.length ≤ 1048576) : Calls Try.prog 38 #[v] w fun e w' => e = .returned (.bool (tooDeepB (l.map (·.it)))) ∧ Go.RowKit.Below w.heap.size w w' := by
  have hds := depths_any v l w hv hs hlen
  have hanyE : l.any (fun x => decide (8 < depL (l.map (·.it)) x.it.code)) = tooDeepB (l.map (·.it)) := by simp [tooDeepB, List.any_map, Function.comp_def]
  have hdp : ∀ c, depL (l.map (·.it)) c ≤ 1048576 := fun c => by have := depL_le (l.map (·.it)) c; rw [List.length_map] at this; omega
  obtain ⟨⟨A, c, rfl, hc1, hc2, hcz, hl⟩, hsub⟩ := id hv
  have HD := Lib.hid hds
  have HV := Lib.hid hv
  have HS : Hid (SizedI l) := Lib.hid hs
  have HDP := Lib.hid hdp
  have HE := Lib.hid hanyE
  clear hl hsub hv hs hds hdp hanyE
  go_enter Try.func38, Try.ntmps38
  go_wp2_with (first
    | (go_at_call 29; ((with_reducible refine HD.out.mono ?_); rintro e w1 ⟨b, n, S, rfl, hm, hb, hb1⟩; have HM := Lib.hid hm; have HB1 := Lib.hid hb1; have hbl := hm.lt; clear hm hb1))
    | (go_at_call 53; fail))
  have HBX : Hid (Go.RowKit.Below w.heap.size w (w1.alloc (.cells #[.map (some b)] 59))) := Lib.hid (HB1.out.alloc HB1.out.size _)
  have hz := HBX.out.size
  refine (containsI_any 54 _ enters_deep (fun x => decide (8 < depL (l.map (·.it)) x.it.code)) _ l w.heap.size _ hz (by omega) (HV.out.below HBX.out) (fun x W hx hW => ?_)).mono ?_
  · have hxs := (HV.out.2 x hx)
    obtain ⟨⟨code, life, ps⟩, os, pv, ov⟩ := x
    obtain ⟨Ap, cp, Ao, co, rfl, rfl, _, _⟩ := hxs.form
    exact deep_gives (depL (l.map (·.it))) HDP.out b w1.heap.size n _ S (w1.alloc (.cells #[.map (some b)] 59)) (by simp) (by simp; omega) (Nat.le_refl _) (Boxed.new _ _ _) (HM.out.alloc _) _ W (HS.out _ hx).1 hW ⟨_, _, _, _, _, _, rfl, rfl⟩
  · rintro e w3 ⟨rfl, hb3⟩
    rw [HE.out]
    have HB3 := Lib.hid (HBX.out.trans (hb3.mono hz))
    clear hb3
    go_wp2
    go_ret
    exact ⟨rfl, HB3.out⟩

/-! ### what Check tells -/
def lastI (l : List It) (c : List UInt8) : Option It := l.foldl (fun o x => if c = x.code then some x else o) none
theorem lastI_snoc (l : List It) (x : It) (c : List UInt8) : lastI (l ++ [x]) c = if c = x.code then some x else lastI l c := by simp [lastI, List.foldl_append]
theorem lastI_map (l : List Iv) : fdOf (lastC l) = lastI (l.map (·.it)) := by
  funext c
  unfold fdOf
  induction l using snocRec with
  | nil => rfl
  | snoc l x ih =>
    rw [List.map_append, List.map_cons, List.map_nil, lastI_snoc, lastC_snoc]
    by_cases h : c = x.it.code
    · simp [h]
    · rw [if_neg h, if_neg h]; exact ih
theorem lastI_some : ∀ (l : List It) {c : List UInt8} {x : It}, lastI l c = some x → x ∈ l ∧ x.code = c := by
  intro l
  induction l using snocRec with
  | nil => intro c x h; simp [lastI] at h
  | snoc l y ih =>
    intro c x h
    rw [lastI_snoc] at h
    split at h
    · rename_i e
      cases h
      exact ⟨by simp, e.symm⟩
    · obtain ⟨h1, h2⟩ := ih h
      exact ⟨by simp [h1], h2⟩
theorem lastI_isSome : ∀ (l : List It) (c : List UInt8), (lastI l c).isSome = true ↔ c ∈ l.map (·.code) := by
  intro l
  induction l using snocRec with
  | nil => intro c; simp [lastI]
  | snoc l y ih =>
    intro c
    rw [lastI_snoc]
    by_cases e : c = y.code
    · rw [if_pos e]; simp [e]
    · rw [if_neg e, ih]; simp [e]
def closedI (l : List It) : Bool := l.all (fun x => x.parts.all (fun p => (lastI l p.1).isSome))
def depI (l : List It) (c : List UInt8) : Option Nat := dep (lastI l) l.length c
def checkM (l : List It) : Int :=
  if 60 < l.length then 3 else if shapedB l = false then 4 else if closedI l = false then 150 else if l.all (fun x => (depI l x.code).isSome) = false then 152 else if l.any (fun x => decide (8 < (depI l x.code).getD 0)) = true then 3 else 0
theorem closedB_I (l : List Iv) : closedB (lastC l) (l.map (·.it)) = closedI (l.map (·.it)) := by
  unfold closedB closedI partsIn
  have h : ∀ c, (lastC l c).isSome = (lastI (l.map (·.it)) c).isSome := fun c => by rw [← lastI_map]; simp [fdOf]
  simp only [h]
theorem closedI_get {l : List It} (h : closedI l = true) : ∀ c x, lastI l c = some x → ∀ p ∈ x.parts, (lastI l p.1).isSome := by
  intro c x hx p hp
  unfold closedI at h
  rw [List.all_eq_true] at h
  have h1 := h x (lastI_some l hx).1
  rw [List.all_eq_true] at h1
  exact h1 p hp
theorem Dp.depI {l : List It} {c : List UInt8} {d : Nat} (h : Dp (lastI l) c d) : depI l c = some d := by
  have := h.le (K := l.map (·.code)) (fun c x hx => (lastI_isSome l c).1 (by rw [hx]; rfl))
  rw [List.length_map] at this
  exact dep_more h this
theorem depI_dp {l : List It} {c : List UInt8} {d : Nat} (h : depI l c = some d) : Dp (lastI l) c d := Dp.of h
/-- Gone through without a round. -/
theorem inward_deep {l m : List It} (hc : closedI l = true) (h : Inward (lastI l) (l.map (·.code)) m) : l.all (fun x => (depI l x.code).isSome) = true ∧ l.any (fun x => decide (8 < (depI l x.code).getD 0)) = tooDeepB m := by
  have hd := h.topo.depL (closedI_get hc)
  have hm : ∀ x ∈ l, x.code ∈ m.map (·.code) := fun x hx => h.all x.code (List.mem_map_of_mem hx) ((lastI_isSome l x.code).2 (List.mem_map_of_mem hx))
  refine ⟨?_, ?_⟩
  · rw [List.all_eq_true]
    intro x hx
    rw [(hd x.code (hm x hx)).depI]; rfl
  · have hiff : l.any (fun x => decide (8 < (depI l x.code).getD 0)) = true ↔ tooDeepB m = true := by
      unfold tooDeepB
      rw [List.any_eq_true, List.any_eq_true]
      constructor
      · rintro ⟨x, hx, h8⟩
        have h1 := hm x hx
        rw [(hd _ h1).depI] at h8
        obtain ⟨y, hy, hyc⟩ := List.mem_map.1 h1
        exact ⟨y, hy, by rw [hyc]; simpa using h8⟩
      · rintro ⟨y, hy, h8⟩
        have h1 := h.topo.found y hy
        obtain ⟨h2, h3⟩ := lastI_some l h1
        refine ⟨y, h2, ?_⟩
        rw [(hd y.code (List.mem_map_of_mem hy)).depI]
        simpa using h8
    cases h1 : l.any (fun x => decide (8 < (depI l x.code).getD 0)) <;> cases h2 : tooDeepB m <;> simp_all
theorem round_all {l : List It} (h : Round (lastI l)) : l.all (fun x => (depI l x.code).isSome) = false := by
  obtain ⟨g, x, hx, hn⟩ := h.no
  rw [List.all_eq_false]
  obtain ⟨h1, h2⟩ := lastI_some l hx
  refine ⟨x, h1, ?_⟩
  rw [h2]
  cases hd : depI l g with
  | none => simp
  | some d => exact absurd (depI_dp hd) (hn d)
theorem stat_last {l : List Iv} (hs : SizedI l) (hlen : l.length ≤ 1048576) : Stat (lastC l) (l.map (·.it.code)) :=
  ⟨fun c x h => (lastC_some l h).2, fun c x h => hs x (lastC_some l h).1, fun c x h => by obtain ⟨h1, h2⟩ := lastC_some l h; exact List.mem_map.2 ⟨x, h1, h2⟩, by rw [List.length_map]; exact hlen⟩
end Kt
end Go.Proofs.Ytkdcpnbfeagggaa
end
section
/- kit.sound, kit.Check; the walks. -/
namespace Go.Proofs.Ytkdcpnbfeagggaa
namespace Kt
open Go.ChangeShapes Go.WideShapes Go.ChangeAt Go.RowKit Go.Maps Go.Shelf
set_option linter.unusedVariables false

/-- What sound answers. -/
def SoundTo (l : List Iv) (w : World) (e : Ending) (w' : World) : Prop :=
  ((checkM (l.map (·.it)) ≠ 0 ∧ e = .returned (.tuple #[.map none, .int .i64 (checkM (l.map (·.it)))])) ∨
    (checkM (l.map (·.it)) = 0 ∧ ∃ b, e = .returned (.tuple #[.map (some b), .int .i64 0]) ∧ Fnd w' w'.heap.size (.map (some b)) (lastC l))) ∧ Go.RowKit.Below w.heap.size w w'
theorem SoundTo.bad {l : List Iv} {w w' : World} {n : Int} (h : checkM (l.map (·.it)) = n) (hn : n ≠ 0) (hb : Go.RowKit.Below w.heap.size w w') : SoundTo l w (.returned (.tuple #[.map none, .int .i64 n])) w' :=
  ⟨.inl ⟨by rw [h]; exact hn, by rw [h]⟩, hb⟩
theorem gsub_isl {w : World} {B : Nat} {v : Value} {l : List Iv} (h : ISl w B v l) : GSub w B (lastC l) := GSub.last h.2
theorem code_sized {l : List Iv} (hs : SizedI l) : ∀ s ∈ l.map (·.it.code), s.length ≤ maxLen := by
  intro s h
  obtain ⟨x, hx, rfl⟩ := List.mem_map.1 h
  exact (hs x hx).1

set_option maxRecDepth 100000 in
set_option maxHeartbeats 4000000 in
theorem sound_any (v : Value) (l : List Iv) (w : World) (hv : ISl w w.heap.size v l) (hs : SizedI l) (hlen : l.length ≤ 1048576) : Calls Try.prog 18 #[v] w (SoundTo l w) := by
  obtain ⟨⟨A, c, rfl, hc1, hc2, hcz, hl⟩, hsub⟩ := id hv
  obtain ⟨its, hits⟩ : ∃ its, l.map (·.it) = its := ⟨_, rfl⟩
  have hil : its.length = l.length := by rw [← hits]; simp
  have hCM : ∀ n, checkM its = n → checkM (l.map (·.it)) = n := by rw [hits]; exact fun n h => h
  have H0 := Lib.hid (shaped_any (.slice A l.length c) l)
  have hcl := closedB_I l
  rw [hits] at hcl
  have HCB := Lib.hid hcl
  have HV := Lib.hid hv
  have HS : Hid (SizedI l) := Lib.hid hs
  have HCM := Lib.hid hCM
  have HIT := Lib.hid hits
  clear hl hsub hv hs hCM hcl
  by_cases h60 : 60 < l.length
  · have hd : decide ((60 : Int) < (l.length : Int)) = true := decide_eq_true (by omega)
    have hn : Hid (checkM its = 3) := Lib.hid (by unfold checkM; rw [if_pos (by omega)])
    go_enter Try.func18, Try.ntmps18
    go_wp2
    go_ret2
    exact SoundTo.bad (HCM.out _ hn.out) (by omega) (Below.refl _ _)
  · have hd : decide ((60 : Int) < (l.length : Int)) = false := decide_eq_false (by omega)
    cases hsh : shapedB its
    · have hn : Hid (checkM its = 4) := Lib.hid (by unfold checkM; rw [if_neg (by omega), if_pos hsh])
      go_enter Try.func18, Try.ntmps18
      go_wp2_with (go_at_call 35; ((with_reducible refine (H0.out _ HV.out HS.out (by omega)).mono ?_); rintro e w1 ⟨rfl, hb1⟩; have HB1 := Lib.hid hb1; clear hb1; rw [HIT.out, hsh]))
      go_ret2
      exact SoundTo.bad (HCM.out _ hn.out) (by omega) HB1.out
    · cases hci : closedI its
      · have hn : Hid (checkM its = 150) := Lib.hid (by unfold checkM; rw [if_neg (by omega), if_neg (by rw [hsh]; simp), if_pos hci])
        go_enter Try.func18, Try.ntmps18
        go_wp2_with (first
          | (go_at_call 35; ((with_reducible refine (H0.out _ HV.out HS.out (by omega)).mono ?_); rintro e w1 ⟨rfl, hb1⟩; have HB1 := Lib.hid hb1; have HV1 := Lib.hid (HV.out.at_ hb1); clear hb1; rw [HIT.out, hsh]))
          | (go_at_call 36; ((with_reducible refine (byCode_any _ l _ (by omega) HS.out HV1.out).mono ?_); rintro e w2 ⟨b, rfl, hf2, hb2⟩; have HB2 := Lib.hid (below_two HB1.out hb2); have HV2 := Lib.hid (HV1.out.at_ hb2); have HF2 := Lib.hid hf2; clear hb2 hf2))
          | (go_at_call 37; ((with_reducible refine (closed_any _ _ (lastC l) l _ HF2.out (gsub_isl HV2.out) HV2.out HS.out (by omega)).mono ?_); rintro e w3 ⟨rfl, hb3⟩; have HB3 := Lib.hid (below_two HB2.out hb3); clear hb3; rw [HIT.out, HCB.out, hci])))
        go_ret2
        exact SoundTo.bad (HCM.out _ hn.out) (by omega) HB3.out
      · go_enter Try.func18, Try.ntmps18
        go_wp2_with (first
          | (go_at_call 35; ((with_reducible refine (H0.out _ HV.out HS.out (by omega)).mono ?_); rintro e w1 ⟨rfl, hb1⟩; have HB1 := Lib.hid hb1; have HV1 := Lib.hid (HV.out.at_ hb1); clear hb1; rw [HIT.out, hsh]))
          | (go_at_call 36; ((with_reducible refine (byCode_any _ l _ (by omega) HS.out HV1.out).mono ?_); rintro e w2 ⟨b, rfl, hf2, hb2⟩; have HB2 := Lib.hid (below_two HB1.out hb2); have HV2 := Lib.hid (HV1.out.at_ hb2); have HF2 := Lib.hid hf2; clear hb2 hf2))
          | (go_at_call 37; ((with_reducible refine (closed_any _ _ (lastC l) l _ HF2.out (gsub_isl HV2.out) HV2.out HS.out (by omega)).mono ?_); rintro e w3 ⟨rfl, hb3⟩; have HB3 := Lib.hid (below_two HB2.out hb3); have HV3 := Lib.hid (HV2.out.at_ hb3); have HF3 := Lib.hid ((HF2.out.below hb3).mono hb3.size); clear hb3; rw [HIT.out, HCB.out, hci]))
          | (go_at_call 30; ((with_reducible refine (codes_any _ l _ HV3.out HS.out (by omega)).mono ?_); rintro e w4 ⟨v4, rfl, ho4, hb4⟩; obtain ⟨A4, c4, rfl, qa, qb, qc⟩ := own_form ho4; have HB4 := Lib.hid (below_two HB3.out hb4); have HV4 := Lib.hid (HV3.out.at_ hb4); have HF4 := Lib.hid ((HF3.out.below hb4).mono hb4.size); have hc4 := TSl.own ho4; rw [List.length_map] at hc4; have HC4 := Lib.hid hc4; clear hb4 ho4 hc4))
          | (go_at_call 26; fail))
        refine (inward_any (.map (some b)) _ (lastC l) (l.map (·.it.code)) (l.map (·.it.code)) _ (stat_last HS.out (by omega)) HF4.out (gsub_isl HV4.out) HC4.out (by rw [List.length_map]; omega) (code_sized HS.out)).mono ?_
        have hcodes : l.map (·.it.code) = its.map (·.code) := by rw [← HIT.out]; simp
        rintro e w5 ⟨(⟨A5, c5, m, rfl, hi5, hin5, hg5, hm5⟩ | ⟨rfl, hrd⟩), hb5⟩
        · rw [lastI_map, HIT.out, hcodes] at hin5
          obtain ⟨ha, hb⟩ := inward_deep hci hin5
          have hms : SizedI m := fun x hx => HS.out x (lastC_some l (hg5 x hx)).1
          have HTD := Lib.hid (tooDeep_any _ m w5 hi5 hms hm5)
          have HB5 := Lib.hid (below_two HB4.out hb5)
          have HF5 := Lib.hid ((HF4.out.below hb5).mono hb5.size)
          clear hi5 hin5 hg5 hb5
          cases htd : tooDeepB (m.map (·.it))
          · have hn : Hid (checkM its = 0) := Lib.hid (by unfold checkM; rw [if_neg (by omega), if_neg (by rw [hsh]; simp), if_neg (by rw [hci]; simp), if_neg (by rw [ha]; simp), if_neg (by rw [hb, htd]; simp)])
            clear ha hb
            go_wp2_with (go_at_call 38; ((with_reducible refine HTD.out.mono ?_); rintro e w6 ⟨rfl, hb6⟩; have HB6 := Lib.hid (below_two HB5.out hb6); have HF6 := Lib.hid ((HF5.out.below hb6).mono hb6.size); clear hb6; rw [htd]))
            go_ret2
            exact ⟨.inr ⟨HCM.out _ hn.out, b, rfl, HF6.out⟩, HB6.out⟩
          · have hn : Hid (checkM its = 3) := Lib.hid (by unfold checkM; rw [if_neg (by omega), if_neg (by rw [hsh]; simp), if_neg (by rw [hci]; simp), if_neg (by rw [ha]; simp), if_pos (by rw [hb, htd])])
            clear ha hb
            go_wp2_with (go_at_call 38; ((with_reducible refine HTD.out.mono ?_); rintro e w6 ⟨rfl, hb6⟩; have HB6 := Lib.hid (below_two HB5.out hb6); clear hb6; rw [htd]))
            go_ret2
            exact SoundTo.bad (HCM.out _ hn.out) (by omega) HB6.out
        · rw [lastI_map, HIT.out] at hrd
          have hn : Hid (checkM its = 152) := Lib.hid (by unfold checkM; rw [if_neg (by omega), if_neg (by rw [hsh]; simp), if_neg (by rw [hci]; simp), if_pos (round_all hrd)])
          have HB5 := Lib.hid (below_two HB4.out hb5)
          clear hrd hb5
          go_wp2
          go_ret2
          exact SoundTo.bad (HCM.out _ hn.out) (by omega) HB5.out
set_option maxHeartbeats 1000000 in
theorem check_any (v : Value) (l : List Iv) (w : World) (hv : ISl w w.heap.size v l) (hs : SizedI l) (hlen : l.length ≤ 1048576) : Calls Try.prog 7 #[v] w fun e w' => e = .returned (.int .i64 (checkM (l.map (·.it)))) ∧ Go.RowKit.Below w.heap.size w w' := by
  have HSD := Lib.hid (sound_any v l w hv hs hlen)
  obtain ⟨⟨A, c, rfl, hc1, hc2, hcz, hl⟩, hsub⟩ := id hv
  clear hl hsub hv hs
  obtain ⟨cm, hcm⟩ : ∃ cm, checkM (l.map (·.it)) = cm := ⟨_, rfl⟩
  unfold SoundTo at HSD
  rw [hcm] at HSD ⊢
  clear hcm
  go_enter Try.func7, Try.ntmps7
  go_wp2_with (go_at_call 18; fail)
  refine HSD.out.mono ?_
  rintro e w1 ⟨(⟨hn, rfl⟩ | ⟨hn, b, rfl, hf⟩), hb⟩
  · have HB := Lib.hid hb
    clear hb hn
    go_wp2
    go_ret
    exact ⟨rfl, HB.out⟩
  · have HB := Lib.hid hb
    clear hb hf
    subst hn
    go_wp2
    go_ret
    exact ⟨rfl, HB.out⟩
end Kt
end Go.Proofs.Ytkdcpnbfeagggaa
end
section
/- slices.Sort at texts of one's own; kit.Deep, kit.Within. -/
namespace Go.Proofs.Ytkdcpnbfeagggaa
namespace Kt
open Go.ChangeShapes Go.WideShapes Go.ChangeAt Go.RowKit Go.Maps Go.Shelf Go.Sort
set_option linter.unusedVariables false

theorem sortT_any (base : Nat) (v : Value) (ss : List (List UInt8)) (w : World) (ho : w.ownsRow base 9 1 v ss.length (tcells ss)) (hlen : ss.length ≤ 1048576) :
    Calls Try.prog 31 #[v] w fun e w' => e = .returned (.tuple #[]) ∧ w'.ownsRow base 9 1 v ss.length (tcells (srt ss)) ∧ w.grownBy w' v.ownBlock := by
  rcases ho.2 with ⟨rfl, h0⟩ | ⟨g, cap, cur, rfl, hb, hh, h1, h2, h3, h4⟩
  · have hs : ss = [] := List.eq_nil_of_length_eq_zero h0
    subst hs
    refine (AnyM.slices_Sort_string_none Try.sort none 0 w).mono ?_
    rintro e w' ⟨rfl, rfl⟩
    have e : srt [] = [] := by simp [srt]
    exact ⟨rfl, by rw [e]; exact ho, World.grownBy.refl _ _⟩
  · have hlt := (ho.lt g rfl).2
    refine (AnyM.slices_Sort_string Try.sort g 0 cap ss w (holds_of_block hh (by rw [Nat.mul_one] at h4; exact h4)) hlt (by omega)).mono ?_
    rintro e w' ⟨rfl, n, os, rfl⟩
    exact ⟨rfl, ownsRow_sorted (ts := srt ss) (by simp [srt]) hb hh h1 h2 h3, grownBy_sorted _⟩
/-! ### sound items -/
structure Sd (l : List It) : Prop where
  len : l.length ≤ 60
  shaped : shapedB l = true
  closed : closedI l = true
  deep : ∀ x ∈ l, ∃ d, Dp (lastI l) x.code d ∧ d ≤ 8
theorem checkM_sd {l : List It} (h : checkM l = 0) : Sd l := by
  unfold checkM at h
  by_cases h1 : 60 < l.length
  · rw [if_pos h1] at h; cases h
  rw [if_neg h1] at h
  cases h2 : shapedB l
  · rw [if_pos h2] at h; cases h
  rw [if_neg (by rw [h2]; simp)] at h
  cases h3 : closedI l
  · rw [if_pos h3] at h; cases h
  rw [if_neg (by rw [h3]; simp)] at h
  cases h4 : l.all (fun x => (depI l x.code).isSome)
  · rw [if_pos h4] at h; cases h
  rw [if_neg (by rw [h4]; simp)] at h
  cases h5 : l.any (fun x => decide (8 < (depI l x.code).getD 0))
  · refine ⟨by omega, h2, h3, fun x hx => ?_⟩
    rw [List.all_eq_true] at h4
    have h6 := h4 x hx
    rw [List.any_eq_false] at h5
    have h7 := h5 x hx
    obtain ⟨d, hd⟩ := Option.isSome_iff_exists.1 h6
    rw [hd] at h7
    exact ⟨d, depI_dp hd, by simpa using h7⟩
  · rw [if_pos h5] at h; cases h
theorem sd_checkM {l : List It} (h : Sd l) : checkM l = 0 := by
  unfold checkM
  have h4 : l.all (fun x => (depI l x.code).isSome) = true := by
    rw [List.all_eq_true]
    intro x hx
    obtain ⟨d, hd, _⟩ := h.deep x hx
    rw [hd.depI]; rfl
  have h5 : l.any (fun x => decide (8 < (depI l x.code).getD 0)) = false := by
    rw [List.any_eq_false]
    intro x hx
    obtain ⟨d, hd, h8⟩ := h.deep x hx
    rw [hd.depI]; simpa using h8
  rw [if_neg (by have := h.len; omega), if_neg (by rw [h.shaped]; simp), if_neg (by rw [h.closed]; simp), if_neg (by rw [h4]; simp), if_neg (by rw [h5]; simp)]
/-- What is found, if the items are sound. -/
def FS (l : List It) : Fd := if checkM l = 0 then lastI l else fun _ => none
def GS (l : List Iv) : List UInt8 → Option Iv := if checkM (l.map (·.it)) = 0 then lastC l else fun _ => none
theorem fdOf_GS (l : List Iv) : fdOf (GS l) = FS (l.map (·.it)) := by
  unfold GS FS
  by_cases h : checkM (l.map (·.it)) = 0
  · rw [if_pos h, if_pos h, lastI_map]
  · rw [if_neg h, if_neg h]; rfl
theorem FS_some {l : List It} {c : List UInt8} {x : It} (h : FS l c = some x) : checkM l = 0 ∧ lastI l c = some x ∧ FS l = lastI l := by
  unfold FS at h ⊢
  by_cases h0 : checkM l = 0
  · rw [if_pos h0] at h ⊢; exact ⟨h0, h, rfl⟩
  · rw [if_neg h0] at h; cases h
theorem no_round (l : List It) : ¬ Round (FS l) := by
  intro h
  obtain ⟨g, x, hx, hn⟩ := h.no
  obtain ⟨h0, h1, h2⟩ := FS_some hx
  obtain ⟨h3, h4⟩ := lastI_some l h1
  obtain ⟨d, hd, _⟩ := (checkM_sd h0).deep x h3
  rw [h4, ← h2] at hd
  exact hn d hd
theorem stat_GS {l : List Iv} (hs : SizedI l) (hlen : l.length ≤ 1048576) : Stat (GS l) (l.map (·.it.code)) := by
  unfold GS
  split
  · exact stat_last hs hlen
  · exact ⟨fun c x h => (by cases h), fun c x h => (by cases h), fun c x h => (by cases h), by rw [List.length_map]; exact hlen⟩
theorem gsub_GS {w : World} {B : Nat} {v : Value} {l : List Iv} (h : ISl w B v l) : GSub w B (GS l) := by
  unfold GS
  split
  · exact gsub_isl h
  · exact GSub.none _ _
/-- What sound answers, in one word. -/
theorem sound_GS {l : List Iv} {w w' : World} {e : Ending} (h : SoundTo l w e w') : ∃ mo, e = .returned (.tuple #[.map mo, .int .i64 (checkM (l.map (·.it)))]) ∧ Fnd w' w'.heap.size (.map mo) (GS l) ∧ Go.RowKit.Below w.heap.size w w' := by
  obtain ⟨⟨hn, he⟩ | ⟨hn, b, he, hf⟩, hb⟩ := h
  · exact ⟨none, he, .inl ⟨rfl, fun c => by unfold GS; rw [if_neg hn]⟩, hb⟩
  · exact ⟨some b, by rw [he, hn], by unfold GS; rw [if_pos hn]; exact hf, hb⟩
def deepM (l : List It) (c : List UInt8) : Nat := if checkM l = 0 then (depI l c).getD 0 else 0
/-- What is within. -/
def InB (l : List It) (c a : List UInt8) : Prop := checkM l = 0 ∧ (lastI l c).isSome = true ∧ Reach (lastI l) c a
theorem inward_codes {l m : List It} {c : List UInt8} (h : Inward (FS l) [c] m) (a : List UInt8) : a ∈ m.map (·.code) ↔ InB l c a := by
  constructor
  · intro ha
    obtain ⟨x, hx, rfl⟩ := List.mem_map.1 ha
    have h1 := h.topo.found x hx
    obtain ⟨h0, h2, h3⟩ := FS_some h1
    obtain ⟨c', hc', hr⟩ := h.only x hx
    simp at hc'
    subst hc'
    rw [h3] at hr
    refine ⟨h0, ?_, hr⟩
    have hfirst : ∀ b, Reach (lastI l) c' b → b = c' ∨ (lastI l c').isSome = true := by
      intro b hb
      induction hb with
      | refl => exact .inl rfl
      | step _ hs ih =>
        rcases ih with rfl | ih
        · obtain ⟨y, hy, _⟩ := hs
          exact .inr (by rw [hy]; rfl)
        · exact .inr ih
    rcases hfirst _ hr with e | e
    · rw [← e, h2]; rfl
    · exact e
  · rintro ⟨h0, h1, hr⟩
    have hF : FS l = lastI l := by unfold FS; rw [if_pos h0]
    rw [hF] at h
    have hcl := closedI_get (checkM_sd h0).closed
    have hm := h.all c (by simp) h1
    obtain ⟨x, hx, hxc⟩ := List.mem_map.1 hm
    have hfa : ∀ b, Reach (lastI l) c b → (lastI l b).isSome = true := by
      intro b hb
      induction hb with
      | refl => exact h1
      | step _ hs ih =>
        obtain ⟨y, hy, p, hp, rfl⟩ := hs
        exact hcl _ y hy p hp
    exact h.topo.reach x hx a (by rw [hxc]; exact hr) (hfa a hr) hcl
theorem inward_dep {l m : List It} {c : List UInt8} (h : Inward (FS l) [c] m) : depL m c = deepM l c := by
  unfold deepM
  by_cases hm : c ∈ m.map (·.code)
  · obtain ⟨h0, h1, _⟩ := (inward_codes h c).1 hm
    have hF : FS l = lastI l := by unfold FS; rw [if_pos h0]
    rw [hF] at h
    have hd := h.topo.depL (closedI_get (checkM_sd h0).closed) c hm
    rw [if_pos h0, hd.depI]; rfl
  · rw [depL_out hm]
    by_cases h0 : checkM l = 0
    · rw [if_pos h0]
      have hnf : ¬ (lastI l c).isSome = true := fun h1 => hm ((inward_codes h c).2 ⟨h0, h1, .refl _⟩)
      have : depI l c = none := by
        cases hd : depI l c with
        | none => rfl
        | some d =>
          obtain ⟨x, hx⟩ := (depI_dp hd).found
          rw [hx] at hnf
          exact absurd rfl hnf
      rw [this]; rfl
    · rw [if_neg h0]
end Kt
end Go.Proofs.Ytkdcpnbfeagggaa
end
section
/- kit.Deep, kit.Within; the walks. -/
namespace Go.Proofs.Ytkdcpnbfeagggaa
namespace Kt
open Go.ChangeShapes Go.WideShapes Go.ChangeAt Go.RowKit Go.Maps Go.Shelf
set_option linter.unusedVariables false

theorem one_tsl (w : World) (c : List UInt8) : TSl (w.alloc (.cells #[.string ⟨c.toArray⟩] 9)) (w.alloc (.cells #[.string ⟨c.toArray⟩] 9)).heap.size (.slice (some ⟨w.heap.size, 0, none⟩) 1 1) [c] := by
  have h := World.ownsRow_lit (base := w.heap.size) (e := 9) (size := 1) w #[.string ⟨c.toArray⟩] 1 (Nat.le_refl _) (by simp [maxLen]) rfl
  exact ⟨_, 1, rfl, Nat.le_refl _, by simp [maxLen], fun h => (by cases h), Lies.own h⟩
/-- inward of one code, of what sound answers. -/
theorem inward_one (mo : Option Nat) (l : List Iv) (c : List UInt8) (v : Value) (w : World) (hv : ISl w w.heap.size v l) (hs : SizedI l) (hlen : l.length ≤ 1048576) (hc : c.length ≤ maxLen) (hf : Fnd w w.heap.size (.map mo) (GS l)) (g : Nat) (hg : w.heap.size = g) :
    Calls Try.prog 26 #[.map mo, .slice (some ⟨g, 0, none⟩) 1 1] (w.alloc (.cells #[.string ⟨c.toArray⟩] 9)) fun e w' =>
      ∃ (A : Option Addr) (k : Nat) (m : List Iv), e = .returned (.tuple #[.slice A m.length k, .bool true]) ∧ ISl w' w'.heap.size (.slice A m.length k) m ∧ Inward (FS (l.map (·.it))) [c] (m.map (·.it)) ∧ SizedI m ∧ m.length ≤ 1048576 ∧ (∀ x ∈ m, x ∈ l) ∧ Go.RowKit.Below w.heap.size w w' := by
  subst hg
  have hb0 := below_alloc1 w (.cells #[.string ⟨c.toArray⟩] 9)
  refine (inward_any (.map mo) _ (GS l) (l.map (·.it.code)) [c] _ (stat_GS hs hlen) ((hf.below hb0).mono hb0.size) (gsub_GS (hv.at_ hb0)) (one_tsl w c) (by simp) (by simpa using hc)).mono ?_
  rintro e w' ⟨(⟨A, k, m, rfl, hi, hin, hg, hm⟩ | ⟨rfl, hrd⟩), hb⟩
  · rw [fdOf_GS] at hin
    have hml : ∀ x ∈ m, x ∈ l := fun x hx => by
      have h1 := hg x hx
      unfold GS at h1
      split at h1
      · exact (lastC_some l h1).1
      · cases h1
    exact ⟨A, k, m, rfl, hi, hin, fun x hx => hs x (hml x hx), hm, hml, hb0.trans (hb.mono hb0.size)⟩
  · rw [fdOf_GS] at hrd
    exact absurd hrd (no_round _)

set_option maxRecDepth 100000 in
set_option maxHeartbeats 4000000 in
theorem deep_any (v : Value) (l : List Iv) (c : List UInt8) (w : World) (hv : ISl w w.heap.size v l) (hs : SizedI l) (hlen : l.length ≤ 1048576) (hc : c.length ≤ maxLen) :
    Calls Try.prog 13 #[v, .string ⟨c.toArray⟩] w fun e w' => e = .returned (.int .i64 (deepM (l.map (·.it)) c : Nat)) ∧ Go.RowKit.Below w.heap.size w w' := by
  have HSD := Lib.hid (sound_any v l w hv hs hlen)
  obtain ⟨⟨A, k, rfl, hc1, hc2, hcz, hl⟩, hsub⟩ := id hv
  have HV := Lib.hid hv
  have HS : Hid (SizedI l) := Lib.hid hs
  clear hl hsub hv hs
  obtain ⟨cm, hcm⟩ : ∃ cm, checkM (l.map (·.it)) = cm := ⟨_, rfl⟩
  obtain ⟨dm, hdm⟩ : ∃ dm, deepM (l.map (·.it)) c = dm := ⟨_, rfl⟩
  rw [hdm]
  have HDM := Lib.hid hdm
  have HCM := Lib.hid hcm
  clear hdm hcm
  go_enter Try.func13, Try.ntmps13
  go_wp2_with (first
    | (go_at_call 18; ((with_reducible refine HSD.out.mono ?_); rintro e w1 hsd; obtain ⟨mo, rfl, hf1, hb1⟩ := sound_GS hsd; have HB1 := Lib.hid hb1; have HF1 := Lib.hid hf1; have HV1 := Lib.hid (HV.out.at_ hb1); clear hsd hf1 hb1; rw [HCM.out]))
    | (go_at_call 26; ((with_reducible refine (inward_one mo l c _ _ HV1.out HS.out hlen hc HF1.out _ rfl).mono ?_); rintro e w2 ⟨A2, k2, m, rfl, hi2, hin2, hms, hm2, _, hb2⟩; have HI2 := Lib.hid hi2; have HIN2 := Lib.hid hin2; have HMS := Lib.hid hms; have HB2 := Lib.hid (below_two HB1.out hb2); clear hi2 hin2 hms hb2))
    | (go_at_call 29; ((with_reducible refine (depths_any _ m _ HI2.out HMS.out hm2).mono ?_); rintro e w3 ⟨b3, n3, S3, rfl, hm3, _, hb3⟩; have HB3 := Lib.hid (below_two HB2.out hb3); have hlk := hm3.look skeyed Try.underlying59 (zInt_run _) (skey_of c hc); rw [inward_dep HIN2.out, HDM.out] at hlk; clear hm3 hb3)))
  go_ret
  exact ⟨rfl, HB3.out⟩

/-- What Within answers: what is within, rising, of its own memory. -/
def Rises (ss : List (List UInt8)) : Prop := ss.Pairwise (· < ·)
def WithinTo (l : List It) (c : List UInt8) (w : World) (e : Ending) (w' : World) : Prop :=
  ∃ v ss, e = .returned v ∧ Rises ss ∧ (∀ a, a ∈ ss ↔ InB l c a) ∧ w'.ownsRow w.heap.size 9 1 v ss.length (tcells ss) ∧ ss.length ≤ 1048576 ∧ Go.RowKit.Below w.heap.size w w'
theorem sortT_n (base n : Nat) (v : Value) (ss : List (List UInt8)) (w : World) (hn : ss.length = n) (ho : w.ownsRow base 9 1 v n (tcells ss)) (hlen : n ≤ 1048576) :
    Calls Try.prog 31 #[v] w fun e w' => e = .returned (.tuple #[]) ∧ w'.ownsRow base 9 1 v n (tcells (srt ss)) ∧ w.grownBy w' v.ownBlock := by
  subst hn
  exact sortT_any base v ss w ho hlen
theorem srt_rises {ss : List (List UInt8)} (h : ss.Nodup) : Rises (srt ss) := by
  have h1 : (srt ss).Pairwise (fun a b => a ≤ b) := by
    have := List.pairwise_mergeSort (le := fun (x y : List UInt8) => decide (x ≤ y)) (fun a b c h1 h2 => by simp only [decide_eq_true_eq] at *; exact List.le_trans h1 h2) (fun a b => by
      by_cases h : a ≤ b
      · simp [h]
      · have := List.le_total a b; simp_all) ss
    exact this.imp (fun h => by simpa using h)
  have h2 : (srt ss).Nodup := (List.mergeSort_perm ss _).nodup_iff.2 h
  unfold Rises
  rw [List.Nodup] at h2
  exact (h1.and h2).imp (fun ⟨h3, h4⟩ => Classical.byContradiction (fun h5 => h4 (List.le_antisymm h3 (List.not_lt.1 h5))))

set_option maxRecDepth 100000 in
set_option maxHeartbeats 4000000 in
theorem within_any (v : Value) (l : List Iv) (c : List UInt8) (w : World) (hv : ISl w w.heap.size v l) (hs : SizedI l) (hlen : l.length ≤ 1048576) (hc : c.length ≤ maxLen) :
    Calls Try.prog 15 #[v, .string ⟨c.toArray⟩] w (WithinTo (l.map (·.it)) c w) := by
  have HSD := Lib.hid (sound_any v l w hv hs hlen)
  obtain ⟨⟨A, k, rfl, hc1, hc2, hcz, hl⟩, hsub⟩ := id hv
  have HV := Lib.hid hv
  have HS : Hid (SizedI l) := Lib.hid hs
  clear hl hsub hv hs
  go_enter Try.func15, Try.ntmps15
  go_wp2_with (first
    | (go_at_call 18; ((with_reducible refine HSD.out.mono ?_); rintro e w1 hsd; obtain ⟨mo, rfl, hf1, hb1⟩ := sound_GS hsd; have HB1 := Lib.hid hb1; have HF1 := Lib.hid hf1; have HV1 := Lib.hid (HV.out.at_ hb1); clear hsd hf1 hb1))
    | (go_at_call 26; ((with_reducible refine (inward_one mo l c _ _ HV1.out HS.out hlen hc HF1.out _ rfl).mono ?_); rintro e w2 ⟨A2, k2, m, rfl, hi2, hin2, hms, hm2, _, hb2⟩; have HI2 := Lib.hid hi2; have HIN2 := Lib.hid hin2; have HMS := Lib.hid hms; have HB2 := Lib.hid (below_two HB1.out hb2); clear hi2 hin2 hms hb2))
    | (go_at_call 30; ((with_reducible refine (codes_any _ m _ HI2.out HMS.out hm2).mono ?_); rintro e w3 ⟨v3, rfl, ho3, hb3⟩; rw [List.length_map] at ho3; obtain ⟨A3, k3, rfl, qa, qb, qc⟩ := own_form ho3; have HO3 := Lib.hid ho3; have HB3 := Lib.hid (below_two HB2.out hb3); have hz3 := HB2.out.size; clear ho3 hb3))
    | (go_at_call 31; ((with_reducible refine (sortT_n _ m.length _ (m.map (·.it.code)) _ (List.length_map _) HO3.out hm2).mono ?_); rintro e w4 ⟨rfl, ho4, hg4⟩; have HO4 := Lib.hid ho4; have HG4 := Lib.hid hg4; clear ho4 hg4)))
  go_ret
  have hmc : m.map (·.it.code) = (m.map (·.it)).map (·.code) := by simp
  have hnd := HIN2.out.topo.nodup
  rw [← hmc] at hnd
  have hsl : (srt (m.map (·.it.code))).length = m.length := by simp [srt]
  refine ⟨_, srt (m.map (·.it.code)), rfl, srt_rises hnd, fun a => ?_, ?_, by omega, ?_⟩
  · rw [← inward_codes HIN2.out a, ← hmc]
    exact (List.mergeSort_perm _ _).mem_iff
  · rw [hsl]
    exact base_less HO4.out hz3
  · exact HB3.out.grown HG4.out (HB3.out.size) (fun j hj => by have := (HO3.out.lt j hj).1; omega)
end Kt
end Go.Proofs.Ytkdcpnbfeagggaa
end
