/- The law LotSwept: whatever lots and days; the walk. -/
import Derived.Test.YtdmgnafafafdpaaLSwMath
import Derived.Test.YtdmgnafafafdpaaLPick
import Derived.Deep.DeepCutAuto
namespace Go.Proofs.Ytdmgnafafafdpaa
open Go.ChangeShapes Go.WideShapes Go.ChangeAt Go.RowKit
set_option linter.unusedVariables false

/-- What two sweeps leave, in words of lists alone. -/
def SwFacts (now : Int) (l L G E : List Lt) : Prop := L.length + G.length = l.length ∧ E.length = 0 ∧ onSum now G = 0 ∧ onSum now L = onSum now l ∧
  (∀ v W, LSl W W.heap.size v l → l.length ≤ 400 → Calls Try.prog 15 #[v, .int .i64 now] W (SweepsTo L G W)) ∧
  (∀ v W, LSl W W.heap.size v L → l.length ≤ 400 → Calls Try.prog 15 #[v, .int .i64 now] W (SweepsTo L E W)) ∧
  (∀ d v W, LSl W W.heap.size v l → l.length ≤ 400 → Calls Try.prog 15 #[v, .int .i64 d] W (SweepsTo (l.filter (fun x => !overB d x)) (l.filter (overB d)) W)) ∧
  (∀ d, d ≤ now → (l.filter (overB d)).length ≤ G.length) 
theorem swFacts (now : Int) (l : List Lt) : ∃ L G E, SwFacts now l L G E := by
  refine ⟨l.filter (fun x => !overB now x), l.filter (overB now), [], filter_len_split (overB now) l, rfl, on_gone now l, on_left now l, fun v W hv hl => sweep_any now v l W (by omega) hv, fun v W hv hl => ?_, fun d v W hv hl => sweep_any d v l W (by omega) hv, fun d hd => few_le hd l⟩
  have h := sweep_any now v (l.filter (fun x => !overB now x)) W (by have := List.length_filter_le (fun x => !overB now x) l; omega) hv
  rw [filter_again, filter_none] at h
  exact h
theorem own_nil {w : World} {base e size : Nat} {v : Value} {E : List Lt} {xs : List Value} (hE : E.length = 0) (h : w.ownsRow base e size v E.length xs) : ∃ A c, v = .slice A 0 c ∧ c ≤ maxLen := by
  obtain ⟨A, c, rfl, h1, h2, h3⟩ := own_form h
  rw [hE]
  exact ⟨A, c, rfl, h2⟩
theorem bne_false {a b : Int} (h : a = b) : (a != b) = false := by simp [h]
theorem inItems_succ {l : List Lt} {j : Nat} {y : Lt} (h : l[j]? = some y) (s : List UInt8) : decide (s ∈ itemsOf (l.take (j + 1))) = (decide (s ∈ itemsOf (l.take j)) || decide (y.item = s)) := by
  rw [items_succ h, ← Bool.decide_or]
  congr 1
  apply propext
  simp only [List.mem_append, List.mem_singleton]
  exact or_congr Iff.rfl eq_comm

set_option maxRecDepth 100000 in
set_option maxHeartbeats 8000000 in
theorem swept_any (v : Value) (l : List Lt) (now less : Int) (w : World) (hv : LSl w w.heap.size v l) (hs : Sized l) (hlen : l.length ≤ 140737488355328)
    (hn1 : -9223372036854775808 ≤ now) (hn2 : now ≤ 9223372036854775807) (hp1 : -9223372036854775808 ≤ less) (hp2 : less ≤ 9223372036854775807) :
    Calls Try.prog 5 #[v, .int .i64 now, .int .i64 less] w fun e w' => e = .returned (.bool true) ∧ Below w.heap.size w w' := by
  have HV := Lib.hid hv
  have HS : Hid (Sized l) := Lib.hid hs
  have HL := Lib.hid hlen
  clear hv hs hlen
  go_enter Try.func5, Try.ntmps5
  go_wp2_with (first
    | (go_at_call 10; ((with_reducible refine (awake_any _).mono ?_); rintro e w1 ⟨rfl, hb1⟩))
    | (go_at_call 11; fail))
  refine (great_any v l w1 (HV.out.at_ hb1) HS.out HL.out).mono ?_
  rintro e w' ⟨bg, rfl, rfl, hfew⟩
  cases bg
  · have hl400 : l.length ≤ 400 := hfew rfl
    have HB1 := Lib.hid hb1
    have HV1 := Lib.hid (HV.out.at_ hb1)
    clear hfew hb1
    obtain ⟨L, G, E, hLG, hE, hG0, hLS, C1, C2, C3, C4⟩ := swFacts now l
    have hSb := onSum_bounds now l
    have K1 : Hid (∀ v W, LSl W W.heap.size v G → Calls Try.prog 16 #[v, .int .i64 now] W fun e w' => e = .returned (.int .i64 0) ∧ Below W.heap.size W w') :=
      Lib.hid (fun v W h => by rw [← hG0]; exact onSum_any now v G W (by omega) h)
    have K2 : Hid (∀ v W, LSl W W.heap.size v L → Calls Try.prog 16 #[v, .int .i64 now] W fun e w' => e = .returned (.int .i64 (onSum now l)) ∧ Below W.heap.size W w') :=
      Lib.hid (fun v W h => by rw [← hLS]; exact onSum_any now v L W (by omega) h)
    have K3 : Hid (∀ v W, LSl W W.heap.size v l → Calls Try.prog 16 #[v, .int .i64 now] W fun e w' => e = .returned (.int .i64 (onSum now l)) ∧ Below W.heap.size W w') :=
      Lib.hid (fun v W h => onSum_any now v l W (by omega) h)
    have PA := Lib.hid (partSum_all now l)
    have D1 := Lib.hid C1
    have D2 := Lib.hid C2
    have D3 := Lib.hid C3
    have D4 := Lib.hid C4
    generalize onSum now l = S at hSb K2 K3 PA
    have e1 : IntKind.i64.wrap ((L.length : Int) + (G.length : Int)) = (l.length : Int) := by rw [IntKind.wrap_i64]; omega
    have HE := Lib.hid hE
    have hLle : L.length ≤ 400 := by omega
    have hGle : G.length ≤ 400 := by omega
    clear C1 C2 C3 C4 hG0 hLS hE hLG
    obtain ⟨A0, c0, rfl, hcc1, hcc2, _⟩ := id HV.out
    go_wp2_with (first
      | (go_at_call 15; (first
          | ((with_reducible refine (D1.out _ _ HV1.out hl400).mono ?_); rintro e w2 ⟨v1, v2, rfl, ho1, ⟨m, hm, ho2, _⟩, hb2⟩; obtain ⟨A1, c1, rfl, ha1, ha2, _⟩ := own_form ho1; obtain ⟨A2, c2, rfl, ha3, ha4, _⟩ := own_form ho2; have HL2 := Lib.hid (LSl.own ho1); have HG2 := Lib.hid (LSl.own ho2); have HV2 := Lib.hid (HV1.out.at_ hb2); have HB2 := Lib.hid (below_two HB1.out hb2); clear ho1 ho2 hb2 hm)
          | ((with_reducible refine (D2.out _ _ HL2.out hl400).mono ?_); rintro e w3 ⟨v3, v4, rfl, ho3, ⟨m, hm, ho4, _⟩, hb3⟩; obtain ⟨A3, c3, rfl, ha5, ha6, _⟩ := own_form ho3; obtain ⟨A4, c4, rfl, ha8⟩ := own_nil HE.out ho4; have HA3 := Lib.hid (LSl.own ho3); have HL3 := Lib.hid (HL2.out.at_ hb3); have HG3 := Lib.hid (HG2.out.at_ hb3); have HV3 := Lib.hid (HV2.out.at_ hb3); have HB3 := Lib.hid (below_two HB2.out hb3); clear ho3 ho4 hb3 hm)))
      | (go_at_call 13; ((with_reducible refine (same_yes L _ _ w3 HA3.out HL3.out (by omega)).mono ?_); rintro e w4 ⟨rfl, hb4⟩; have HL4 := Lib.hid (HL3.out.at_ hb4); have HG4 := Lib.hid (HG3.out.at_ hb4); have HV4 := Lib.hid (HV3.out.at_ hb4); have HB4 := Lib.hid (below_two HB3.out hb4); clear hb4))
      | (go_at_call 16; (first
          | ((with_reducible refine (K1.out _ _ HG4.out).mono ?_); rintro e w5 ⟨rfl, hb5⟩; have HL5 := Lib.hid (HL4.out.at_ hb5); have HV5 := Lib.hid (HV4.out.at_ hb5); have HB5 := Lib.hid (below_two HB4.out hb5); clear hb5)
          | ((with_reducible refine (K2.out _ _ HL5.out).mono ?_); rintro e w6 ⟨rfl, hb6⟩; have HV6 := Lib.hid (HV5.out.at_ hb6); have HB6 := Lib.hid (below_two HB5.out hb6); clear hb6)
          | ((with_reducible refine (K3.out _ _ HV6.out).mono ?_); rintro e w7 ⟨rfl, hb7⟩; have HV7 := Lib.hid (HV6.out.at_ hb7); have HB7 := Lib.hid (below_two HB6.out hb7); clear hb7)))
      | (go_at_call 17; fail))
    refine (pick_k less _ hp1 hp2).mono ?_
    rintro e w8 ⟨kk, hkk, rfl, rfl⟩
    clear K1 K2 HL5 HL4 HG4 HL3 HG3 HA3 HL2 HG2 e1 HV1 HV2 HV3 HV4 HV5 HV6 HB2 HB3 HB4 HB5 HB6 D1 D2 ha1 ha2 ha5 ha6 ha8
    obtain ⟨d, hd⟩ : ∃ d, IntKind.i64.wrap (now - (kk : Int)) = d := ⟨_, rfl⟩
    obtain ⟨LD, F, hF, hFl, D5⟩ : ∃ LD F : List Lt, (d ≤ now → F.length ≤ G.length) ∧ F.length ≤ 400 ∧ Hid (∀ v W, LSl W W.heap.size v l → Calls Try.prog 15 #[v, .int .i64 d] W (SweepsTo LD F W)) :=
      ⟨_, _, D4.out d, Nat.le_trans (List.length_filter_le _ _) hl400, Lib.hid (fun v W h => D3.out d v W h hl400)⟩
    have HF := Lib.hid hF
    clear hF D3 D4
    go_upto_region 11 with (go_at_call 15; ((with_reducible refine (D5.out _ _ HV7.out).mono ?_); rintro e w8 ⟨v5, v6, rfl, ho5, ⟨m, hm, ho6, _⟩, hb8⟩; obtain ⟨A5, c5, rfl, hg1, hg2, _⟩ := own_form ho5; obtain ⟨A6, c6, rfl, hg3, hg4, _⟩ := own_form ho6; have HV8 := Lib.hid (HV7.out.at_ hb8); have HB8 := Lib.hid (below_two HB7.out hb8); clear ho5 ho6 hb8 hm))
    clear HB7 HV7 D5
    go_cut [87] (fun v wx => v = .bool false ∧ Below w8.heap.size w8 wx)
    case first =>
      by_cases hdn : d ≤ now
      · have hc : decide ((G.length : Int) < (F.length : Int)) = false := decide_eq_false (by have := HF.out hdn; omega)
        go_wp2
        go_meet
        exact ⟨congrArg Value.bool (decide_eq_false (by have := HF.out hdn; omega)), by first | exact Below.refl _ _ | exact (Below.refl _ _).drew⟩
      · have hc : decide (d ≤ now) = false := decide_eq_false hdn
        go_wp2
        go_meet
        exact ⟨rfl, by first | exact Below.refl _ _ | exact (Below.refl _ _).drew⟩
    case rest =>
      obtain ⟨rfl, hb9⟩ := hcut
      have HV9 := Lib.hid (HV8.out.at_ hb9)
      have HB9 := Lib.hid (below_two HB8.out hb9)
      clear hb9 HB8 HV8
      go_wp2
      go_loopw [14, 15] (fun s i wr => ∃ k : Nat, k ≤ l.length ∧ i = .int .i64 k ∧ s = .int .i64 (partSum now l k) ∧ Hid (LSl wr wr.heap.size (.slice A0 l.length c0) l) ∧ Hid (Below w.heap.size w wr)) (fun _ i _ => l.length - (intOf i).toNat)
      case atStart => exact ⟨0, Nat.zero_le _, rfl, by rw [partSum_zero], HV9, HB9⟩
      case round =>
        obtain ⟨k, hk, rfl, rfl, HVr, HBr⟩ := hrel
        have hps := partSum_bounds now l k
        by_cases hlt : k < l.length
        · obtain ⟨x, hx⟩ : ∃ x, l[k]? = some x := ⟨_, List.getElem?_eq_getElem hlt⟩
          have HX := Lib.hid hx
          clear hx
          generalize hPk : partSum now l k = pk at hps ⊢
          have HPk := Lib.hid hPk
          clear hPk
          go_wp2
          go_loopw [16, 17] (fun s i wi => ∃ j : Nat, j ≤ k ∧ i = .int .i64 j ∧ s = .bool (decide (x.item ∈ itemsOf (l.take j))) ∧ Hid (Below wr.heap.size wr wi)) (fun _ i _ => k - (intOf i).toNat)
          case atStart => exact ⟨0, Nat.zero_le _, rfl, by simp [itemsOf], Lib.hid (Below.refl _ _)⟩
          case round =>
            obtain ⟨j, hj, rfl, rfl, HBi⟩ := hrel
            by_cases hjk : j < k
            · obtain ⟨y, hy⟩ : ∃ y, l[j]? = some y := ⟨_, List.getElem?_eq_getElem (by omega)⟩
              obtain ⟨ap, hap, _, p0, p1, p2, p3, p4, p5⟩ := (HVr.out.below HBi.out).six hy
              subst hap
              obtain ⟨ap', hap', _, q0, q1, q2, q3, q4, q5⟩ := (HVr.out.below HBi.out).six HX.out
              cases hap'
              have HN := Lib.hid (inItems_succ hy x.item)
              clear hy
              have hjl : j < l.length := by omega
              generalize decide (x.item ∈ itemsOf (l.take j)) = sb at HN ⊢
              cases sb
              · go_wp2
                go_quiet (fail)
                go_wp2
                go_roundw
                case rel => exact ⟨j + 1, by omega, by go_num, by rw [HN.out]; by_cases h : y.item = x.item <;> simp [h], Lib.hid (below_draws HBi.out _)⟩
                case measure => simp [intOf]; omega
              · go_wp2
                go_quiet (fail)
                go_wp2
                go_roundw
                case rel => exact ⟨j + 1, by omega, by go_num, by rw [HN.out]; rfl, Lib.hid (below_draws HBi.out _)⟩
                case measure => simp [intOf]; omega
            · obtain rfl : j = k := by omega
              obtain ⟨ap, hap, _, p0, p1, p2, p3, p4, p5⟩ := (HVr.out.below HBi.out).six HX.out
              have hap := hap
              generalize hsb : decide (x.item ∈ itemsOf (l.take j)) = sb
              cases sb
              · have hpn := partSum_new (now := now) HX.out (of_decide_eq_false hsb)
                have hpb := partSum_bounds now l (j + 1)
                rw [hpn, HPk.out] at hpb
                obtain ⟨fl, D6, D7⟩ : ∃ fl : List Lt, Hid (∀ v W, LSl W W.heap.size v l → Calls Try.prog 18 #[v, .string ⟨x.item.toArray⟩] W (KeepsTo fl W)) ∧ Hid (∀ v W, LSl W W.heap.size v fl → Calls Try.prog 16 #[v, .int .i64 now] W fun e w' => e = .returned (.int .i64 (onSum now (l.filter (ofB x.item)))) ∧ Below W.heap.size W w') :=
                  ⟨l.filter (ofB x.item), Lib.hid (fun v W h => ofList_any x.item v l W (by omega) h), Lib.hid (fun v W h => onSum_any now v _ W (by have := List.length_filter_le (ofB x.item) l; omega) h)⟩
                have HPN := Lib.hid hpn
                clear hpn hsb
                generalize onSum now (l.filter (ofB x.item)) = q at hpb HPN D7
                have HVi := Lib.hid (HVr.out.at_ HBi.out)
                have HBj := Lib.hid (below_two HBr.out HBi.out)
                clear HBi HBr HVr
                subst hap
                go_wp2_with (first
                  | (go_at_call 18; ((with_reducible refine (D6.out _ _ HVi.out).mono ?_); rintro e u1 ⟨vf, rfl, hof, hbf⟩; obtain ⟨Af, cf, rfl, hh1, hh2, _⟩ := own_form hof; have HFl := Lib.hid (LSl.own hof); have HV2 := Lib.hid (HVi.out.at_ hbf); have HB2 := Lib.hid (below_two HBj.out hbf); clear hof hbf))
                  | (go_at_call 16; ((with_reducible refine (D7.out _ _ HFl.out).mono ?_); rintro e u2 ⟨rfl, hbg⟩; have HV3 := Lib.hid (HV2.out.at_ hbg); have HB3 := Lib.hid (below_two HB2.out hbg); clear hbg)))
                go_roundw
                case rel => exact ⟨j + 1, by omega, by go_num, by rw [HPN.out, HPk.out], HV3, HB3⟩
                case measure => simp [intOf]; omega
              · have hpn := Lib.hid (partSum_seen (now := now) HX.out (of_decide_eq_true hsb))
                clear hsb
                have HVi := Lib.hid (HVr.out.at_ HBi.out)
                have HBj := Lib.hid (below_two HBr.out HBi.out)
                clear HBi HBr HVr
                go_wp2
                go_roundw
                case rel => exact ⟨j + 1, by omega, by go_num, by rw [hpn.out, HPk.out], HVi, HBj⟩
                case measure => simp [intOf]; omega
        · obtain rfl : k = l.length := by omega
          clear hps
          rw [PA.out]
          go_wp2_with (go_at_call 16; ((with_reducible refine (K3.out _ _ HVr.out).mono ?_); rintro e u1 ⟨rfl, hbz⟩; have HBz := Lib.hid (below_two HBr.out hbz); clear hbz))
          go_ret
          exact ⟨ret_bool (by simp), HBz.out⟩
  · have HB1 := Lib.hid hb1
    clear hfew hb1
    go_wp2
    go_ret
    exact ⟨rfl, HB1.out⟩
end Go.Proofs.Ytdmgnafafafdpaa
