/- The law AmountPieces where all can be joined; the walk. -/
import Derived.Test.YtmjhldagmmpnjaaPieces
import Derived.Test.YtmjhldagmmpnjaaStr
import Derived.Deep.QuietTactic
import Derived.BigQuiet
namespace Go.Proofs.Ytmjhldagmmpnjaa
open Go.ChangeShapes Go.WideShapes Go.ChangeAt Go.RowKit Go.Maps
set_option linter.unusedVariables false

set_option maxRecDepth 100000 in
set_option maxHeartbeats 4000000 in
theorem pieces_yes (A : Option Addr) (c : Nat) (l out : List Pt) (x : Int) (w : World) (hv : PSl w w.heap.size (.slice A l.length c) l) (hs : Sized l) (hlen : l.length ≤ 140737488355328) (hx1 : -9223372036854775808 ≤ x) (hx2 : x ≤ 9223372036854775807)
    (hok : JoinOk l) (hj : IsJoin l out) (hol : out.length ≤ l.length) : Calls Try.prog 6 #[.slice A l.length c, .int .i64 x] w fun e w' => e = .returned (.bool true) ∧ Below w.heap.size w w' := by
  have HS : Hid (Sized l) := Lib.hid hs
  have HOK := Lib.hid hok
  have HJ := Lib.hid hj
  have HV := Lib.hid hv
  clear hs hok hj hv
  go_enter Try.func6, Try.ntmps6
  go_wp2_with (first
    | (go_at_call 13; ((with_reducible refine (awake_any _).mono ?_); rintro e w1 ⟨rfl, hb1⟩))
    | (go_at_call 18; fail))
  refine (great_n (n := 1) (c := 1) (ls := [l]) rfl (rows1 w1 _ l 34 (HV.out.at_ hb1)) (by rw [flat1]; exact HS.out) (by simp) (by simpa using hlen)).mono ?_
  rintro e w' ⟨b, rfl, rfl, hfew⟩
  cases b
  · have hl300 : l.length ≤ 300 := by have := (hfew rfl).1; simpa using this
    clear hfew hlen
    have hs1 : w.heap.size ≤ w1.heap.size := hb1.size
    go_wp2_with (first
      | (go_at_call 19; ((with_reducible refine (pick_n x (l.length + 1) _ _ (by omega) (by omega) (by omega) hx1 hx2).mono ?_); rintro e w' ⟨k, hk, rfl, rfl⟩))
      | (go_at_call 20; ((with_reducible refine (join1_yes out _ (by simp) (HV.out.at_ (hb1.alloc hb1.size _)) HS.out (by omega) HOK.out HJ.out).mono ?_); rintro e w2 ⟨v6, rfl, hp6, hb2⟩)))
    have hbw : Below w.heap.size w w2 := (hb1.alloc hb1.size _).trans (hb2.mono (by simp only [World.size_alloc]; omega))
    clear hb2
    obtain ⟨A6, c6, rfl, hd6, he6, _⟩ := id hp6
    have hcap : l.length ≤ c := by obtain ⟨A', c', hvv, h1, _⟩ := HV.out; injection hvv with _ _ e; omega
    have hcap2 : c ≤ 9223372036854775807 := by obtain ⟨A', c', hvv, _, h2, _⟩ := HV.out; injection hvv with _ _ e; unfold maxLen at h2; omega
    have hkl : k ≤ l.length := by omega
    have hp3 : (l.drop k ++ ([] ++ l.take k)).Perm l := by simpa using cut_perm l k
    have hok3 : Hid (JoinOk (l.drop k ++ ([] ++ l.take k))) := Lib.hid (HOK.out.perm hp3.symm)
    have hj3 : Hid (IsJoin (l.drop k ++ ([] ++ l.take k)) out) := Lib.hid (HJ.out.perm hp3.symm)
    have hs3 : Hid (Sized (l.drop k ++ ([] ++ l.take k))) := Lib.hid (HS.out.sub (fun p hp => hp3.mem_iff.1 hp))
    have hl3 : (l.drop k ++ ([] ++ l.take k)).length ≤ 300 := by rw [hp3.length_eq]; exact hl300
    obtain ⟨A1, c1, hrun1, hps1⟩ := cut_from A c l k hkl
    obtain ⟨A2, c2, hrun2, hps2⟩ := cut_to A c l k (by omega) hkl
    have HP1 := Lib.hid hps1
    have HP2 := Lib.hid hps2
    clear hp3 hps1 hps2
    go_cut [8, 9] (fun v is wx => is = .bool true ∧ PSl wx wx.heap.size v out ∧ Below w2.heap.size w2 wx)
    case first =>
      go_region_with (first
        | (go_at_call 20; ((with_reducible refine (join3_yes_d (l.drop k) [] (l.take k) out _ rfl (HP1.out _ _ (HV.out.at_ hbw)) PSl.nil (HP2.out _ _ (HV.out.at_ hbw)) hs3.out (by omega) hok3.out hj3.out).mono ?_); rintro e w3 ⟨v8, rfl, hp8, hb3⟩)))
      all_goals (go_wp2; go_meet; exact ⟨rfl, hp8, below_draws hb3 0⟩)
    case rest =>
      obtain ⟨rfl, hp8, hbc⟩ := hcut
      have hol2 : out.length ≤ 300 := by omega
      clear hrun1 hrun2
      go_wp2_with (first
        | (go_at_call 21; ((with_reducible refine (same_yes out _ _ _ (hp6.at_ hbc) hp8 (by omega)).mono ?_); rintro e w4 ⟨rfl, hb4⟩)))
      have hb24 : Below w2.heap.size w2 w4 := hbc.trans (hb4.mono hbc.size)
      clear hbc hb4
      go_loopw [14] (fun i wr => ∃ m : Nat, 1 ≤ m ∧ m ≤ out.length + 1 ∧ i = .int .i64 m ∧ Below w2.heap.size w2 wr) (fun i _ => out.length + 1 - (intOf i).toNat)
      case atStart => exact ⟨1, Nat.le_refl _, by omega, rfl, hb24⟩
      case round =>
        obtain ⟨m, hm1, hm2, rfl, hbr⟩ := hrel
        by_cases hlt : m < out.length
        · obtain ⟨p, hp⟩ : ∃ p, out[m - 1]? = some p := ⟨_, List.getElem?_eq_getElem (by omega)⟩
          obtain ⟨q, hq⟩ : ∃ q, out[m - 1 + 1]? = some q := ⟨_, List.getElem?_eq_getElem (by omega)⟩
          have hpq := HJ.out.rise hp hq
          rw [show m - 1 + 1 = m by omega] at hq
          obtain ⟨ap, cp, hvp, _, _, hp0, _⟩ := (hp6.below hbr).cells hp
          obtain ⟨aq, cq, hvq, _, _, hq0, _⟩ := (hp6.below hbr).cells hq
          injection hvp with hA _ hC
          injection hvq with hA' _ hC'
          subst hA hC
          obtain rfl : ap = aq := by simpa using hA'
          have hge : Op.bytesLess p.1 q.1 = true := by rw [bytesLess_eq]; exact decide_eq_true hpq
          have HP := Lib.hid hp
          have HQ := Lib.hid hq
          clear hp hq hpq hA' hC'
          go_wp2
          go_quiet (fail)
          go_wp2
          go_roundw
          case rel => exact ⟨m + 1, by omega, by omega, by go_num, below_draws hbr _⟩
          case measure => simp [intOf]; omega
        · have hdm : decide (m < out.length) = false := decide_eq_false hlt
          go_wp2
          clear hdm
          go_loopw [15] (fun i wr => ∃ m : Nat, m ≤ l.length ∧ i = .int .i64 m ∧ Below w2.heap.size w2 wr) (fun i _ => l.length - (intOf i).toNat)
          case atStart => exact ⟨0, by omega, rfl, hbr⟩
          case round =>
            obtain ⟨i, hi, rfl, hbi⟩ := hrel
            by_cases hil : i < l.length
            · obtain ⟨p, hp⟩ : ∃ p, l[i]? = some p := ⟨_, List.getElem?_eq_getElem hil⟩
              have hfound := HJ.out.found HOK.out (List.mem_of_getElem? hp)
              obtain ⟨ap, cp, hvp, _, hapb, hp0, hp1⟩ := HV.out.cells hp
              injection hvp with hA _ hC
              subst hA hC
              have HF := Lib.hid hfound
              have HP := Lib.hid hp
              clear hp hfound
              obtain ⟨wo, rfl⟩ : ∃ wo : World, wo = wr := ⟨_, rfl⟩
              go_wp2
              go_loopw [16, 17] (fun fd u wr => ∃ (j : Nat) (fb : Bool), j ≤ out.length ∧ u = .int .i64 j ∧ fd = .bool fb ∧ Below w2.heap.size w2 wr ∧ Hid (fb = false → ∀ (t : Nat) (q : Pt), t < j → out[t]? = some q → ¬ (q.1 = p.1 ∧ p.2 ≤ q.2))) (fun _ u _ => out.length - (intOf u).toNat)
              case atStart => exact ⟨0, false, by omega, rfl, rfl, hbi, Lib.hid (fun _ t q ht => absurd ht (by omega))⟩
              case round =>
                obtain ⟨j, fb, hj, rfl, rfl, hbj, HN⟩ := hrel
                by_cases hjl : j < out.length
                · obtain ⟨q, hq⟩ : ∃ q, out[j]? = some q := ⟨_, List.getElem?_eq_getElem hjl⟩
                  obtain ⟨aq, cq, hvq, _, _, hq0, hq1⟩ := (hp6.below hbj).cells hq
                  injection hvq with hA' _ hC'
                  subst hA' hC'
                  have HQ := Lib.hid hq
                  clear hq
                  have hp0' : wr.cell? (ap.add (i * 2)) = some (encStr p.1) := ((hbw.trans (hbj.mono hbw.size)).cell (p := ap.add (i * 2)) (by rw [addr_block]; exact hapb)).trans hp0
                  have hp1' : wr.cell? ⟨(ap.add (i * 2)).block, (ap.add (i * 2)).off + 1, none⟩ = some (.int .i64 p.2) := ((hbw.trans (hbj.mono hbw.size)).cell (p := ⟨(ap.add (i * 2)).block, (ap.add (i * 2)).off + 1, none⟩) (by show (ap.add (i * 2)).block < _; rw [addr_block]; exact hapb)).trans hp1
                  cases fb
                  · by_cases hit : q.1 = p.1
                    · have hb1 : (q.1 == p.1) = true := by simpa using hit
                      have hb2 : decide (q.1 = p.1) = true := decide_eq_true hit
                      have HIT := Lib.hid hit
                      clear hit
                      by_cases hqt : p.2 ≤ q.2
                      · have hb3 : decide (p.2 ≤ q.2) = true := decide_eq_true hqt
                        go_wp2
                        go_quiet (fail)
                        go_wp2
                        go_roundw
                        case rel => exact ⟨j + 1, true, by omega, by go_num, rfl, below_draws hbj _, Lib.hid (fun h => by cases h)⟩
                        case measure => simp [intOf]; omega
                      · have hb3 : decide (p.2 ≤ q.2) = false := decide_eq_false hqt
                        go_wp2
                        go_quiet (fail)
                        go_wp2
                        go_roundw
                        case rel => exact ⟨j + 1, false, by omega, by go_num, rfl, below_draws hbj _, Lib.hid (fun _ t r ht hr => by
                          rcases Nat.lt_or_ge t j with h | h
                          · exact HN.out trivial t r h hr
                          · obtain rfl : t = j := by omega
                            rw [HQ.out] at hr
                            cases hr
                            exact fun h => absurd h.2 (by omega))⟩
                        case measure => simp [intOf]; omega
                    · have hb1 : (q.1 == p.1) = false := by simpa using hit
                      have hb2 : decide (q.1 = p.1) = false := decide_eq_false hit
                      have HIT := Lib.hid hit
                      clear hit
                      go_wp2
                      go_quiet (fail)
                      go_wp2
                      go_roundw
                      case rel => exact ⟨j + 1, false, by omega, by go_num, rfl, below_draws hbj _, Lib.hid (fun _ t r ht hr => by
                        rcases Nat.lt_or_ge t j with h | h
                        · exact HN.out trivial t r h hr
                        · obtain rfl : t = j := by omega
                          rw [HQ.out] at hr
                          cases hr
                          exact fun h => HIT.out h.1)⟩
                      case measure => simp [intOf]; omega
                  · go_wp2
                    go_quiet (fail)
                    go_wp2
                    go_roundw
                    case rel => exact ⟨j + 1, true, by omega, by go_num, rfl, below_draws hbj _, Lib.hid (fun h => by cases h)⟩
                    case measure => simp [intOf]; omega
                · obtain rfl : j = out.length := by omega
                  have hft : fb = true := by
                    cases fb
                    · obtain ⟨t, q, hq, h1, h2⟩ := HF.out
                      exact absurd ⟨h1, h2⟩ (HN.out rfl t q (List.getElem?_eq_some_iff.1 hq).1 hq)
                    · rfl
                  subst hft
                  go_wp2
                  go_roundw
                  case rel => exact ⟨i + 1, by omega, by go_num, hbj⟩
                  case measure => simp [intOf]; omega
            · obtain rfl : i = l.length := by omega
              have hs6 : Hid (Sized out) := Lib.hid (HJ.out.sized HOK.out HS.out)
              have hok6 : Hid (JoinOk out) := Lib.hid (HJ.out.ok HOK.out)
              have hj6 : Hid (IsJoin out out) := Lib.hid HJ.out.self
              go_wp2_with (first
                | (go_at_call 20; ((with_reducible refine (join1_yes out _ rfl (hp6.at_ hbi) hs6.out (by omega) hok6.out hj6.out).mono ?_); rintro e w7 ⟨v7, rfl, hp7, hb7⟩))
                | (go_at_call 21; ((with_reducible refine (same_yes out _ _ _ ((hp6.at_ hbi).at_ hb7) hp7 (by omega)).mono ?_); rintro e w8 ⟨rfl, hb8⟩)))
              go_ret
              exact ⟨rfl, hbw.trans (((hbi.trans (hb7.mono hbi.size)).trans (hb8.mono (Nat.le_trans hbi.size hb7.size))).mono hbw.size)⟩
  · go_wp2
    go_ret
    exact ⟨rfl, hb1.alloc hb1.size _⟩
end Go.Proofs.Ytmjhldagmmpnjaa
