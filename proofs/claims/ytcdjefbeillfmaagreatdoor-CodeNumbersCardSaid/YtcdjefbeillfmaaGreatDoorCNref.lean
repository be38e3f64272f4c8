/- The contract of the reference's Number. -/
import Derived.Test.YtcdjefbeillfmaaGreatDoorCNum
import Derived.Deep.DeepCutAuto
namespace Go.Proofs.YtcdjefbeillfmaaGreatDoor
open Go.ChangeShapes Go.WideShapes Go.ChangeAt Go.RowKit Go.Shelf Go.Sort
set_option linter.unusedVariables false

theorem head_list (s : ByteArray) (h : 0 < s.size) : s.data.toList.head? = some s[0] := by
  rw [List.head?_eq_getElem?]; exact get_list s 0 h
theorem extract_tail (s : ByteArray) (h : 0 < s.size) : (s.extract 1 s.size).data.toList = s.data.toList.tail := by
  rw [Lib.extract_data, ← List.drop_one, List.take_of_length_le]
  rw [List.length_drop, size_list]
  omega

set_option maxRecDepth 100000 in
set_option maxHeartbeats 4000000 in
theorem rnumber_any (s : ByteArray) (w : World) (hs : s.size ≤ 140737488355328) :
    Calls Tryz.prog 26 #[.string s] w fun e w' => e = .returned (.tuple #[.int .i64 (numV s.data.toList), .bool (numB s.data.toList)]) ∧ w = w' := by
  go_enter Tryz.func26, Tryz.ntmps26
  go_upto_region 1 with (fail)
  go_cut [4] (fun v wx => v = .bool (negL s.data.toList) ∧ w = wx)
  case first =>
    by_cases h0 : 0 < s.size
    · by_cases h45 : s[0] = 45
      · have hq : (((s[0]'h0).toNat : Int) == 45) = true := by rw [h45]; rfl
        have hn : negL s.data.toList = true := by simp [negL, head_list s h0, h45]
        have H45 := Lib.hid h45
        have HN := Lib.hid hn
        clear h45 hn
        go_wp2
        go_meet
        exact ⟨by rw [HN.out], rfl⟩
      · have hq : (((s[0]'h0).toNat : Int) == 45) = false := by
          simp only [beq_eq_false_iff_ne, ne_eq]
          intro e
          exact h45 (UInt8.toNat_inj.1 (by show _ = 45; omega))
        have hn : negL s.data.toList = false := by simp [negL, head_list s h0, h45]
        have H45 := Lib.hid h45
        have HN := Lib.hid hn
        clear h45 hn
        go_wp2
        go_meet
        exact ⟨by rw [HN.out], rfl⟩
    · have hz : s.size = 0 := by omega
      obtain rfl := list_nil hz
      go_wp2
      go_meet
      exact ⟨rfl, rfl⟩
  case rest =>
    obtain ⟨rfl, rfl⟩ := hcut
    obtain ⟨neg, hneg⟩ : ∃ b, negL s.data.toList = b := ⟨_, rfl⟩
    rw [hneg]
    have HNEG := Lib.hid hneg
    clear hneg
    go_upto_if 17 with (fail)
    go_cut [5] (fun v wx => ∃ d : ByteArray, v = .string d ∧ w = wx ∧ Hid (d.data.toList = digsL s.data.toList) ∧ d.size ≤ s.size)
    case first =>
      cases neg
      · go_wp2
        go_meet
        exact ⟨s, rfl, rfl, Lib.hid (by simp [digsL, HNEG.out]), Nat.le_refl _⟩
      · have h0 : 0 < s.size := by
          rcases Nat.eq_zero_or_pos s.size with h | h
          · obtain rfl := list_nil h
            have := HNEG.out
            simp [negL] at this
          · exact h
        go_wp2
        go_meet
        exact ⟨_, rfl, rfl, Lib.hid (by rw [extract_tail s h0]; simp [digsL, HNEG.out]), by simp [ByteArray.size_extract]⟩
    case rest =>
      obtain ⟨d, rfl, rfl, HD, hds⟩ := hcut
      have hhead : ∀ h : 0 < d.size, (digsL s.data.toList).head? = some d[0] := fun h => by rw [← HD.out]; exact head_list d h
      have HH := Lib.hid hhead
      clear hhead
      by_cases d0 : d.size = 0
      · have hno : numL s.data.toList = none := num_no (.inl (by rw [← HD.out]; obtain rfl := list_nil d0; rfl))
        have HNO := Lib.hid hno
        obtain rfl := list_nil d0
        clear hno d0
        go_wp2
        go_ret2
        exact ⟨ret_ib (by simp [numV, HNO.out]) (by simp [numB, HNO.out]), rfl⟩
      · have hz : ((d.size : Int) == 0) = false := beq_eq_false_iff_ne.2 (by omega)
        by_cases d19 : 19 < d.size
        · have hno : numL s.data.toList = none := num_no (.inr (.inl (by rw [← HD.out, size_list]; exact d19)))
          have HNO := Lib.hid hno
          have D0 := Lib.hid d0
          clear hno d0
          go_wp2
          go_ret2
          exact ⟨ret_ib (by simp [numV, HNO.out]) (by simp [numB, HNO.out]), rfl⟩
        · have hp : 0 < d.size := by omega
          have hd19 : decide (19 < (d.size : Int)) = false := decide_eq_false (by omega)
          have hh := HH.out hp
          by_cases h48 : d[0] = 48 ∧ (1 < d.size ∨ neg = true)
          · have hno : numL s.data.toList = none := by
              by_cases hn : neg = true
              · exact num_no (.inr (.inr ⟨by rw [HNEG.out, hn], by rw [hh, h48.1]⟩))
              · refine num_no (.inl ?_)
                have h1 : 1 < d.size := by rcases h48.2 with h | h; exact h; exact absurd h hn
                simp only [plainD, hh, h48.1]
                rw [← HD.out, size_list]
                have : decide (d.size = 1) = false := decide_eq_false (by omega)
                simp [this]
            have hq : (((d[0]'hp).toNat : Int) == 48) = true := by rw [h48.1]; rfl
            have HNO := Lib.hid hno
            have D0 := Lib.hid d0
            rcases h48.2 with h | h
            · have hd1 : decide (1 < (d.size : Int)) = true := decide_eq_true (by omega)
              have H48 := Lib.hid h48
              clear hno d0 h48 hh
              go_wp2
              go_ret2
              exact ⟨ret_ib (by simp [numV, HNO.out]) (by simp [numB, HNO.out]), rfl⟩
            · have H48 := Lib.hid h48
              subst h
              clear hno d0 h48 hh
              by_cases hd1 : decide (1 < (d.size : Int)) = true
              · go_wp2
                go_ret2
                exact ⟨ret_ib (by simp [numV, HNO.out]) (by simp [numB, HNO.out]), rfl⟩
              · have hd1 : decide (1 < (d.size : Int)) = false := by simpa using hd1
                go_wp2
                go_ret2
                exact ⟨ret_ib (by simp [numV, HNO.out]) (by simp [numB, HNO.out]), rfl⟩
          · have hpl : neg = true → (digsL s.data.toList).head? ≠ some 48 := fun hn e => h48 ⟨by rw [hh] at e; injection e, .inr hn⟩
            have hpd : (∀ c ∈ digsL s.data.toList, digB c = true) → plainD (digsL s.data.toList) = true := fun ha => by
              have hl : (digsL s.data.toList).length = d.size := by rw [← HD.out, size_list]
              have : decide (d[0] ≠ 48) = true ∨ decide (d.size = 1) = true := by
                by_cases e : d[0] = 48
                · right
                  have : ¬ 1 < d.size := fun h => h48 ⟨e, .inl h⟩
                  exact decide_eq_true (by omega)
                · exact .inl (decide_eq_true e)
              simp only [plainD, Bool.and_eq_true, Bool.or_eq_true, hl, hh, List.all_eq_true]
              exact ⟨⟨decide_eq_true hp, ha⟩, by rcases this with h | h; exact .inl (by simpa using h); exact .inr h⟩
            have HPL := Lib.hid hpl
            have HPD := Lib.hid hpd
            have hq1 : (((d[0]'hp).toNat : Int) == 48) = true → decide (1 < (d.size : Int)) = false ∧ neg = false := fun e => by
              have e48 : d[0] = 48 := UInt8.toNat_inj.1 (by show _ = 48; have := beq_iff_eq.1 e; omega)
              refine ⟨decide_eq_false (fun h => h48 ⟨e48, .inl (by omega)⟩), ?_⟩
              cases neg with
              | false => rfl
              | true => exact absurd ⟨e48, .inr rfl⟩ h48
            have HQ1 := Lib.hid hq1
            have D0 := Lib.hid d0
            have H48 := Lib.hid h48
            clear hpl hpd hq1 hh d0 h48
            go_upto_region 5 with (fail)
            go_cut [40] (fun v wx => v = .bool false ∧ w = wx)
            case first =>
              by_cases hq : (((d[0]'hp).toNat : Int) == 48) = true
              · obtain ⟨hd1, rfl⟩ := HQ1.out hq
                go_wp2
                go_meet
                exact ⟨rfl, rfl⟩
              · have hq : (((d[0]'hp).toNat : Int) == 48) = false := by simpa using hq
                go_wp2
                go_meet
                exact ⟨rfl, rfl⟩
            case rest =>
              obtain ⟨rfl, rfl⟩ := hcut
              go_wp2
              go_loop [6, 7] (fun n i => ∃ (k N : Nat), k ≤ d.size ∧ i = .int .i64 k ∧ n = .int .u64 N ∧ Hid (N = dval 0 (d.data.toList.take k)) ∧ Hid (∀ c ∈ d.data.toList.take k, digB c = true)) (fun _ i => d.size - (intOf i).toNat)
              case atStart => exact ⟨0, 0, Nat.zero_le _, rfl, rfl, Lib.hid (by rw [List.take_zero, dval_nil]), Lib.hid (by simp)⟩
              case round =>
                obtain ⟨k, N, hk, rfl, rfl, HNN, HDG⟩ := hrel
                by_cases hlt : k < d.size
                · have hc := get_list d k hlt
                  have htk : d.data.toList.take (k + 1) = d.data.toList.take k ++ [d[k]] := by rw [List.take_add_one, hc]; rfl
                  by_cases hdig : 48 ≤ (d[k]'hlt).toNat ∧ (d[k]'hlt).toNat ≤ 57
                  · have hN : N < 1000000000000000000 := by
                      have h := dval_lt (d.data.toList.take k) 0 0 HDG.out (by simp)
                      rw [← HNN.out, Nat.zero_add] at h
                      have h2 : (10 : Nat) ^ (d.data.toList.take k).length ≤ 10 ^ 18 := Nat.pow_le_pow_right (by decide) (by rw [List.length_take]; omega)
                      have e18 : (10 : Nat) ^ 18 = 1000000000000000000 := by decide
                      omega
                    have hnx : Hid (N * 10 + ((d[k]'hlt).toNat - 48) = dval 0 (d.data.toList.take (k + 1))) := Lib.hid (by rw [htk, dval_append, dval_cons, dval_nil, ← HNN.out])
                    have hdx : Hid (∀ c ∈ d.data.toList.take (k + 1), digB c = true) := Lib.hid (fun c hc2 => by
                      rw [htk] at hc2
                      rcases List.mem_append.1 hc2 with h | h
                      · exact HDG.out c h
                      · simp at h; subst h; simp [digB, hdig])
                    have hd1 : decide (((d[k]'hlt).toNat : Int) < 48) = false := decide_eq_false (by omega)
                    have hd2 : decide (57 < ((d[k]'hlt).toNat : Int)) = false := decide_eq_false (by omega)
                    clear hc htk
                    go_wp2
                    go_round
                    case rel => exact ⟨k + 1, N * 10 + ((d[k]'hlt).toNat - 48), by omega, by go_num, by congr 1; omega, hnx, hdx⟩
                    case measure => simp [intOf]; omega
                  · have hno : numL s.data.toList = none := num_no (.inl (by
                      cases e : plainD (digsL s.data.toList) with
                      | false => rfl
                      | true =>
                        exfalso
                        have := digB_parts (plain_digs e d[k] (by rw [← HD.out]; exact List.mem_of_getElem? hc))
                        exact hdig this))
                    have HNO := Lib.hid hno
                    have HDI := Lib.hid hdig
                    clear hno hc htk hdig
                    by_cases h1 : ((d[k]'hlt).toNat : Int) < 48
                    · go_wp2
                      go_ret2
                      exact ⟨ret_ib (by simp [numV, HNO.out]) (by simp [numB, HNO.out]), rfl⟩
                    · have h2 : 57 < ((d[k]'hlt).toNat : Int) := by have := HDI.out; omega
                      go_wp2
                      go_ret2
                      exact ⟨ret_ib (by simp [numV, HNO.out]) (by simp [numB, HNO.out]), rfl⟩
                · obtain rfl : k = d.size := by omega
                  have hall : d.data.toList.take d.size = d.data.toList := List.take_of_length_le (by rw [size_list]; exact Nat.le_refl _)
                  have hD2 : ∀ c ∈ d.data.toList, digB c = true := by have := HDG.out; rwa [hall] at this
                  have hpp : plainD (digsL s.data.toList) = true := HPD.out (by rw [← HD.out]; exact hD2)
                  have hN2 : N = dval 0 (digsL s.data.toList) := by rw [HNN.out, hall, HD.out]
                  have hl19 : (digsL s.data.toList).length ≤ 19 := by rw [← HD.out, size_list]; omega
                  have hNb : N < 10000000000000000000 := by
                    have h := dval_lt (digsL s.data.toList) 0 0 (plain_digs hpp) (by simp)
                    rw [← hN2, Nat.zero_add] at h
                    have h2 : (10 : Nat) ^ (digsL s.data.toList).length ≤ 10 ^ 19 := Nat.pow_le_pow_right (by decide) hl19
                    have e19 : (10 : Nat) ^ 19 = 10000000000000000000 := by decide
                    omega
                  have hres : Hid (numL s.data.toList = if neg = true then (if N ≤ 9223372036854775808 then some (-((N : Nat) : Int)) else none) else (if N < 9223372036854775808 then some ((N : Nat) : Int) else none)) := Lib.hid (by
                    cases neg with
                    | false =>
                      have e : digsL s.data.toList = s.data.toList := by simp [digsL, HNEG.out]
                      rw [e] at hpp hl19 hN2
                      rw [num_pos HNEG.out hpp hl19, ← hN2]
                      simp
                    | true =>
                      have e : digsL s.data.toList = s.data.toList.tail := by simp [digsL, HNEG.out]
                      have e2 : s.data.toList = 45 :: s.data.toList.tail := by
                        have := HNEG.out
                        simp only [negL, decide_eq_true_eq] at this
                        cases hl : s.data.toList with
                        | nil => rw [hl] at this; simp at this
                        | cons c r => rw [hl] at this; simp at this; rw [this]; rfl
                      have hh := HPL.out rfl
                      rw [e] at hpp hl19 hN2 hh
                      rw [e2, num_neg hpp hl19 hh, ← hN2]
                      simp)
                  have HNB := Lib.hid hNb
                  clear hall hD2 hpp hN2 hl19 hNb
                  cases neg
                  · generalize hM : (9223372036854775808 : Int) = M at *
                    have HM := Lib.hid hM
                    clear hM
                    go_upto_region 17 with (fail)
                    · have hb : (N : Int) < M := by assumption
                      have hb2 : (N : Int) ≤ 9223372036854775807 := by have := HM.out; omega
                      have hn : Hid (numL s.data.toList = some ((N : Nat) : Int)) := Lib.hid (by
                        rw [hres.out, if_neg (by simp), if_pos (by omega)])
                      go_wp2
                      go_ret2
                      exact ⟨ret_ib (by simp [numV, hn.out]) (by simp [numB, hn.out]), rfl⟩
                    · have hb : ¬ (N : Int) < M := by omega
                      have hn : Hid (numL s.data.toList = none) := Lib.hid (by
                        rw [hres.out, if_neg (by simp), if_neg (by have := HM.out; omega)])
                      go_ret2
                      exact ⟨ret_ib (by simp [numV, hn.out]) (by simp [numB, hn.out]), rfl⟩
                  · generalize hM : (9223372036854775808 : Int) = M at *
                    have HM := Lib.hid hM
                    clear hM
                    go_upto_region 15 with (fail)
                    · have hb : (N : Int) ≤ M := by assumption
                      have hn : Hid (numL s.data.toList = some (-((N : Nat) : Int))) := Lib.hid (by
                        rw [hres.out, if_pos (by trivial), if_pos (by have := HM.out; omega)])
                      have hw : Hid (wrap64 (IntKind.u64.wrap (-(N : Int))) = -((N : Nat) : Int)) := Lib.hid (by
                        have := HM.out
                        have := HNB.out
                        rw [IntKind.wrap_u64, wrap64]; omega)
                      go_wp2
                      go_ret2
                      exact ⟨ret_ib (by rw [hw.out]; simp [numV, hn.out]) (by simp [numB, hn.out]), rfl⟩
                    · have hb : ¬ (N : Int) ≤ M := by omega
                      have hn : Hid (numL s.data.toList = none) := Lib.hid (by
                        rw [hres.out, if_pos (by trivial), if_neg (by have := HM.out; omega)])
                      go_ret2
                      exact ⟨ret_ib (by simp [numV, hn.out]) (by simp [numB, hn.out]), rfl⟩
end Go.Proofs.YtcdjefbeillfmaaGreatDoor
