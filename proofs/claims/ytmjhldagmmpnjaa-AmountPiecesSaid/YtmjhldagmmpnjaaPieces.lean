/- The law AmountPieces: parts joined in whatever cut and order; walks. -/
import Derived.Test.YtmjhldagmmpnjaaJoins
import Derived.Test.YtmjhldagmmpnjaaTwo
import Derived.Deep.RegionWith
import Derived.Deep.DeepCutAuto
namespace Go.Proofs.Ytmjhldagmmpnjaa
open Go.ChangeShapes Go.WideShapes Go.ChangeAt Go.RowKit Go.Maps
set_option linter.unusedVariables false

theorem PSl.at_ {w W : World} {v : Value} {l : List Pt} (h : PSl w w.heap.size v l) (hb : Below w.heap.size w W) : PSl W W.heap.size v l := (h.below hb).mono hb.size
theorem joinOk_perm_iff {l m : List Pt} (h : l.Perm m) : JoinOk l ↔ JoinOk m := ⟨fun h' => h'.perm h, fun h' => h'.perm h.symm⟩
theorem cut_perm (l : List Pt) (k : Nat) : ([l.drop k, [], l.take k] : List (List Pt)).flatten.Perm l := by
  simp only [List.flatten_cons, List.flatten_nil, List.append_nil, List.nil_append]
  exact List.perm_append_comm.trans (by rw [List.take_append_drop])

set_option maxRecDepth 100000 in
set_option maxHeartbeats 4000000 in
theorem pieces_no (A : Option Addr) (c : Nat) (l : List Pt) (x : Int) (w : World) (hv : PSl w w.heap.size (.slice A l.length c) l) (hs : Sized l) (hlen : l.length ≤ 140737488355328) (hx1 : -9223372036854775808 ≤ x) (hx2 : x ≤ 9223372036854775807)
    (hno : ¬ JoinOk l) : Calls Try.prog 6 #[.slice A l.length c, .int .i64 x] w fun e w' => e = .returned (.bool true) ∧ Below w.heap.size w w' := by
  have HS : Hid (Sized l) := Lib.hid hs
  have HNO := Lib.hid hno
  have HV := Lib.hid hv
  clear hs hno hv
  go_enter Try.func6, Try.ntmps6
  go_wp2_with (first
    | (go_at_call 13; ((with_reducible refine (awake_any _).mono ?_); rintro e w1 ⟨rfl, hb1⟩))
    | (go_at_call 18; fail))
  refine (great_n (n := 1) (c := 1) (ls := [l]) rfl (rows1 w1 _ l 34 (HV.out.at_ hb1)) (by rw [flat1]; exact HS.out) (by simp) (by simpa using hlen)).mono ?_
  rintro e w' ⟨b, rfl, rfl, hfew⟩
  cases b
  · have hl300 : l.length ≤ 300 := by have := (hfew rfl).1; simpa using this
    clear hfew hlen
    have hs1 : w.heap.size ≤ w1.heap.size := hb1.size
    go_wp2_with (first
      | (go_at_call 19; ((with_reducible refine (pick_n x (l.length + 1) _ _ (by omega) (by omega) (by omega) hx1 hx2).mono ?_); rintro e w' ⟨k, hk, rfl, rfl⟩))
      | (go_at_call 20; ((with_reducible refine (join1_no _ (by simp) (HV.out.at_ (hb1.alloc hb1.size _)) HS.out (by omega) HNO.out).mono ?_); rintro e w2 ⟨rfl, hb2⟩)))
    have hbw : Below w.heap.size w w2 := (hb1.alloc hb1.size _).trans (hb2.mono (by simp only [World.size_alloc]; omega))
    clear hb2
    have hcap : l.length ≤ c := by obtain ⟨A', c', hvv, h1, _⟩ := HV.out; injection hvv with _ _ e; omega
    have hcap2 : c ≤ 9223372036854775807 := by obtain ⟨A', c', hvv, _, h2, _⟩ := HV.out; injection hvv with _ _ e; unfold maxLen at h2; omega
    have hkl : k ≤ l.length := by omega
    have hp3 : (l.drop k ++ ([] ++ l.take k)).Perm l := by simpa using cut_perm l k
    have hno3 : Hid (¬ JoinOk (l.drop k ++ ([] ++ l.take k))) := Lib.hid (fun h => HNO.out (h.perm hp3))
    have hs3 : Hid (Sized (l.drop k ++ ([] ++ l.take k))) := Lib.hid (HS.out.sub (fun p hp => hp3.mem_iff.1 hp))
    have hl3 : (l.drop k ++ ([] ++ l.take k)).length ≤ 300 := by rw [hp3.length_eq]; exact hl300
    obtain ⟨A1, c1, hrun1, hps1⟩ := cut_from A c l k hkl
    obtain ⟨A2, c2, hrun2, hps2⟩ := cut_to A c l k (by omega) hkl
    have HP1 := Lib.hid hps1
    have HP2 := Lib.hid hps2
    have HP3 := Lib.hid hp3
    clear hp3 hps1 hps2
    go_cut [8, 9] (fun v is wx => v = .slice none 0 0 ∧ is = .bool false ∧ Below w.heap.size w wx)
    case first =>
      go_region_with (first
        | (go_at_call 20; ((with_reducible refine (join3_no_d (l.drop k) [] (l.take k) _ rfl (HP1.out _ _ (HV.out.at_ hbw)) PSl.nil (HP2.out _ _ (HV.out.at_ hbw)) hs3.out (by omega) hno3.out).mono ?_); rintro e w3 ⟨rfl, hb3⟩)))
      all_goals (go_wp2; go_meet; exact ⟨rfl, rfl, below_draws (hbw.trans (hb3.mono hbw.size)) 0⟩)
    case rest =>
      obtain ⟨rfl, rfl, hbc⟩ := hcut
      go_wp2_with (first
        | (go_at_call 21; ((with_reducible refine (same_yes [] _ _ _ PSl.nil PSl.nil (by simp)).mono ?_); rintro e w4 ⟨rfl, hb4⟩))
        | (go_at_call 20; ((with_reducible refine (join1_bool _ (by simp) (HP2.out _ _ (HV.out.at_ (hbc.trans (hb4.mono hbc.size)))) (HS.out.sub (fun p hp => List.mem_of_mem_take hp)) (by rw [List.length_take]; omega)).mono ?_); rintro e w5 ⟨v5, b5, rfl, hb5, hbw5⟩)))
      have hb5' : Below w.heap.size w w5 := (hbc.trans (hb4.mono hbc.size)).trans (hbw5.mono (Nat.le_trans hbc.size hb4.size))
      have hperm : (l.drop k ++ (l.take k ++ [([65], 0)])).Perm (l ++ [([65], 0)]) := by
        rw [← List.append_assoc]
        exact (List.perm_append_comm.trans (by rw [List.take_append_drop])).append_right _
      have hno4 : Hid (¬ JoinOk (l.drop k ++ (l.take k ++ [([65], 0)]))) := Lib.hid (fun h => HNO.out (h.perm hperm).left)
      have hs4 : Hid (Sized (l.drop k ++ (l.take k ++ [([65], 0)]))) := Lib.hid (Sized.sub (l := l ++ [([65], 0)]) (HS.out.app (fun p hp => by simp only [List.mem_singleton] at hp; subst hp; simp [maxLen])) (fun p hp => hperm.mem_iff.1 hp))
      have hl4 : (l.drop k ++ (l.take k ++ [(([65] : List UInt8), (0 : Int))])).length ≤ 301 := by rw [hperm.length_eq]; simp; omega
      have HPM := Lib.hid hperm
      clear hperm hbc hb4 hbw5
      go_cut [13] (fun is wx => is = .bool false ∧ Below w.heap.size w wx)
      case first =>
        have hz : Below w.heap.size w (w5.alloc (.cells #[.string ⟨#[65]⟩, .int .i64 0] 41)) := hb5'.alloc hb5'.size _
        have h3 : Hid (PSl (w5.alloc (.cells #[.string ⟨#[65]⟩, .int .i64 0] 41)) (w5.alloc (.cells #[.string ⟨#[65]⟩, .int .i64 0] 41)).heap.size (.slice (some ⟨w5.heap.size, 0, none⟩) 1 1) [([65], 0)]) :=
          Lib.hid (PSl.mono (B := w5.heap.size + 1) ⟨some ⟨w5.heap.size, 0, none⟩, 1, rfl, Nat.le_refl _, by simp [maxLen], fun h => (by cases h), Lies.fresh w5 #[.string ⟨#[65]⟩, .int .i64 0] 41 _ rfl⟩ (by simp))
        go_region_with (first
          | (go_at_call 20; ((with_reducible refine (join3_no_d (l.drop k) (l.take k) [([65], 0)] _ (by simp) (HP1.out _ _ (HV.out.at_ hz)) (HP2.out _ _ (HV.out.at_ hz)) h3.out hs4.out (by omega) hno4.out).mono ?_); rintro e w6 ⟨rfl, hb6⟩)))
        all_goals (go_wp2; go_meet; exact ⟨rfl, below_draws (hz.trans (hb6.mono hz.size)) 0⟩)
      case rest =>
        obtain ⟨rfl, hbd⟩ := hcut
        by_cases hk0 : k = 0
        · subst hk0
          have hb5t := hb5 (by simpa using joinOk_nil)
          subst hb5t
          go_wp2
          go_ret
          exact ⟨rfl, hbd⟩
        · have hkp : decide ((0 : Int) < (k : Int)) = true := decide_eq_true (by omega)
          have hkp2 : decide (0 < k) = true := decide_eq_true (by omega)
          clear hb5
          cases b5
          all_goals (go_wp2; go_ret; exact ⟨rfl, hbd⟩)
  · go_wp2
    go_ret
    exact ⟨rfl, hb1.alloc hb1.size _⟩
end Go.Proofs.Ytmjhldagmmpnjaa
