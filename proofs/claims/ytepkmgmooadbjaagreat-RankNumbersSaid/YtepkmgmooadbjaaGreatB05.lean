/- storemankit.flatLines: lists of parts that lie apart are told so. -/
import Derived.Deep.RegionWith
import Derived.Deep.DeepCutAuto
import Derived.Test.YtepkmgmooadbjaaGreatB04
namespace Go.Proofs.YtepkmgmooadbjaaGreat
open Go.ChangeShapes Go.WideShapes Go.ChangeAt Go.RowKit Go.Maps Go.Sort
set_option linter.unusedVariables false

theorem marklM_any (k i M : Int) (w : World) (hM : 1000003 * (k + 7) + i = M) (h0 : 0 ≤ k) (h1 : k ≤ 1000000) (h2 : 0 ≤ i) (h3 : i ≤ 1099511627776) :
    Calls Tryz.prog 20 #[.int .i64 k, .int .i64 i] w fun e w' => e = .returned (.agg #[.int .i64 M, .string ⟨#[]⟩, .int .i64 0, .int .i64 0, .int .i64 0, .int .u8 0, .int .i64 0, .string ⟨#[]⟩]) ∧ w.alloc (.cells #[.int .i64 M, .string ⟨#[]⟩, .int .i64 0, .int .i64 0, .int .i64 0, .int .u8 0, .int .i64 0, .string ⟨#[]⟩] 37) = w' := by
  subst hM; exact markl_any k i w h0 h1 h2 h3
theorem infoSl : (Tryz.prog.info? 22).map (fun i => (i.zero, i.size, i.bytes)) = some (some (.slice none 0 0), 1, 24) := by kernel_rfl

set_option maxRecDepth 100000 in
set_option maxHeartbeats 16000000 in
theorem flatl_any (K go co bo base B0 : Nat) (val : Nat → Value) (len : Nat → Nat) (X0 : Nat → List Value) (w : World) (hK1 : 0 < K) (hK : K ≤ 1000) (hlen : ∀ j, j < K → len j ≤ 1048576)
    (hO : OwnC w bo 22 1 (.slice (some ⟨go, 0, none⟩) K co) K (listOf K val)) (hF : Fam w base K val len X0) (hLone : Lone K val) (hB : B0 ≤ base) (hBw : B0 ≤ w.heap.size) (hbw : base ≤ w.heap.size) :
    Calls Tryz.prog 50 #[.slice (some ⟨go, 0, none⟩) K co] w fun e w' => e = .returned (.bool true) ∧ Kept2 B0 w w' := by
  obtain ⟨i0, hi, hz0, hz1, hz2⟩ := info_parts infoLot
  have H1 := Lib.hid hi
  have H2 := Lib.hid hz0
  have H3 := Lib.hid hz1
  have H4 := Lib.hid hz2
  have HLEN := Lib.hid hlen
  have HF := Lib.hid hF
  have HLO := Lib.hid hLone
  have HO := Lib.hid hO
  obtain ⟨i1, hi1, hy0, hy1, hy2⟩ := info_parts infoSl
  have I1 := Lib.hid hi1
  have I2 := Lib.hid hy0
  have I3 := Lib.hid hy1
  have I4 := Lib.hid hy2
  clear hi hz0 hz1 hz2 hlen hF hLone hO hi1 hy0 hy1 hy2
  go_enter Tryz.func50, Tryz.ntmps50
  go_wp2
  go_loopw [3] (fun i wr => ∃ (k : Nat) (X : Nat → List Value), k ≤ K ∧ i = .int .i64 k ∧ Hid (Fam wr base K val len X) ∧ Hid (∀ j, j < k → X j = lcells (marksL j (len j))) ∧ Hid (OwnC wr bo 22 1 (.slice (some ⟨go, 0, none⟩) K co) K (listOf K val)) ∧ Kept2 B0 w wr)
    (fun i _ => K - (intOf i).toNat)
  case atStart => exact ⟨0, X0, Nat.zero_le _, rfl, HF, Lib.hid (fun j hj => absurd hj (by omega)), HO, Kept2.refl hBw⟩
  case round =>
    obtain ⟨k, X, hk, rfl, HFX, HX, HOr, hbr⟩ := hrel
    by_cases hlt : k < K
    · have hlk := HLEN.out k hlt
      have hck := (HOr.out.cellAt k (by omega)).trans (listOf_get val hlt)
      have hgo := (HOr.out.lt go rfl).2
      obtain ⟨Ak, ck, hvk, hk1, hk2, _⟩ := own_formC (HFX.out k hlt)
      rw [hvk] at hck
      have HVK := Lib.hid hvk
      clear hvk
      obtain ⟨wo, rfl⟩ : ∃ wo : World, wo = wr := ⟨_, rfl⟩
      go_wp2
      go_loopw [4] (fun i wr => ∃ (m : Nat) (X : Nat → List Value), m ≤ len k ∧ i = .int .i64 m ∧ Hid (Fam wr base K val len X) ∧ Hid (∀ j, j < k → X j = lcells (marksL j (len j))) ∧ Hid ((X k).take (m * 8) = lcells (marksL k m)) ∧ Hid (OwnC wr bo 22 1 (.slice (some ⟨go, 0, none⟩) K co) K (listOf K val)) ∧ Kept2 B0 w wr)
        (fun i _ => len k - (intOf i).toNat)
      case atStart => exact ⟨0, X, Nat.zero_le _, rfl, HFX, HX, Lib.hid (by simp [marksL, lcells]), HOr, hbr⟩
      case round =>
        clear hck
        obtain ⟨m, Y, hm, rfl, HFY, HY, HYK, HOY, hby⟩ := hrel
        have hck := (HOY.out.cellAt k (by omega)).trans (listOf_get val hlt)
        rw [HVK.out] at hck
        have hgo2 := (HOY.out.lt go rfl).2
        by_cases hml : m < len k
        · skip
          obtain ⟨g, cap, hv, hbg, hgl, hnc, hcm⟩ := own_some (HFY.out k hlt) (by omega)
          have hAk : Ak = some ⟨g, 0, none⟩ ∧ ck = cap := by have := HVK.out; rw [hv] at this; injection this with e1 e2 e3; exact ⟨e1.symm, e3.symm⟩
          obtain ⟨rfl, rfl⟩ := hAk
          clear hv
          have hrow := HFY.out k hlt
          rw [HVK.out] at hrow
          have hyl := hrow.1
          obtain ⟨M, hM⟩ : ∃ M : Int, 1000003 * ((k : Int) + 7) + (m : Int) = M := ⟨_, rfl⟩
          have HMM := Lib.hid hM
          have hgo : (Value.slice (some ⟨go, 0, none⟩) K co).ownBlock ≠ some g := own_ne hrow HOY.out (by decide) rfl
          have hng : go ≠ g := fun e => hgo (by rw [e]; rfl)
          have hth : wr.there g (m * 8) 8 := fun j hj => ⟨by rw [hrow.cellAt (m * 8 + j) (by omega), List.getElem?_eq_getElem (by omega)]; rfl, hrow.frozenAt _⟩
          have HTH := Lib.hid hth
          have hst := flat_storeN HFY.out HLO.out HOY.out hlt HVK.out hml hM.symm (.cells (markV M).toArray 37) HYK.out HY.out
          have HST := Lib.hid hst
          have HROW := Lib.hid hrow
          have hmI : (m : Int) < (len k : Int) := by omega
          have hkI : (k : Int) < (K : Int) := by omega
          clear hyl hrow hM hst hth hgo
          go_upto_region 7 with (fail)
          refine wp_region_held_drew (S := fun w' => w'.cell? ⟨go, k, none⟩ = some (.slice (some ⟨g, 0, none⟩) (len k) ck)) (by kernel_rfl) (by first | exact hck | (simpa using hck)) (fun hS => ?_)
          refine wpAnyH_take (i := 0) (v := ((.slice (some ⟨go, 0, none⟩) K co))) rfl (by kernel_rfl) (by kernel_rfl) (by kernel_rfl) (fun _ _ _ h => h) (Or.inl ⟨by kernel_rfl, fun w' hS' => by go_simp⟩) hS ?_
          refine wpAnyH_take (i := 1) (v := ((.int .i64 (k : Int)))) rfl (by kernel_rfl) (by kernel_rfl) (by kernel_rfl) (fun _ _ _ h => h) (Or.inl ⟨by kernel_rfl, fun w' hS' => by go_simp⟩) hS ?_
          refine wpAnyH_take (i := 2) (v := ((.pointer (some ⟨go, k, none⟩)))) rfl (by kernel_rfl) (by kernel_rfl) (by kernel_rfl) (fun _ _ _ h => h) (Or.inl ⟨by kernel_rfl, fun w' hS' => by go_simp; try (intro h; exact absurd h (by omega))⟩) hS ?_
          refine wpAnyH_take (i := 3) (v := ((.slice (some ⟨g, 0, none⟩) (len k) ck))) rfl (by kernel_rfl) (by kernel_rfl) (by kernel_rfl) (fun _ _ _ h => h) (Or.inl ⟨by kernel_rfl, fun w' hS' => by go_simp⟩) hS ?_
          refine wpAnyH_take (i := 4) (v := ((.int .i64 (m : Int)))) rfl (by kernel_rfl) (by kernel_rfl) (by kernel_rfl) (fun _ _ _ h => h) (Or.inl ⟨by kernel_rfl, fun w' hS' => by go_simp⟩) hS ?_
          refine wpAnyH_take (i := 5) (v := ((.int .i64 (k : Int)))) rfl (by kernel_rfl) (by kernel_rfl) (by kernel_rfl) (fun _ _ _ h => h) (Or.inl ⟨by kernel_rfl, fun w' hS' => by go_simp⟩) hS ?_
          refine wpAnyH_take (i := 6) (v := ((.int .i64 (m : Int)))) rfl (by kernel_rfl) (by kernel_rfl) (by kernel_rfl) (fun _ _ _ h => h) (Or.inl ⟨by kernel_rfl, fun w' hS' => by go_simp⟩) hS ?_
          refine wpAnyH_ready (rs := [7]) (by kernel_rfl) (by simp) ?_
          refine AllReadyH.cons rfl (fun K1 hK => ?_) AllReadyH.nil
          go_simp
          refine (marklM_any k m M _ HMM.out (by omega) (by omega) (by omega) (by omega)).mono ?_
          rintro e w1 ⟨rfl, rfl⟩
          refine hK.out _ _ (by rw [World.cell?_alloc_lt _ _ _ (World.block_lt_of_cell? _ _ hS)]; exact hS) (fun hS => ?_)
          clear hK K1
          refine wpAnyH_take (i := 8) (v := ((.pointer (some ⟨g, m * 8, none⟩)))) rfl (by kernel_rfl) (by kernel_rfl) (by kernel_rfl) (fun _ _ _ h => h) (Or.inl ⟨by kernel_rfl, fun w' hS' => by go_simp; try (intro h; exact absurd h (by omega))⟩) hS ?_
          refine wpAnyH_ready (rs := [9]) (by kernel_rfl) (by simp) ?_
          refine AllReadyH.cons rfl (fun K1 hK => ?_) AllReadyH.nil
          refine wp_store_mid 37 _ _ rfl g (m * 8) (markV M).toArray (by simp [Act.eval, Act.put]) (by simp [Act.eval, Act.put]) (World.there_alloc (by simpa using HTH.out) _) (by kernel_rfl) (markV_one M) ?_
          refine hK.out _ _ (by rw [World.cell?_setCells_out _ _ _ _ _ (fun h _ => absurd h hng)]; exact hS) (fun hS => ?_)
          clear hK K1
          refine wpAnyH_done (by kernel_rfl) ?_ _
          go_simp
          go_wp2
          go_roundw
          case rel =>
            obtain ⟨X', h1, h2, h3, h4⟩ := HST.out
            exact ⟨m + 1, X', by omega, by go_num, Lib.hid h1, Lib.hid h2, Lib.hid h3, Lib.hid h4, Kept2.setN _ ((hby.still (draws_none _ 1)).still (World.grownBy_alloc _ _ _)) ((HROW.out.drew).alloc _) (.inl rfl) (by omega) _⟩
          case measure => simp [intOf]; omega
        · skip
          obtain rfl : m = len k := by omega
          have hyl := (HFY.out k hlt).1
          have hfull : Y k = lcells (marksL k (len k)) := by have h := HYK.out; rwa [List.take_of_length_le (by omega)] at h
          have hnew : Hid (∀ j, j < k + 1 → Y j = lcells (marksL j (len j))) := Lib.hid (fun j hj => by
            by_cases e : j = k
            · subst e; exact hfull
            · exact HY.out j (by omega))
          clear hyl hfull
          go_wp2
          go_roundw
          case rel => exact ⟨k + 1, Y, by omega, by go_num, HFY, hnew, HOY, hby⟩
          case measure => simp [intOf]; omega
    · skip
      obtain rfl : k = K := by omega
      have hg30 : Hid (G3 wr base k 0 val len val) := Lib.hid ⟨fun j hj => by have := HFX.out j hj; rw [HX.out j hj] at this; exact this, fun i hi => absurd hi (by omega), fun i j hi => absurd hi (by omega), fun i j hi => absurd hi (by omega)⟩
      have hgo := (HOr.out.lt go rfl).2
      go_wp2_with (at_make; refine wpList_make_full _ rfl _ _ 30 rfl B0 22 i1 (.slice none 0 0) 1 Tryz.underlying30 I1.out I2.out I3.out .i64 .i64 _ _ k rfl rfl rfl rfl (by rw [I4.out]; omega) (by unfold maxLen; omega) (by have := hbr.size; omega) ?_; intro w1 hgs0 hg1; have hgs := OwnC.of hgs0; clear hgs0)
      have hg31 : Hid (G3 w1 base k 0 val len val) := Lib.hid (hg30.out.keep hg1)
      have hO1 : Hid (OwnC w1 bo 22 1 (.slice (some ⟨go, 0, none⟩) k co) k (listOf k val)) := Lib.hid (HOr.out.kept hg1 (.inr (by simp [Value.ownBlock])))
      have hb1 : Kept2 B0 w w1 := hbr.still hg1
      have HGS := Lib.hid hgs
      clear hgs hg1 hg30 HFX HX HOr
      generalize wr.heap.size = g0 at HGS hgo ⊢
      generalize hL0 : (madeCells (Value.slice none 0 0).cells (k * 1)).toList = L0 at HGS
      clear hL0
      go_loopw [6] (fun i wz => ∃ (n : Nat) (G : Nat → Value) (L : List Value), n ≤ k ∧ i = .int .i64 n ∧ Hid (G3 wz base k n val len G) ∧ Hid (∀ j, j < n → L[j]? = some (G j)) ∧ Hid (OwnC wz bo 22 1 (.slice (some ⟨go, 0, none⟩) k co) k (listOf k val)) ∧
          Hid (OwnC wz B0 22 1 (.slice (some ⟨g0, 0, none⟩) k k) k L) ∧ Kept2 B0 w wz) (fun i _ => k - (intOf i).toNat)
      case atStart => exact ⟨0, val, L0, Nat.zero_le _, rfl, hg31, Lib.hid (fun j hj => absurd hj (by omega)), hO1, HGS, hb1⟩
      case round =>
        clear hg31 hO1 HGS hb1
        obtain ⟨n, G, L, hn, rfl, HG3, HL, HOz, HGS, hbz⟩ := hrel
        by_cases hnk : n < k
        · have hln := HLEN.out n hnk
          have hck := (HOz.out.cellAt n (by omega)).trans (listOf_get val hnk)
          have hgz := (HOz.out.lt go rfl).2
          obtain ⟨An, cn, hvn, hn1, hn2, _⟩ := own_formC (HG3.out.rows n hnk)
          rw [hvn] at hck
          have hst := home_start HG3.out hnk
          have hrw := HG3.out.rows n hnk
          rw [hvn] at hst hrw
          have HVN := Lib.hid hvn
          have HST := Lib.hid hst
          have HRW := Lib.hid hrw
          clear hvn hst hrw
          obtain ⟨wo, rfl⟩ : ∃ wo : World, wo = wr := ⟨_, rfl⟩
          go_wp2
          go_loopw [7, 8] (fun gv i wr => ∃ m : Nat, m ≤ 64 ∧ i = .int .i64 m ∧ Hid (OwnC wr base 37 8 gv (len n + m) (lcells (marksL n (len n + m)))) ∧ Hid (G3 wr base k n val len G) ∧ Hid (Home k n val len G gv m) ∧
              Hid (OwnC wr bo 22 1 (.slice (some ⟨go, 0, none⟩) k co) k (listOf k val)) ∧ Hid (OwnC wr B0 22 1 (.slice (some ⟨g0, 0, none⟩) k k) k L) ∧ Kept2 B0 w wr) (fun _ i _ => 64 - (intOf i).toNat)
          case atStart => exact ⟨0, by omega, rfl, HRW, HG3, HST, HOz, HGS, hbz⟩
          case round =>
            clear hck hgz HOz HGS hbz HRW HST HG3
            obtain ⟨m, hm, rfl, HGV, HG3, HHO, HOz, HGS, hbz⟩ := hrel
            have hck := (HOz.out.cellAt n (by omega)).trans (listOf_get val hnk)
            rw [HVN.out] at hck
            have hgz := (HOz.out.lt go rfl).2
            by_cases hml : m < 64
            · skip
              obtain ⟨M, hM⟩ : ∃ M : Int, 1000003 * ((n : Int) + 7) + ((len n : Int) + (m : Int)) = M := ⟨_, rfl⟩
              have HMM := Lib.hid hM
              clear hM
              go_wp2_with (first
                | (go_at_call 20; ((with_reducible refine (marklM_any n ((len n : Int) + (m : Int)) M _ HMM.out (by omega) (by omega) (by omega) (by omega)).mono ?_); rintro e w' ⟨rfl, rfl⟩))
                | (at_builtin; refine wpList_append_two _ rfl (.tmp 57) (.tmp 67) 22 rfl base 37 i0 _ 8 80 Tryz.underlying22 H1.out H2.out H3.out H4.out rfl (by decide) _ (len n + m) _ rfl ((HGV.out.alloc _).alloc _) ⟨wr.heap.size + 1, 0, none⟩ 1 1 [.int .i64 M, .string ⟨#[]⟩, .int .i64 0, .int .i64 0, .int .i64 0, .int .u8 0, .int .i64 0, .string ⟨#[]⟩] rfl rfl (six_new_at _ _ (by simp) _ _) (six_one _) (by omega) (by unfold maxLen; omega) (by omega) (by simp only [World.size_alloc]; have := hbz.size; omega) ?_; intro v3 w3 hown3 hgrew3))
              have hxs : lcells (marksL n (len n + m)) ++ [.int .i64 M, .string ⟨#[]⟩, .int .i64 0, .int .i64 0, .int .i64 0, .int .u8 0, .int .i64 0, .string ⟨#[]⟩] = lcells (marksL n (len n + m + 1)) := by
                rw [marksL_succ, lcells_append, ← HMM.out]; simp [lcells, encL, strV, markL]
              rw [hxs] at hown3
              have hz := hbz.size
              have hbq := (hbz.still (World.grownBy_alloc _ (.cells #[.int .i64 M, .string ⟨#[]⟩, .int .i64 0, .int .i64 0, .int .i64 0, .int .u8 0, .int .i64 0, .string ⟨#[]⟩] 37) _)).still (World.grownBy_alloc _ (.cells #[.int .i64 M, .string ⟨#[]⟩, .int .i64 0, .int .i64 0, .int .i64 0, .int .u8 0, .int .i64 0, .string ⟨#[]⟩] 37) _)
              have hap := g3_app ((HG3.out.keep (World.grownBy_alloc _ _ _)).keep (World.grownBy_alloc _ _ _)) HLO.out hnk HHO.out hown3 hgrew3.out
              have hO3 := other_kept ((HGV.out.alloc _).alloc _) ((HOz.out.alloc _).alloc _) (by decide) hgrew3.out
              have hS3 := other_kept ((HGV.out.alloc _).alloc _) ((HGS.out.alloc _).alloc _) (by decide) hgrew3.out
              have hb3 := hbq.grew ((HGV.out.alloc _).alloc _) hB hgrew3.out
              have HXS := Lib.hid hxs
              have HO3 := Lib.hid hO3
              have HS3 := Lib.hid hS3
              have HAP1 := Lib.hid hap.1
              have HAP2 := Lib.hid hap.2
              have HOWN := Lib.hid hown3
              clear hxs hO3 hS3 hap hown3 hbq
              go_roundw
              case rel => exact ⟨m + 1, by omega, by go_num, HOWN, HAP1, HAP2, HO3, HS3, hb3⟩
              case measure => simp [intOf]; omega
            · skip
              obtain rfl : m = 64 := by omega
              obtain ⟨gg, cg, rfl, hgg, hggl, _, _⟩ := own_some HGV.out (by omega)
              have hnx := g3_next HG3.out HLO.out hnk HHO.out HGV.out
              have hL1 := HGS.out.1
              obtain ⟨xn, hxn⟩ : ∃ x, L[n]? = some x := ⟨_, List.getElem?_eq_getElem (by omega)⟩
              have hcs := (HGS.out.cellAt n (by omega)).trans hxn
              have hB0g := (HGS.out.lt g0 rfl).1
              have hfs := HGS.out.frozenAt n
              have hgsl := (HGS.out.lt g0 rfl).2
              have hnx2 := Lib.hid (g3_set hnx HGS.out n (.slice (some ⟨gg, 0, none⟩) (len n + 64) cg))
              have hO2 := Lib.hid (row_set HOz.out HGS.out (by simp [Value.ownBlock]; omega) n (.slice (some ⟨gg, 0, none⟩) (len n + 64) cg))
              have hS2 := Lib.hid (HGS.out.stored n (.slice (some ⟨gg, 0, none⟩) (len n + 64) cg)).1
              have HL1 := Lib.hid hL1
              have HL2 : Hid (∀ j, j < n + 1 → (L.set n (.slice (some ⟨gg, 0, none⟩) (len n + 64) cg))[j]? = some (upd G n (.slice (some ⟨gg, 0, none⟩) (len n + 64) cg) j)) := Lib.hid (fun j hj => by
                rw [List.getElem?_set]
                by_cases e : n = j
                · subst e; rw [if_pos rfl, if_pos (by omega), upd_same]
                · rw [if_neg e, upd_other _ _ _ _ (Ne.symm e)]; exact HL.out j (by omega))
              clear hnx hL1 hxn
              go_wp2
              go_roundw
              case rel => exact ⟨n + 1, _, _, by omega, by go_num, hnx2, HL2, hO2, hS2, hbz.set HGS.out (.inr rfl) hB0g _ _⟩
              case measure => simp [intOf]; omega
        · skip
          obtain rfl : n = k := by omega
          obtain ⟨wA, rfl⟩ : ∃ wA : World, wA = wr := ⟨_, rfl⟩
          have hm : Tryz.prog.follows .mixedOrders = true := by kernel_rfl
          have HM := Lib.hid hm
          have hBA : B0 ≤ wA.heap.size := by have := hbz.size; omega
          clear hm
          go_wp2
          go_loopw [9] (fun i wr => ∃ a : Nat, a ≤ n ∧ i = .int .i64 a ∧ Go.RowKit.Below wA.heap.size wA wr) (fun i _ => n - (intOf i).toNat)
          case atStart => exact ⟨0, Nat.zero_le _, rfl, Below.refl _ _⟩
          case round =>
            obtain ⟨a, ha, rfl, hba⟩ := hrel
            by_cases han : a < n
            · have hla := HLEN.out a han
              have hog := HG3.out.grown a han
              obtain ⟨gg, cg, hvg, hgg, hggl, hgc, _⟩ := own_some hog (show 0 < len a + 64 by omega)
              have hog2 : OwnC wA base 37 8 (.slice (some ⟨gg, 0, none⟩) (len a + 64) cg) (len a + 64) (lcells (marksL a (len a + 64))) := by have := hog; rw [hvg] at this; exact this
              obtain ⟨Aa, ca, hva, hca, _, _⟩ := own_formC (HG3.out.rows a han)
              have hcG0 : wA.cell? ⟨g0, a, none⟩ = some (.slice (some ⟨gg, 0, none⟩) (len a + 64) cg) := by rw [(HGS.out.cellAt a (by omega)).trans (HL.out a han), hvg]
              have hcV0 : wA.cell? ⟨go, a, none⟩ = some (.slice Aa (len a) ca) := by rw [(HOz.out.cellAt a (by omega)).trans (listOf_get val han), hva]
              have hg0l := (HGS.out.lt g0 rfl).2
              have hgol := (HOz.out.lt go rfl).2
              have HOG := Lib.hid hog2
              have HVA := Lib.hid hva
              have HVG := Lib.hid hvg
              clear hog hog2 hva hvg
              obtain ⟨wo, rfl⟩ : ∃ wo : World, wo = wr := ⟨_, rfl⟩
              go_wp2
              go_loopw [10] (fun i wr => ∃ j : Nat, j ≤ len a + 64 ∧ i = .int .i64 j ∧ Go.RowKit.Below wA.heap.size wA wr) (fun i _ => len a + 64 - (intOf i).toNat)
              case atStart => exact ⟨0, Nat.zero_le _, rfl, hba⟩
              case round =>
                obtain ⟨j, hj, rfl, hbj⟩ := hrel
                have hcG := (hbj.cell (p := ⟨g0, a, none⟩) hg0l).trans hcG0
                by_cases hjl : j < len a + 64
                · have hmg := mark_cells HOG.out rfl hjl
                  obtain ⟨M, hM⟩ : ∃ M : Int, 1000003 * ((a : Int) + 7) + (j : Int) = M := ⟨_, rfl⟩
                  rw [hM] at hmg
                  have qG : ∀ n os, (grow (wr.drewN n) os).cell? ⟨g0, a, none⟩ = some (.slice (some ⟨gg, 0, none⟩) (len a + 64) cg) := fun n os => grown_fact hbj hcG0 hg0l n os
                  have qV : ∀ n os, (grow (wr.drewN n) os).cell? ⟨go, a, none⟩ = some (.slice Aa (len a) ca) := fun n os => grown_fact hbj hcV0 hgol n os
                  have qa0 : ∀ n os, (grow (wr.drewN n) os).cell? ⟨gg, j * 8, none⟩ = some (.int .i64 M) := fun n os => grown_fact hbj hmg.1 hggl n os
                  have qa1 : ∀ n os, (grow (wr.drewN n) os).cell? ⟨gg, j * 8 + 1, none⟩ = some (.string ⟨#[]⟩) := fun n os => grown_fact hbj hmg.2.1 hggl n os
                  have qa2 : ∀ n os, (grow (wr.drewN n) os).cell? ⟨gg, j * 8 + 2, none⟩ = some (.int .i64 0) := fun n os => grown_fact hbj hmg.2.2.1 hggl n os
                  have qa3 : ∀ n os, (grow (wr.drewN n) os).cell? ⟨gg, j * 8 + 3, none⟩ = some (.int .i64 0) := fun n os => grown_fact hbj hmg.2.2.2.1 hggl n os
                  have qa4 : ∀ n os, (grow (wr.drewN n) os).cell? ⟨gg, j * 8 + 4, none⟩ = some (.int .i64 0) := fun n os => grown_fact hbj hmg.2.2.2.2.1 hggl n os
                  have qa5 : ∀ n os, (grow (wr.drewN n) os).cell? ⟨gg, j * 8 + 5, none⟩ = some (.int .u8 0) := fun n os => grown_fact hbj hmg.2.2.2.2.2.1 hggl n os
                  have qa6 : ∀ n os, (grow (wr.drewN n) os).cell? ⟨gg, j * 8 + 6, none⟩ = some (.int .i64 0) := fun n os => grown_fact hbj hmg.2.2.2.2.2.2.1 hggl n os
                  have qa7 : ∀ n os, (grow (wr.drewN n) os).cell? ⟨gg, j * 8 + 7, none⟩ = some (.string ⟨#[]⟩) := fun n os => grown_fact hbj hmg.2.2.2.2.2.2.2 hggl n os
                  have heq := eq_mark M
                  unfold EqM at heq
                  by_cases hjv : j < len a
                  · skip
                    obtain ⟨gv, cv, hvv, _, hgvl, _, _⟩ := own_some (HG3.out.rows a han) (show 0 < len a by omega)
                    have hAv : Aa = some ⟨gv, 0, none⟩ ∧ ca = cv := by have := HVA.out; rw [hvv] at this; injection this with e1 e2 e3; exact ⟨e1.symm, e3.symm⟩
                    obtain ⟨rfl, rfl⟩ := hAv
                    have hov := HG3.out.rows a han
                    rw [hvv] at hov
                    have hmv := mark_cells hov rfl hjv
                    rw [hM] at hmv
                    have qb0 : ∀ n os, (grow (wr.drewN n) os).cell? ⟨gv, j * 8, none⟩ = some (.int .i64 M) := fun n os => grown_fact hbj hmv.1 hgvl n os
                    have qb1 : ∀ n os, (grow (wr.drewN n) os).cell? ⟨gv, j * 8 + 1, none⟩ = some (.string ⟨#[]⟩) := fun n os => grown_fact hbj hmv.2.1 hgvl n os
                    have qb2 : ∀ n os, (grow (wr.drewN n) os).cell? ⟨gv, j * 8 + 2, none⟩ = some (.int .i64 0) := fun n os => grown_fact hbj hmv.2.2.1 hgvl n os
                    have qb3 : ∀ n os, (grow (wr.drewN n) os).cell? ⟨gv, j * 8 + 3, none⟩ = some (.int .i64 0) := fun n os => grown_fact hbj hmv.2.2.2.1 hgvl n os
                    have qb4 : ∀ n os, (grow (wr.drewN n) os).cell? ⟨gv, j * 8 + 4, none⟩ = some (.int .i64 0) := fun n os => grown_fact hbj hmv.2.2.2.2.1 hgvl n os
                    have qb5 : ∀ n os, (grow (wr.drewN n) os).cell? ⟨gv, j * 8 + 5, none⟩ = some (.int .u8 0) := fun n os => grown_fact hbj hmv.2.2.2.2.2.1 hgvl n os
                    have qb6 : ∀ n os, (grow (wr.drewN n) os).cell? ⟨gv, j * 8 + 6, none⟩ = some (.int .i64 0) := fun n os => grown_fact hbj hmv.2.2.2.2.2.2.1 hgvl n os
                    have qb7 : ∀ n os, (grow (wr.drewN n) os).cell? ⟨gv, j * 8 + 7, none⟩ = some (.string ⟨#[]⟩) := fun n os => grown_fact hbj hmv.2.2.2.2.2.2.2 hgvl n os
                    have hd1 : decide (j < len a) = true := decide_eq_true hjv
                    clear hvv hov hmv hmg
                    go_wp2
                    have hm := HM.out
                    refine wp_region_quiet_grown (by assumption) (by kernel_rfl) ?_
                    repeat (go_big_quiet_step ((go_at_call 20; exact markl_grown (a : Int) (j : Int) M _ _ _ hM (by omega) (by omega) (by omega) (by omega))))
                    refine wpQuiet_nil ?_
                    intro _ hw'
                    obtain ⟨⟨nq, osq⟩, hw''⟩ := hw'
                    subst hw''
                    clear hm qG qV qa0 qa1 qa2 qa3 qa4 qa5 qa6 qa7 qb0 qb1 qb2 qb3 qb4 qb5 qb6 qb7
                    have hbq := below_grow hbj hbj.size nq osq
                    go_wp2
                    go_roundw
                    case rel => exact ⟨j + 1, by omega, by go_num, hbq⟩
                    case measure => simp [intOf]; omega
                  · skip
                    have hd1 : decide (j < len a) = false := decide_eq_false hjv
                    clear hmg
                    go_wp2
                    have hm := HM.out
                    refine wp_region_quiet_grown (by assumption) (by kernel_rfl) ?_
                    repeat (go_big_quiet_step ((go_at_call 20; exact markl_grown (a : Int) (j : Int) M _ _ _ hM (by omega) (by omega) (by omega) (by omega))))
                    refine wpQuiet_nil ?_
                    intro _ hw'
                    obtain ⟨⟨nq, osq⟩, hw''⟩ := hw'
                    subst hw''
                    clear hm qG qV qa0 qa1 qa2 qa3 qa4 qa5 qa6 qa7
                    have hbq := below_grow hbj hbj.size nq osq
                    go_wp2
                    go_roundw
                    case rel => exact ⟨j + 1, by omega, by go_num, hbq⟩
                    case measure => simp [intOf]; omega
                · skip
                  obtain rfl : j = len a + 64 := by omega
                  go_wp2
                  go_roundw
                  case rel => exact ⟨a + 1, by omega, by go_num, hbj⟩
                  case measure => simp [intOf]; omega
            · obtain rfl : a = n := by omega
              have hg4 := (HG3.out.start X).keep (below_none hba)
              have hOr := Lib.hid (HOz.out.kept (below_none hba) (.inr (by simp [Value.ownBlock])))
              have hSr := Lib.hid (HGS.out.kept (below_none hba) (.inr (by simp [Value.ownBlock])))
              have hbB : Kept2 B0 w wr := hbz.still (below_none hba)
              have HG4 := Lib.hid hg4
              clear hg4 HG3 HOz HGS HL hbz hba hBA
              go_wp2
              go_loopw [11] (fun i wr => ∃ (k : Nat) (G : Nat → Value) (X : Nat → List Value) (L : List Value), k ≤ a ∧ i = .int .i64 k ∧ Hid (G4 wr base a k val len G X) ∧ Hid (∀ j, j < k → L[j]? = some (G j)) ∧ Hid (OwnC wr bo 22 1 (.slice (some ⟨go, 0, none⟩) a co) a (listOf a val)) ∧
                  Hid (OwnC wr B0 22 1 (.slice (some ⟨g0, 0, none⟩) a a) a L) ∧ Kept2 B0 w wr) (fun i _ => a - (intOf i).toNat)
              case atStart => exact ⟨0, G, X, L, Nat.zero_le _, rfl, HG4, Lib.hid (fun j hj => absurd hj (by omega)), hOr, hSr, hbB⟩
              case round =>
                clear HG4 hOr hSr hbB
                obtain ⟨k, G', X', L', hk, rfl, HG4, HL, HO, HS, hbB⟩ := hrel
                by_cases hka : k < a
                · skip
                  have hlk := HLEN.out k hka
                  obtain ⟨Ak, ck, hvk, hk1, hk2, _⟩ := own_formC (HG4.out.rows k hka)
                  have HVK := Lib.hid hvk
                  clear hvk
                  obtain ⟨wM, rfl⟩ : ∃ wM : World, wM = wr := ⟨_, rfl⟩
                  have hBM : B0 ≤ wM.heap.size := by have := hbB.size; omega
                  go_wp2_with (at_make; refine wpList_make_full _ rfl _ _ 22 rfl wM.heap.size 37 i0 (.agg #[.int .i64 0, .string ⟨#[]⟩, .int .i64 0, .int .i64 0, .int .i64 0, .int .u8 0, .int .i64 0, .string ⟨#[]⟩]) 8 Tryz.underlying22 H1.out H2.out H3.out .i64 .i64 _ _ 64 rfl rfl rfl rfl (by rw [H4.out]; omega) (by unfold maxLen; omega) (Nat.le_refl _) ?_; intro w1 hgm0 hg1; have hgm := OwnC.of hgm0; clear hgm0)
                  have hone := one_made (64 * 8)
                  have hb1 : Go.RowKit.Below wM.heap.size wM w1 := (Below.refl _ _).grown hg1 (Nat.le_refl _) (fun j hj => by cases hj)
                  have HGM := Lib.hid hgm
                  have HON := Lib.hid hone
                  generalize (madeCells (Value.agg #[.int .i64 0, .string ⟨#[]⟩, .int .i64 0, .int .i64 0, .int .i64 0, .int .u8 0, .int .i64 0, .string ⟨#[]⟩]).cells (64 * 8)).toList = Y0 at HGM HON
                  clear hgm hone hg1
                  obtain ⟨gm, hgmE, hgle⟩ : ∃ gm, wM.heap.size = gm ∧ wM.heap.size ≤ gm := ⟨_, rfl, Nat.le_refl _⟩
                  rw [hgmE] at HGM ⊢
                  clear hgmE
                  go_wp2
                  go_loopw [13] (fun i wr => ∃ (m : Nat) (Y : List Value), m ≤ 64 ∧ i = .int .i64 m ∧ Hid (OwnC wr gm 37 8 (.slice (some ⟨gm, 0, none⟩) 64 64) 64 Y) ∧ Hid (∀ u ∈ Y, u.oneCell' = true) ∧ Go.RowKit.Below wM.heap.size wM wr) (fun i _ => 64 - (intOf i).toNat)
                  case atStart => exact ⟨0, Y0, Nat.zero_le _, rfl, HGM, HON, hb1⟩
                  case round =>
                    clear HGM HON hb1
                    obtain ⟨m, Y, hm, rfl, HGM, HON, hbm⟩ := hrel
                    by_cases hml : m < 64
                    · skip
                      have hyl := HGM.out.1
                      obtain ⟨x0, hx0⟩ : ∃ x, Y[m * 8]? = some x := ⟨_, List.getElem?_eq_getElem (by omega)⟩
                      obtain ⟨x1, hx1⟩ : ∃ x, Y[m * 8 + 1]? = some x := ⟨_, List.getElem?_eq_getElem (by omega)⟩
                      obtain ⟨x2, hx2⟩ : ∃ x, Y[m * 8 + 2]? = some x := ⟨_, List.getElem?_eq_getElem (by omega)⟩
                      obtain ⟨x3, hx3⟩ : ∃ x, Y[m * 8 + 3]? = some x := ⟨_, List.getElem?_eq_getElem (by omega)⟩
                      obtain ⟨x4, hx4⟩ : ∃ x, Y[m * 8 + 4]? = some x := ⟨_, List.getElem?_eq_getElem (by omega)⟩
                      obtain ⟨x5, hx5⟩ : ∃ x, Y[m * 8 + 5]? = some x := ⟨_, List.getElem?_eq_getElem (by omega)⟩
                      obtain ⟨x6, hx6⟩ : ∃ x, Y[m * 8 + 6]? = some x := ⟨_, List.getElem?_eq_getElem (by omega)⟩
                      obtain ⟨x7, hx7⟩ : ∃ x, Y[m * 8 + 7]? = some x := ⟨_, List.getElem?_eq_getElem (by omega)⟩
                      have hc0 := (HGM.out.cellAt (m * 8) (by omega)).trans hx0
                      have hc1 := (HGM.out.cellAt (m * 8 + 1) (by omega)).trans hx1
                      have hc2 := (HGM.out.cellAt (m * 8 + 2) (by omega)).trans hx2
                      have hc3 := (HGM.out.cellAt (m * 8 + 3) (by omega)).trans hx3
                      have hc4 := (HGM.out.cellAt (m * 8 + 4) (by omega)).trans hx4
                      have hc5 := (HGM.out.cellAt (m * 8 + 5) (by omega)).trans hx5
                      have hc6 := (HGM.out.cellAt (m * 8 + 6) (by omega)).trans hx6
                      have hc7 := (HGM.out.cellAt (m * 8 + 7) (by omega)).trans hx7
                      have hf0 := HGM.out.frozenAt (m * 8)
                      have hf1 := HGM.out.frozenAt (m * 8 + 1)
                      have hf2 := HGM.out.frozenAt (m * 8 + 2)
                      have hf3 := HGM.out.frozenAt (m * 8 + 3)
                      have hf4 := HGM.out.frozenAt (m * 8 + 4)
                      have hf5 := HGM.out.frozenAt (m * 8 + 5)
                      have hf6 := HGM.out.frozenAt (m * 8 + 6)
                      have hf7 := HGM.out.frozenAt (m * 8 + 7)
                      have hgl := (HGM.out.lt gm rfl).2
                      have HYL := Lib.hid hyl
                      clear hx0 hx1 hx2 hx3 hx4 hx5 hx6 hx7 hyl
                      go_wp2_with (go_at_call 20; ((with_reducible refine (markl_any ((k : Int) + (a : Int)) m _ (by omega) (by omega) (by omega) (by omega)).mono ?_); rintro e w' ⟨rfl, rfl⟩))
                      go_roundw
                      case rel => exact ⟨m + 1, _, by omega, by go_num, Lib.hid (((((((((HGM.out.stored _ _).1.stored _ _).1.stored _ _).1.stored _ _).1.stored _ _).1.stored _ _).1.stored _ _).1.stored _ _).1.alloc _), Lib.hid (one_set1 (one_set1 (one_set1 (one_set1 (one_set1 (one_set1 (one_set1 (one_set1 HON.out _ _ rfl) _ _ rfl) _ _ rfl) _ _ rfl) _ _ rfl) _ _ rfl) _ _ rfl) _ _ rfl), (((((((((hbm.setCell (p := ⟨gm, m * 8, none⟩) (by show wM.heap.size ≤ gm; omega) _).setCell (p := ⟨gm, m * 8 + 1, none⟩) (by show wM.heap.size ≤ gm; omega) _).setCell (p := ⟨gm, m * 8 + 2, none⟩) (by show wM.heap.size ≤ gm; omega) _).setCell (p := ⟨gm, m * 8 + 3, none⟩) (by show wM.heap.size ≤ gm; omega) _).setCell (p := ⟨gm, m * 8 + 4, none⟩) (by show wM.heap.size ≤ gm; omega) _).setCell (p := ⟨gm, m * 8 + 5, none⟩) (by show wM.heap.size ≤ gm; omega) _).setCell (p := ⟨gm, m * 8 + 6, none⟩) (by show wM.heap.size ≤ gm; omega) _).setCell (p := ⟨gm, m * 8 + 7, none⟩) (by show wM.heap.size ≤ gm; omega) _).alloc (by have := hbm.size; simp only [World.size_setCell]; omega) _)⟩
                      case measure => simp [intOf]; omega
                    · skip
                      obtain rfl : m = 64 := by omega
                      have hg4 := HG4.out.keep (below_none hbm)
                      have hO := HO.out.kept (below_none hbm) (.inr (by simp [Value.ownBlock]))
                      have hS := HS.out.kept (below_none hbm) (.inr (by simp [Value.ownBlock]))
                      have hb := hbB.still (below_none hbm)
                      have hck := (hO.cellAt k (by omega)).trans (listOf_get val hka)
                      rw [HVK.out] at hck
                      have hgz := (hO.lt go rfl).2
                      have hgsl := (hS.lt g0 rfl).2
                      have hnews : ∀ j u, Y[j]? = some u → wr.cell? ((⟨gm, 0, none⟩ : Addr).add j) = some u := fun j u hu => by
                        rw [addr0]
                        exact (HGM.out.cellAt j (by have := HGM.out.1; have := (List.getElem?_eq_some_iff.mp hu).1; omega)).trans hu
                      have hrowk := hg4.rows k hka
                      rw [HVK.out] at hrowk
                      have hbz := hb.size
                      have HG := Lib.hid hg4
                      have HO2 := Lib.hid hO
                      have HS2 := Lib.hid hS
                      clear hg4 hO hS HG4 HO HS hbB
                      go_wp2_with (at_builtin; refine wpList_append_two _ rfl (.tmp 148) (.tmp 149) 22 rfl base 37 i0 _ 8 80 Tryz.underlying22 H1.out H2.out H3.out H4.out rfl (by decide) _ (len k) _ rfl hrowk ⟨gm, 0, none⟩ 64 64 Y rfl HGM.out.1 hnews HON.out (by omega) (by unfold maxLen; omega) (by omega) (by omega) ?_; intro v3 w3 hown3 hgrew3; obtain ⟨gg3, cg3, rfl, hgg3, hggl3, _, _⟩ := own_some hown3 (by omega); have hS3 := other_kept hrowk HS2.out (by decide) hgrew3.out; obtain ⟨xn, hxn⟩ : ∃ x, L'[k]? = some x := ⟨_, List.getElem?_eq_getElem (by have := hS3.1; omega)⟩; have hcs3 := (hS3.cellAt k (by omega)).trans hxn; have hB0g := (hS3.lt g0 rfl).1; have hfs3 := hS3.frozenAt k; have hgsl3 := (hS3.lt g0 rfl).2; clear hxn)
                      have hgr3 : Grew wr w3 (val k) (.slice (some ⟨gg3, 0, none⟩) (len k + 64) cg3) (len k) 64 := by rw [HVK.out]; exact hgrew3.out
                      have hnx := g4_next HG.out HLO.out hka hown3 hgr3
                      have hO3 := other_kept hrowk HO2.out (by decide) hgrew3.out
                      have hb3 := hb.grew hrowk hB hgrew3.out
                      have hnx2 := Lib.hid (g4_set hnx hS3 k (.slice (some ⟨gg3, 0, none⟩) (len k + 64) cg3))
                      have hO4 := Lib.hid (row_set hO3 hS3 (by simp [Value.ownBlock]; omega) k (.slice (some ⟨gg3, 0, none⟩) (len k + 64) cg3))
                      have hS4 := Lib.hid (hS3.stored k (.slice (some ⟨gg3, 0, none⟩) (len k + 64) cg3)).1
                      have hL1 := Lib.hid hS3.1
                      have HL2 : Hid (∀ j, j < k + 1 → (L'.set k (.slice (some ⟨gg3, 0, none⟩) (len k + 64) cg3))[j]? = some (upd G' k (.slice (some ⟨gg3, 0, none⟩) (len k + 64) cg3) j)) := Lib.hid (fun j hj => by
                        rw [List.getElem?_set]
                        by_cases e : k = j
                        · subst e; rw [if_pos rfl, if_pos (by have := hL1.out; omega), upd_same]
                        · rw [if_neg e, upd_other _ _ _ _ (Ne.symm e)]; exact HL.out j (by omega))
                      have HS3R := Lib.hid hS3
                      clear hnx hO3 hS3 hgr3 hown3
                      go_roundw
                      case rel => exact ⟨k + 1, _, _, _, by omega, by go_num, hnx2, HL2, hO4, hS4, hb3.set HS3R.out (.inr rfl) hB0g _ _⟩
                      case measure => simp [intOf]; omega
                · skip
                  obtain rfl : k = a := by omega
                  obtain ⟨wE, rfl⟩ : ∃ wE : World, wE = wr := ⟨_, rfl⟩
                  have hBE : B0 ≤ wE.heap.size := by have := hbB.size; omega
                  go_wp2
                  go_loopw [14] (fun i wr => ∃ c : Nat, c ≤ k ∧ i = .int .i64 c ∧ Go.RowKit.Below wE.heap.size wE wr) (fun i _ => k - (intOf i).toNat)
                  case atStart => exact ⟨0, Nat.zero_le _, rfl, Below.refl _ _⟩
                  case round =>
                    obtain ⟨c, hc, rfl, hbc⟩ := hrel
                    by_cases hck : c < k
                    · have hla := HLEN.out c hck
                      have hog := HG4.out.grown c hck
                      obtain ⟨gg, cg, hvg, hgg, hggl, hgc, _⟩ := own_some hog (show 0 < len c + 64 by omega)
                      have hog2 : OwnC wE base 37 8 (.slice (some ⟨gg, 0, none⟩) (len c + 64) cg) (len c + 64) (X' c) := by have := hog; rw [hvg] at this; exact this
                      obtain ⟨Aa, ca, hva, hca, _, _⟩ := own_formC (HG4.out.rows c hck)
                      have hcG0 : wE.cell? ⟨g0, c, none⟩ = some (.slice (some ⟨gg, 0, none⟩) (len c + 64) cg) := by rw [(HS.out.cellAt c (by omega)).trans (HL.out c hck), hvg]
                      have hcV0 : wE.cell? ⟨go, c, none⟩ = some (.slice Aa (len c) ca) := by rw [(HO.out.cellAt c (by omega)).trans (listOf_get val hck), hva]
                      have hg0l := (HS.out.lt g0 rfl).2
                      have hgol := (HO.out.lt go rfl).2
                      have HOG := Lib.hid hog2
                      have HVA := Lib.hid hva
                      have HVG := Lib.hid hvg
                      clear hog hog2 hva hvg
                      obtain ⟨wo, rfl⟩ : ∃ wo : World, wo = wr := ⟨_, rfl⟩
                      go_wp2
                      go_loopw [15] (fun i wr => ∃ j : Nat, j ≤ len c ∧ i = .int .i64 j ∧ Go.RowKit.Below wE.heap.size wE wr) (fun i _ => len c - (intOf i).toNat)
                      case atStart => exact ⟨0, Nat.zero_le _, rfl, hbc⟩
                      case round =>
                        obtain ⟨j, hj, rfl, hbj⟩ := hrel
                        have hcV := (hbj.cell (p := ⟨go, c, none⟩) hgol).trans hcV0
                        by_cases hjl : j < len c
                        · skip
                          have hmg := mark_in HOG.out (HG4.out.mark c hck) (by omega) hjl
                          obtain ⟨M, hM⟩ : ∃ M : Int, 1000003 * ((c : Int) + 7) + (j : Int) = M := ⟨_, rfl⟩
                          rw [hM] at hmg
                          obtain ⟨gv, cv, hvv, _, hgvl, _, _⟩ := own_some (HG4.out.rows c hck) (show 0 < len c by omega)
                          have hAv : Aa = some ⟨gv, 0, none⟩ ∧ ca = cv := by have := HVA.out; rw [hvv] at this; injection this with e1 e2 e3; exact ⟨e1.symm, e3.symm⟩
                          obtain ⟨rfl, rfl⟩ := hAv
                          have hov := HG4.out.rows c hck
                          rw [hvv] at hov
                          have hmv := mark_cells hov rfl hjl
                          rw [hM] at hmv
                          have qG : ∀ n os, (grow (wr.drewN n) os).cell? ⟨g0, c, none⟩ = some (.slice (some ⟨gg, 0, none⟩) (len c + 64) cg) := fun n os => grown_fact hbj hcG0 hg0l n os
                          have qV : ∀ n os, (grow (wr.drewN n) os).cell? ⟨go, c, none⟩ = some (.slice (some ⟨gv, 0, none⟩) (len c) ca) := fun n os => grown_fact hbj hcV0 hgol n os
                          have qa0 : ∀ n os, (grow (wr.drewN n) os).cell? ⟨gg, j * 8, none⟩ = some (.int .i64 M) := fun n os => grown_fact hbj hmg.1 hggl n os
                          have qa1 : ∀ n os, (grow (wr.drewN n) os).cell? ⟨gg, j * 8 + 1, none⟩ = some (.string ⟨#[]⟩) := fun n os => grown_fact hbj hmg.2.1 hggl n os
                          have qa2 : ∀ n os, (grow (wr.drewN n) os).cell? ⟨gg, j * 8 + 2, none⟩ = some (.int .i64 0) := fun n os => grown_fact hbj hmg.2.2.1 hggl n os
                          have qa3 : ∀ n os, (grow (wr.drewN n) os).cell? ⟨gg, j * 8 + 3, none⟩ = some (.int .i64 0) := fun n os => grown_fact hbj hmg.2.2.2.1 hggl n os
                          have qa4 : ∀ n os, (grow (wr.drewN n) os).cell? ⟨gg, j * 8 + 4, none⟩ = some (.int .i64 0) := fun n os => grown_fact hbj hmg.2.2.2.2.1 hggl n os
                          have qa5 : ∀ n os, (grow (wr.drewN n) os).cell? ⟨gg, j * 8 + 5, none⟩ = some (.int .u8 0) := fun n os => grown_fact hbj hmg.2.2.2.2.2.1 hggl n os
                          have qa6 : ∀ n os, (grow (wr.drewN n) os).cell? ⟨gg, j * 8 + 6, none⟩ = some (.int .i64 0) := fun n os => grown_fact hbj hmg.2.2.2.2.2.2.1 hggl n os
                          have qa7 : ∀ n os, (grow (wr.drewN n) os).cell? ⟨gg, j * 8 + 7, none⟩ = some (.string ⟨#[]⟩) := fun n os => grown_fact hbj hmg.2.2.2.2.2.2.2 hggl n os
                          have qb0 : ∀ n os, (grow (wr.drewN n) os).cell? ⟨gv, j * 8, none⟩ = some (.int .i64 M) := fun n os => grown_fact hbj hmv.1 hgvl n os
                          have qb1 : ∀ n os, (grow (wr.drewN n) os).cell? ⟨gv, j * 8 + 1, none⟩ = some (.string ⟨#[]⟩) := fun n os => grown_fact hbj hmv.2.1 hgvl n os
                          have qb2 : ∀ n os, (grow (wr.drewN n) os).cell? ⟨gv, j * 8 + 2, none⟩ = some (.int .i64 0) := fun n os => grown_fact hbj hmv.2.2.1 hgvl n os
                          have qb3 : ∀ n os, (grow (wr.drewN n) os).cell? ⟨gv, j * 8 + 3, none⟩ = some (.int .i64 0) := fun n os => grown_fact hbj hmv.2.2.2.1 hgvl n os
                          have qb4 : ∀ n os, (grow (wr.drewN n) os).cell? ⟨gv, j * 8 + 4, none⟩ = some (.int .i64 0) := fun n os => grown_fact hbj hmv.2.2.2.2.1 hgvl n os
                          have qb5 : ∀ n os, (grow (wr.drewN n) os).cell? ⟨gv, j * 8 + 5, none⟩ = some (.int .u8 0) := fun n os => grown_fact hbj hmv.2.2.2.2.2.1 hgvl n os
                          have qb6 : ∀ n os, (grow (wr.drewN n) os).cell? ⟨gv, j * 8 + 6, none⟩ = some (.int .i64 0) := fun n os => grown_fact hbj hmv.2.2.2.2.2.2.1 hgvl n os
                          have qb7 : ∀ n os, (grow (wr.drewN n) os).cell? ⟨gv, j * 8 + 7, none⟩ = some (.string ⟨#[]⟩) := fun n os => grown_fact hbj hmv.2.2.2.2.2.2.2 hgvl n os
                          have heq := eq_mark M
                          unfold EqM at heq
                          have hjl2 : j < len c + 64 := by omega
                          clear hvv hov hmv hmg
                          go_wp2
                          have hm := HM.out
                          refine wp_region_quiet_grown (by assumption) (by kernel_rfl) ?_
                          repeat (go_big_quiet_step ((go_at_call 20; exact markl_grown (c : Int) (j : Int) M _ _ _ hM (by omega) (by omega) (by omega) (by omega))))
                          refine wpQuiet_nil ?_
                          intro _ hw'
                          obtain ⟨⟨nq, osq⟩, hw''⟩ := hw'
                          subst hw''
                          clear hm qG qV qa0 qa1 qa2 qa3 qa4 qa5 qa6 qa7 qb0 qb1 qb2 qb3 qb4 qb5 qb6 qb7
                          have hbq := below_grow hbj hbj.size nq osq
                          go_wp2
                          go_roundw
                          case rel => exact ⟨j + 1, by omega, by go_num, hbq⟩
                          case measure => simp [intOf]; omega
                        · skip
                          obtain rfl : j = len c := by omega
                          go_wp2
                          go_roundw
                          case rel => exact ⟨c + 1, by omega, by go_num, hbj⟩
                          case measure => simp [intOf]; omega
                    · skip
                      obtain rfl : c = k := by omega
                      go_wp2
                      go_ret
                      exact ⟨rfl, hbB.still (below_none hbc)⟩
end Go.Proofs.YtepkmgmooadbjaaGreat
