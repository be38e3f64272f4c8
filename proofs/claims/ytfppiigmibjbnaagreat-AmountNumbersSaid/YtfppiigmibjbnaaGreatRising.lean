/- amount.rising: the items of a map of texts to numbers as parts, by rising items. -/
import Derived.Test.YtfppiigmibjbnaaGreatWords
import Derived.Test.YtfppiigmibjbnaaGreatIter
import Derived.WalkKit
import Derived.ProofKit
import Derived.Lib.Hide
import Derived.Maps.OwnOps
import Derived.Maps.AppendAt
import Derived.OwnWalk
import Derived.StringKeys
import Derived.Laws.Rows
namespace Go.Proofs.YtfppiigmibjbnaaGreat
open Go.ChangeShapes Go.WideShapes Go.ChangeAt Go.RowKit Go.Maps
set_option linter.unusedVariables false

theorem skeyed : Keyed Tryz.prog 9 := string_keyed Tryz.underlying9
theorem zero64 (w : World) : (zeroValue 2).run Tryz.prog w = .ok (.int .i64 0) w := by kernel_rfl
theorem infoPart : (Tryz.prog.info? 38).map (fun i => (i.zero, i.size, i.bytes)) = some (some (.agg #[.string ⟨#[]⟩, .int .i64 0]), 2, 24) := by kernel_rfl

theorem keys_calls (mb : Option Nat) (W : World) : Calls Tryz.prog 32 #[.map mb] W fun e w' => e = .returned (.func (.func 58) #[] #[.pointer (some ⟨W.heap.size, 0, none⟩)]) ∧ w' = W.alloc (.cells #[.map mb] 44) :=
  callsIn_wide.1 (maps_keys mb W)
/-- The keys, sorted. -/
def srt (ss : List (List UInt8)) : List (List UInt8) := ss.mergeSort (fun x y => decide (x ≤ y))
def SortedKeys {H : Type} (D0 : DataW H) (B : Nat) (w : World) (e : Ending) (w' : World) : Prop :=
  ∃ (A : Option Addr) (c : Nat) (ss : List (List UInt8)), e = .returned (.slice A ss.length c) ∧ ss.Perm (strKeys D0) ∧ Lies w' w'.heap.size A ((srt ss).map encStr) ∧ Below B w w'

theorem sorted_calls {H : Type} (b nn : Nat) (D0 : DataW H) (R : Value → Option (DataW H × List MemPlace)) (w : World) (hown : w.ownsMap Tryz.prog 9 R b nn D0) (hmax : nn ≤ 1099511627776) :
    Calls Tryz.prog 31 #[.func (.func 58) #[] #[.pointer (some ⟨w.heap.size, 0, none⟩)]] (w.alloc (.cells #[.map (some b)] 44)) (SortedKeys D0 w.heap.size (w.alloc (.cells #[.map (some b)] 44))) := by
  have hs := (size_strKeys hown).2
  refine (callsIn_wide.1 (sorted_keys b nn D0 R w hown (by unfold maxLen; omega) (by omega))).mono ?_
  rintro e w' ⟨v, ss, rfl, hp, hrow, _, hb⟩
  obtain ⟨A, c, rfl, _⟩ := own_form hrow
  exact ⟨A, c, ss, rfl, hp, Lies.own hrow, hb.mono (by simp)⟩

theorem key_of (key : List UInt8) (h : key.length ≤ maxLen) : keyOf Tryz.prog 9 (encStr key) = some (.string key) :=
  Go.WideMaps.keyOf_string_mk Tryz.underlying9 (by simpa [ByteArray.size] using h)
theorem two_new (w : World) (a b : Value) (t : TypeId) : ∀ j u, [a, b][j]? = some u → (w.alloc (.cells #[a, b] t)).cell? ((⟨w.heap.size, 0, none⟩ : Addr).add j) = some u := by
  intro j u h
  have e : (⟨w.heap.size, 0, none⟩ : Addr).add j = ⟨w.heap.size, j, none⟩ := by unfold Addr.add; split <;> simp_all
  rw [e, cell_of_row _ _ _ _ _ _ (heap_alloc_new w _)]
  simpa using h
theorem two_one (s : ByteArray) (q : Int) : ∀ u ∈ [Value.string s, Value.int .i64 q], u.oneCell' = true := by
  intro u h
  simp only [List.mem_cons, List.not_mem_nil, or_false] at h
  rcases h with rfl | rfl <;> rfl
theorem base_less {w : World} {base base' e size n : Nat} {v : Value} {xs : List Value} (h : w.ownsRow base e size v n xs) (hb : base' ≤ base) : w.ownsRow base' e size v n xs := by
  refine ⟨h.1, ?_⟩
  rcases h.2 with hn | ⟨g, cap, cur, hv, hg, rest⟩
  · exact .inl hn
  · exact .inr ⟨g, cap, cur, hv, Nat.le_trans hb hg, rest⟩
theorem grown_below {w w' : World} {B : Nat} (h : Below B w w') (hB : w.heap.size ≤ B) : w.grownBy w' none := ⟨h.os, h.tape, h.output, h.size, fun i hi _ => h.block i (Nat.lt_of_lt_of_le hi hB)⟩

set_option maxHeartbeats 1000000 in
theorem rising_any {H : Type} (b nn : Nat) (D0 : DataW H) (w : World) (hown : w.ownsMap Tryz.prog 9 (plainElem Tryz.prog 2) b nn D0) (hmax : nn ≤ 1099511627776)
    (f : List UInt8 → Int) (hval : ∀ it, D0.atKey (.string it) (.lit (.int .i64 0)) = .lit (.int .i64 (f it))) :
    Calls Tryz.prog 21 #[.map (some b)] w fun e w' => ∃ (v : Value) (ss : List (List UInt8)), e = .returned v ∧ ss.Perm (strKeys D0) ∧
      w'.ownsRow w.heap.size 38 2 v ss.length (pcells ((srt ss).map fun it => (it, f it))) ∧ Below w.heap.size w w' := by
  obtain ⟨i0, hi, hz0, hz1, hz2⟩ := info_parts infoPart
  have hkl : ∀ x ∈ strKeys D0, x.length ≤ maxLen := strKeys_le hown Tryz.underlying9
  have hsz := size_strKeys hown
  have HV := Lib.hid hval
  have HKL := Lib.hid hkl
  have HS := Lib.hid hsz
  have H1 := Lib.hid hi
  have H2 := Lib.hid hz0
  have H3 := Lib.hid hz1
  have H4 := Lib.hid hz2
  clear hval hkl hsz hi hz0 hz1 hz2
  go_enter Tryz.func21, Tryz.ntmps21
  go_wp2_with (first
    | (go_at_call 32; ((with_reducible refine (keys_calls _ _).mono ?_); rintro e w' ⟨rfl, rfl⟩))
    | (go_at_call 31; ((with_reducible refine (sorted_calls b nn D0 _ w hown hmax).mono ?_); rintro e w1 ⟨A, c, ss, rfl, hp, hl, hb⟩)))
  have hown1 : w1.ownsMap Tryz.prog 9 (plainElem Tryz.prog 2) b nn D0 := by
    have hg : w.grownBy w1 none := grown_below (((Below.refl _ w).alloc (Nat.le_refl _) _).trans hb) (Nat.le_refl _)
    exact hown.kept hg (by simp)
  have hlen : ss.length ≤ 1099511627776 := by have := hp.length_eq; have := HS.out; omega
  obtain ⟨ks, hks⟩ : ∃ ks, ks = srt ss := ⟨_, rfl⟩
  have hkn : ks.length = ss.length := by rw [hks, srt, List.length_mergeSort]
  have hkm : ∀ x ∈ ks, x.length ≤ maxLen := fun x hx => HKL.out x (hp.mem_iff.1 (by rw [hks, srt, List.mem_mergeSort] at hx; exact hx))
  have HP := Lib.hid hp
  have HKS := Lib.hid hks
  have HKN := Lib.hid hkn
  have HKM := Lib.hid hkm
  rw [← hks] at hl
  have hle : ks.length ≤ ss.length ∧ ss.length ≤ ks.length := by omega
  obtain ⟨hle1, hle2⟩ := hle
  have hbw := hb.size
  simp only [World.size_alloc] at hbw
  clear hp hks hkn hkm
  go_loopw [3, 10] (fun v i wr => ∃ k : Nat, k ≤ ss.length ∧ i = .int .i64 k ∧ wr.ownsRow w1.heap.size 38 2 v k (pcells ((ks.take k).map fun it => (it, f it))) ∧ Below w1.heap.size w1 wr)
    (fun _ i _ => ss.length - (intOf i).toNat)
  case atStart => exact ⟨0, Nat.zero_le _, rfl, World.ownsRow_nil _ _ _ _, Below.refl _ _⟩
  case round =>
    obtain ⟨k, hk, rfl, hrow, hbr⟩ := hrel
    by_cases hlt : k < ss.length
    · obtain ⟨key, hkey⟩ : ∃ key, ks[k]? = some key := ⟨_, List.getElem?_eq_getElem (by omega)⟩
      have hkmem : key.length ≤ maxLen := HKM.out key (List.mem_of_getElem? hkey)
      have hcell := (hl.below hbr).get (j := k) (u := encStr key) (by rw [List.getElem?_map, hkey]; rfl)
      obtain ⟨ad, rfl, hadb, hcell⟩ := hcell
      have hownr : wr.ownsMap Tryz.prog 9 (plainElem Tryz.prog 2) b nn D0 := hown1.kept (grown_below hbr (Nat.le_refl _)) (by simp)
      go_wp2_with (first
        | (at_lookup; refine wpList_lookup_own_int _ rfl _ _ 44 rfl 9 2 .i64 skeyed Tryz.underlying44 Tryz.underlying2 (zero64 _) b nn D0 rfl hownr _ _ rfl (key_of key hkmem) ?_; intro c hat hwc; obtain rfl : f key = c := by (rw [HV.out] at hat; simpa using hat))
        | (at_builtin; refine wpList_append_own_at _ rfl (.tmp 14) (.tmp 20) 22 rfl w1.heap.size 38 i0 _ 2 24 Tryz.underlying22 H1.out H2.out H3.out H4.out rfl (by decide) _ k _ rfl (hrow.alloc _) ⟨wr.heap.size, 0, none⟩ 1 1 [encStr key, .int .i64 (f key)] rfl rfl (two_new _ _ _ _) (two_one _ _) (by unfold maxLen; omega) (by omega) (by simp only [World.size_alloc]; have := hbr.size; omega) ?_; intro v' w2 hown2 hg2 _ hat2))
      have hcs : wr.ownsRow w1.heap.size 38 2 _ k _ := hrow
      have hst : pcells ((ks.take (k + 1)).map fun it => (it, f it)) = pcells ((ks.take k).map fun it => (it, f it)) ++ [encStr key, .int .i64 (f key)] := by
        rw [List.take_add_one, hkey, List.map_append, pcells_append]; rfl
      have hbn : Below w1.heap.size w1 w2 := (hbr.alloc hbr.size _).grown hg2 (by simp only [World.size_alloc]; have := hbr.size; omega) (fun j hj => (hcs.lt j hj).1)
      go_roundw
      case rel => exact ⟨k + 1, by omega, by go_num, by rw [hst]; exact hown2, hbn⟩
      case measure => simp [intOf]; omega
    · obtain rfl : k = ss.length := by omega
      go_wp2
      go_ret
      refine ⟨_, ss, rfl, HP.out, ?_, ?_⟩
      · have h := base_less hrow (base' := w.heap.size) (by omega)
        rw [List.take_of_length_le (by omega), HKS.out] at h
        exact h
      · exact (((Below.refl _ w).alloc (Nat.le_refl _) _).trans hb).trans (hbr.mono (by omega))
end Go.Proofs.YtfppiigmibjbnaaGreat
