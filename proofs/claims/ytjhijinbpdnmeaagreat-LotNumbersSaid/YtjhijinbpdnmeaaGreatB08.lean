/- Texts of this proof, one behind the other. -/
import Derived.BigRegion
import Derived.Deep.DeepCutAuto
import Derived.Test.YtjhijinbpdnmeaaGreatRows
import Derived.Deep.Slices
import Derived.Deep.Fields
import Derived.ChangeSame
import Derived.SizedLaws
import Derived.OpenShut
import Derived.Test.YtjhijinbpdnmeaaGreatB07
import Derived.Test.YtjhijinbpdnmeaaGreatB03
section
/- The law LotNumbers: its four rows. No walk. -/
namespace Go.Proofs.YtjhijinbpdnmeaaGreat
open Go.ChangeShapes Go.WideShapes Go.ChangeAt Go.RowKit Go.Maps
set_option linter.unusedVariables false

def idsC : Array Value := #[.int .i64 (-9223372036854775808), .int .i64 (-1), .int .i64 0, .int .i64 1, .int .i64 2, .int .i64 9223372036854775807]
def daysC : Array Value := #[.int .i64 (-9223372036854775808), .int .i64 (-1), .int .i64 0, .int .i64 1, .int .i64 3999, .int .i64 4000, .int .i64 4001, .int .i64 4002, .int .i64 9223372036854775807]
def qtysC : Array Value := #[.int .i64 (-1), .int .i64 0, .int .i64 1, .int .i64 1073741824, .int .i64 1073741825, .int .i64 9223372036854775807]
def itemsC : Array Value := #[.string ⟨#[]⟩, .string ⟨#[65]⟩, .string ⟨#[97]⟩, .string ⟨#[65, 66, 67, 68, 69, 70, 71, 72, 73, 74, 75, 76, 77]⟩]
abbrev numW (w : World) : World := (((w.alloc (.cells idsC 3)).alloc (.cells daysC 3)).alloc (.cells qtysC 2)).alloc (.cells itemsC 9)
/-- What the four rows hold. -/
structure Rws (n : Nat) (W : World) : Prop where
  id : ∀ j, j < 6 → ∃ x : Int, W.cell? ⟨n, j, none⟩ = some (.int .i64 x) ∧ -9223372036854775808 ≤ x ∧ x ≤ 9223372036854775807
  day : ∀ j, j < 9 → ∃ x : Int, W.cell? ⟨n + 1, j, none⟩ = some (.int .i64 x) ∧ -9223372036854775808 ≤ x ∧ x ≤ 9223372036854775807
  qty : ∀ j, j < 6 → ∃ x : Int, W.cell? ⟨n + 2, j, none⟩ = some (.int .i64 x) ∧ -9223372036854775808 ≤ x ∧ x ≤ 9223372036854775807
  txt : ∀ j, j < 4 → ∃ s : List UInt8, W.cell? ⟨n + 3, j, none⟩ = some (.string ⟨s.toArray⟩) ∧ s.length ≤ 13
theorem Rws.below {n : Nat} {W W' : World} (h : Rws n W) (hb : Go.RowKit.Below (n + 4) W W') : Rws n W' := by
  have c : ∀ (g j : Nat), g < n + 4 → W'.cell? ⟨g, j, none⟩ = W.cell? ⟨g, j, none⟩ := fun g j hg => hb.cell (p := ⟨g, j, none⟩) hg
  exact ⟨fun j hj => by rw [c n j (by omega)]; exact h.id j hj, fun j hj => by rw [c (n + 1) j (by omega)]; exact h.day j hj, fun j hj => by rw [c (n + 2) j (by omega)]; exact h.qty j hj, fun j hj => by rw [c (n + 3) j (by omega)]; exact h.txt j hj⟩
theorem rows_start (w : World) : Rws w.heap.size (numW w) ∧ Go.RowKit.Below w.heap.size w (numW w) ∧ (numW w).heap.size = w.heap.size + 4 := by
  have h1 : (numW w).heap[w.heap.size]? = some (.cells idsC 3) := by
    simp only [numW]
    rw [Below.heap_alloc _ _ _ (by simp only [World.size_alloc]; omega), Below.heap_alloc _ _ _ (by simp only [World.size_alloc]; omega), Below.heap_alloc _ _ _ (by simp only [World.size_alloc]; omega)]
    exact heap_alloc_new w _
  have h2 : (numW w).heap[w.heap.size + 1]? = some (.cells daysC 3) := by
    simp only [numW]
    rw [Below.heap_alloc _ _ _ (by simp only [World.size_alloc]; omega), Below.heap_alloc _ _ _ (by simp only [World.size_alloc]; omega)]
    have := heap_alloc_new (w.alloc (.cells idsC 3)) (.cells daysC 3)
    simpa only [World.size_alloc] using this
  have h3 : (numW w).heap[w.heap.size + 2]? = some (.cells qtysC 2) := by
    simp only [numW]
    rw [Below.heap_alloc _ _ _ (by simp only [World.size_alloc]; omega)]
    have := heap_alloc_new ((w.alloc (.cells idsC 3)).alloc (.cells daysC 3)) (.cells qtysC 2)
    simpa only [World.size_alloc] using this
  have h4 : (numW w).heap[w.heap.size + 3]? = some (.cells itemsC 9) := by
    have := heap_alloc_new (((w.alloc (.cells idsC 3)).alloc (.cells daysC 3)).alloc (.cells qtysC 2)) (.cells itemsC 9)
    simpa only [World.size_alloc] using this
  refine ⟨⟨fun j hj => ?_, fun j hj => ?_, fun j hj => ?_, fun j hj => ?_⟩, ?_, by simp only [numW, World.size_alloc]⟩
  · rw [cell_of_row _ _ _ _ _ _ h1]
    match j, hj with
    | 0, _ => exact ⟨_, rfl, by omega, by omega⟩
    | 1, _ => exact ⟨_, rfl, by omega, by omega⟩
    | 2, _ => exact ⟨_, rfl, by omega, by omega⟩
    | 3, _ => exact ⟨_, rfl, by omega, by omega⟩
    | 4, _ => exact ⟨_, rfl, by omega, by omega⟩
    | 5, _ => exact ⟨_, rfl, by omega, by omega⟩
  · rw [cell_of_row _ _ _ _ _ _ h2]
    match j, hj with
    | 0, _ => exact ⟨_, rfl, by omega, by omega⟩
    | 1, _ => exact ⟨_, rfl, by omega, by omega⟩
    | 2, _ => exact ⟨_, rfl, by omega, by omega⟩
    | 3, _ => exact ⟨_, rfl, by omega, by omega⟩
    | 4, _ => exact ⟨_, rfl, by omega, by omega⟩
    | 5, _ => exact ⟨_, rfl, by omega, by omega⟩
    | 6, _ => exact ⟨_, rfl, by omega, by omega⟩
    | 7, _ => exact ⟨_, rfl, by omega, by omega⟩
    | 8, _ => exact ⟨_, rfl, by omega, by omega⟩
  · rw [cell_of_row _ _ _ _ _ _ h3]
    match j, hj with
    | 0, _ => exact ⟨_, rfl, by omega, by omega⟩
    | 1, _ => exact ⟨_, rfl, by omega, by omega⟩
    | 2, _ => exact ⟨_, rfl, by omega, by omega⟩
    | 3, _ => exact ⟨_, rfl, by omega, by omega⟩
    | 4, _ => exact ⟨_, rfl, by omega, by omega⟩
    | 5, _ => exact ⟨_, rfl, by omega, by omega⟩
  · rw [cell_of_row _ _ _ _ _ _ h4]
    match j, hj with
    | 0, _ => exact ⟨[], rfl, by simp⟩
    | 1, _ => exact ⟨[65], rfl, by simp⟩
    | 2, _ => exact ⟨[97], rfl, by simp⟩
    | 3, _ => exact ⟨[65, 66, 67, 68, 69, 70, 71, 72, 73, 74, 75, 76, 77], rfl, by simp⟩
  · exact ((((Below.refl _ w).alloc (Nat.le_refl _) _).alloc (by simp only [World.size_alloc]; omega) _).alloc (by simp only [World.size_alloc]; omega) _).alloc (by simp only [World.size_alloc]; omega) _
theorem tmod_nat (a b : Nat) : Int.tmod (a : Int) (b : Int) = ((a % b : Nat) : Int) := (Int.ofNat_tmod a b).symm
theorem mul_small {i k : Nat} (hi : i < 9) (hk : k < 9) : ∃ z : Nat, (i : Int) * (k : Int) = (z : Int) ∧ z ≤ 64 := ⟨i * k, by simp, by have : i * k ≤ 8 * 8 := Nat.mul_le_mul (by omega) (by omega); omega⟩
end Go.Proofs.YtjhijinbpdnmeaaGreat
end
section
/- The law LotNumbers; the walk. -/
namespace Go.Proofs.YtjhijinbpdnmeaaGreat
open Go.ChangeShapes Go.WideShapes Go.ChangeAt Go.RowKit Go.Maps
set_option linter.unusedVariables false

theorem addr_zero (a : Addr) : a.add (0 * 6) = a := by simp [Addr.add]
theorem twelve_new (w : World) (x y : Lt) (t : TypeId) : ∀ (j : Nat) (u : Value), (encL x ++ encL y)[j]? = some u → (w.alloc (.cells #[.int .i64 x.id, .string ⟨x.item.toArray⟩, .int .i64 x.fr, .int .i64 x.un, .int .i64 x.qty, .bool x.arr, .int .i64 y.id, .string ⟨y.item.toArray⟩, .int .i64 y.fr, .int .i64 y.un, .int .i64 y.qty, .bool y.arr] t)).cell? ((⟨w.heap.size, 0, none⟩ : Addr).add j) = some u := by
  intro j u h
  rw [fresh_cell, ← h, ← Array.getElem?_toList]
  rfl
theorem twelve_one (x y : Lt) : ∀ u ∈ encL x ++ encL y, u.oneCell' = true := by
  intro u hu
  rcases List.mem_append.1 hu with h | h
  · exact encL_one x u h
  · exact encL_one y u h
theorem lsl_lies {w : World} {B : Nat} {A : Option Addr} {c : Nat} {l : List Lt} (h : LSl w B (.slice A l.length c) l) : Lies w B A (lcells l) := by
  obtain ⟨A', c', he, _, _, _, hl⟩ := h
  cases he
  exact hl

set_option maxRecDepth 100000 in
set_option maxHeartbeats 8000000 in
theorem numbers_any (w : World) : Calls Tryz.prog 4 #[] w fun e w' => e = .returned (.bool true) ∧ Go.RowKit.Below w.heap.size w w' := by
  obtain ⟨i0, hi, hz0, hz1, hz2⟩ := info_parts infoLot
  have H1 := Lib.hid hi
  have H2 := Lib.hid hz0
  have H3 := Lib.hid hz1
  have H4 := Lib.hid hz2
  clear hi hz0 hz1 hz2
  obtain ⟨hrw, hb0, hsz⟩ := rows_start w
  unfold numW idsC daysC qtysC itemsC at hrw hb0 hsz
  have HR0 := Lib.hid hrw
  have HB0 := Lib.hid hb0
  clear hrw hb0
  go_enter Tryz.func4, Tryz.ntmps4
  go_wp2
  rw [show w.heap.size + 1 + 1 + 1 = w.heap.size + 3 from rfl, show w.heap.size + 1 + 1 = w.heap.size + 2 from rfl]
  obtain ⟨W0, hW0⟩ : ∃ W0, W0 = (((w.alloc (.cells #[.int .i64 (-9223372036854775808), .int .i64 (-1), .int .i64 0, .int .i64 1, .int .i64 2, .int .i64 9223372036854775807] 3)).alloc (.cells #[.int .i64 (-9223372036854775808), .int .i64 (-1), .int .i64 0, .int .i64 1, .int .i64 3999, .int .i64 4000, .int .i64 4001, .int .i64 4002, .int .i64 9223372036854775807] 3)).alloc (.cells #[.int .i64 (-1), .int .i64 0, .int .i64 1, .int .i64 1073741824, .int .i64 1073741825, .int .i64 9223372036854775807] 2)).alloc (.cells #[.string ⟨#[]⟩, .string ⟨#[65]⟩, .string ⟨#[97]⟩, .string ⟨#[65, 66, 67, 68, 69, 70, 71, 72, 73, 74, 75, 76, 77]⟩] 9) := ⟨_, rfl⟩
  rw [← hW0] at HR0 HB0 hsz ⊢
  clear hW0
  obtain ⟨n0, hn0⟩ : ∃ n0, w.heap.size = n0 := ⟨_, rfl⟩
  rw [hn0] at HR0 hsz ⊢
  go_loopw [5, 6] (fun v i wr => ∃ a : Nat, a ≤ 9 ∧ i = .int .i64 a ∧ ∃ l : List Lt, Hid (wr.ownsRow (n0 + 4) 41 6 v l.length (lcells l)) ∧ Hid (l.length = 18 * a) ∧ Hid (Sized l) ∧ Hid (Go.RowKit.Below (n0 + 4) W0 wr)) (fun _ i _ => 9 - (intOf i).toNat)
  case atStart => exact ⟨0, by omega, rfl, [], Lib.hid ⟨rfl, .inl ⟨rfl, rfl⟩⟩, Lib.hid rfl, Lib.hid (by intro x hx; simp at hx), Lib.hid (Below.refl _ _)⟩
  case round =>
    obtain ⟨a, ha, rfl, l, HO, HLA, HSZ, HB⟩ := hrel
    obtain ⟨A, c, rfl, hca, hcb, hcc⟩ := own_form HO.out
    by_cases halt : a < 9
    · go_wp2
      obtain ⟨wo, rfl⟩ : ∃ wo : World, wo = wr := ⟨_, rfl⟩
      go_loopw [5, 7] (fun v i wr => ∃ k : Nat, k ≤ 9 ∧ i = .int .i64 k ∧ ∃ l : List Lt, Hid (wr.ownsRow (n0 + 4) 41 6 v l.length (lcells l)) ∧ Hid (l.length = 18 * a + 2 * k) ∧ Hid (Sized l) ∧ Hid (Go.RowKit.Below (n0 + 4) W0 wr)) (fun _ i _ => 9 - (intOf i).toNat)
      case atStart => exact ⟨0, by omega, rfl, l, HO, Lib.hid (by have := HLA.out; omega), HSZ, HB⟩
      case round =>
        clear HO HSZ HB hca hcb hcc HLA
        obtain ⟨k, hk, rfl, l, HO, HLA, HSZ, HB⟩ := hrel
        obtain ⟨A, c, rfl, hca, hcb, hcc⟩ := own_form HO.out
        by_cases hklt : k < 9
        · obtain ⟨z, hz, hz64⟩ := mul_small halt hklt
          have HR := Lib.hid (HR0.out.below HB.out)
          obtain ⟨x1, c1, b1, b1'⟩ := HR.out.id ((a + k) % 6) (by omega)
          obtain ⟨s2, c2, b2⟩ := HR.out.txt ((z + 1) % 4) (by omega)
          obtain ⟨x3, c3, b3, b3'⟩ := HR.out.day a (by omega)
          obtain ⟨x4, c4, b4, b4'⟩ := HR.out.day k (by omega)
          obtain ⟨x5, c5, b5, b5'⟩ := HR.out.qty ((2 * a + k) % 6) (by omega)
          obtain ⟨r6, hr6⟩ : ∃ r, decide ((a + k) % 2 = 0) = r := ⟨_, rfl⟩
          have t1 := tmod_nat (a + k) 6
          have t2 := tmod_nat (z + 1) 4
          have t3 := tmod_nat (2 * a + k) 6
          have t4 := tmod_nat (a + k) 2
          obtain ⟨i1, hi1, j1⟩ : ∃ i, (a + k) % 6 = i ∧ i < 6 := ⟨_, rfl, by omega⟩
          obtain ⟨i2, hi2, j2⟩ : ∃ i, (z + 1) % 4 = i ∧ i < 4 := ⟨_, rfl, by omega⟩
          obtain ⟨i3, hi3, j3⟩ : ∃ i, (2 * a + k) % 6 = i ∧ i < 6 := ⟨_, rfl, by omega⟩
          obtain ⟨i4, hi4, j4⟩ : ∃ i, (a + k) % 2 = i ∧ i < 2 := ⟨_, rfl, by omega⟩
          rw [hi1] at c1 t1
          rw [hi2] at c2 t2
          rw [hi3] at c5 t3
          rw [hi4] at t4 hr6
          push_cast at t1 t2 t3 t4
          clear hi1 hi2 hi3 hi4
          have hwz := HB.out.size
          have halc : ∀ g j : Nat, g < n0 + 4 → (wr.alloc (.cells #[.int .i64 0, .string ⟨#[]⟩, .int .i64 0, .int .i64 0, .int .i64 0, .bool false] 41)).cell? ⟨g, j, none⟩ = wr.cell? ⟨g, j, none⟩ := fun g j hg => ((Below.refl wr.heap.size wr).alloc (Nat.le_refl _) _).cell (p := ⟨g, j, none⟩) (by show g < wr.heap.size; omega)
          have d1 := (halc n0 i1 (by omega)).trans c1
          have d2 := (halc (n0 + 3) i2 (by omega)).trans c2
          have d3 := (halc (n0 + 1) a (by omega)).trans c3
          have d4 := (halc (n0 + 1) k (by omega)).trans c4
          have d5 := (halc (n0 + 2) i3 (by omega)).trans c5
          clear halc
          go_upto_region 12 with (fail)
          go_cut [8] (fun v wx => v = .pointer (some ⟨wr.heap.size, 0, none⟩) ∧ wx = (wr.alloc (.cells #[.int .i64 x1, .string ⟨s2.toArray⟩, .int .i64 x3, .int .i64 x4, .int .i64 x5, .bool ((i4 : Int) == 0)] 41)).drew)
          case first =>
            go_region
            all_goals (go_wp2_with fail; go_meet; exact ⟨rfl, rfl⟩)
          case rest =>
            obtain ⟨rfl, rfl⟩ := hcut
            clear d1 d2 d3 d4 d5 c1 c2 c3 c4 c5 t1 t2 t3 t4 hz
            obtain ⟨i5, hi5, j5⟩ : ∃ i, k % 2 = i ∧ i < 2 := ⟨_, rfl, by omega⟩
            have t5 := tmod_nat k 2
            rw [hi5] at t5
            push_cast at t5
            have hbx : Box6 (wr.alloc (.cells #[.int .i64 x1, .string ⟨s2.toArray⟩, .int .i64 x3, .int .i64 x4, .int .i64 x5, .bool ((i4 : Int) == 0)] 41)).drew wr.heap.size ⟨x1, s2, x3, x4, x5, (i4 : Int) == 0⟩ := Box6.new wr ⟨x1, s2, x3, x4, x5, (i4 : Int) == 0⟩
            obtain ⟨q0, q1, q2, q3, q4, q5⟩ := hbx.cells
            have HO2 : Hid ((wr.alloc (.cells #[.int .i64 x1, .string ⟨s2.toArray⟩, .int .i64 x3, .int .i64 x4, .int .i64 x5, .bool ((i4 : Int) == 0)] 41)).drew.ownsRow (n0 + 4) 41 6 (.slice A l.length c) l.length (lcells l)) := Lib.hid (own_stay (HO.out.alloc _) (draws_none _ 1))
            have hb2 : Hid (Go.RowKit.Below (n0 + 4) W0 (wr.alloc (.cells #[.int .i64 x1, .string ⟨s2.toArray⟩, .int .i64 x3, .int .i64 x4, .int .i64 x5, .bool ((i4 : Int) == 0)] 41)).drew) := Lib.hid ((HB.out.alloc (by omega) _).drew)
            have HN := Lib.hid (twelve_new (wr.alloc (.cells #[.int .i64 x1, .string ⟨s2.toArray⟩, .int .i64 x3, .int .i64 x4, .int .i64 x5, .bool ((i4 : Int) == 0)] 41)).drew ⟨x1, s2, x3, x4, x5, (i4 : Int) == 0⟩ ⟨1, [65], x3, x4, 1073741824, (i5 : Int) == 0⟩ 41)
            have hwd : (wr.alloc (.cells #[.int .i64 x1, .string ⟨s2.toArray⟩, .int .i64 x3, .int .i64 x4, .int .i64 x5, .bool ((i4 : Int) == 0)] 41)).drew.heap.size = wr.heap.size + 1 := by show (wr.alloc _).heap.size = _; simp only [World.size_alloc]
            have hbase : ∀ o, n0 + 4 ≤ ((wr.alloc (.cells #[.int .i64 x1, .string ⟨s2.toArray⟩, .int .i64 x3, .int .i64 x4, .int .i64 x5, .bool ((i4 : Int) == 0)] 41)).drew.alloc o).heap.size := fun o => by rw [World.size_alloc, hwd]; omega
            have hl162 : l.length ≤ 160 := by have := HLA.out; omega
            go_wp2_with (at_builtin; refine wpList_append_own _ rfl _ _ 22 rfl (n0 + 4) 41 i0 _ 6 56 Tryz.underlying22 H1.out H2.out H3.out H4.out rfl (by decide) _ _ _ rfl (HO2.out.alloc _) ⟨wr.heap.size + 1, 0, none⟩ 2 2 (encL ⟨x1, s2, x3, x4, x5, (i4 : Int) == 0⟩ ++ encL ⟨1, [65], x3, x4, 1073741824, (i5 : Int) == 0⟩) rfl rfl (by have hn := HN.out; rw [hwd] at hn; exact hn) (twelve_one _ _) (by unfold maxLen; omega) (by omega) (hbase _) ?_; intro v' w3 hown3 hg3 _; obtain ⟨A3, c3', rfl, qa3, qb3, qc3⟩ := own_form hown3; have ho3 := Lib.hid hown3; have hG3 := Lib.hid hg3; clear hown3 hg3)
            have hb3 : Hid (Go.RowKit.Below (n0 + 4) W0 w3) := Lib.hid ((hb2.out.alloc (by rw [hwd]; omega) _).grown hG3.out (hbase _) (fun j hj => (HO.out.lt j hj).1))
            have hll : (l ++ ([⟨x1, s2, x3, x4, x5, (i4 : Int) == 0⟩, ⟨1, [65], x3, x4, 1073741824, (i5 : Int) == 0⟩] : List Lt)).length = l.length + 2 := by simp
            have ho4 : Hid (w3.ownsRow (n0 + 4) 41 6 (.slice A3 (l.length + 2) c3') (l ++ ([⟨x1, s2, x3, x4, x5, (i4 : Int) == 0⟩, ⟨1, [65], x3, x4, 1073741824, (i5 : Int) == 0⟩] : List Lt)).length (lcells (l ++ ([⟨x1, s2, x3, x4, x5, (i4 : Int) == 0⟩, ⟨1, [65], x3, x4, 1073741824, (i5 : Int) == 0⟩] : List Lt)))) := Lib.hid (by rw [hll, lcells_append]; simpa [lcells] using ho3.out)
            have hsz4 : Hid (Sized (l ++ ([⟨x1, s2, x3, x4, x5, (i4 : Int) == 0⟩, ⟨1, [65], x3, x4, 1073741824, (i5 : Int) == 0⟩] : List Lt))) := Lib.hid (by
              intro y hy
              rcases List.mem_append.1 hy with hy | hy
              · exact HSZ.out y hy
              · simp only [List.mem_cons, List.not_mem_nil, or_false] at hy
                rcases hy with rfl | rfl
                · exact ⟨b1, b1', by show s2.length ≤ maxLen; unfold maxLen; omega, b3, b3', b4, b4', b5, b5'⟩
                · exact ⟨by show (-9223372036854775808 : Int) ≤ 1; omega, by show (1 : Int) ≤ 9223372036854775807; omega, by show [(65 : UInt8)].length ≤ maxLen; unfold maxLen; decide, b3, b3', b4, b4', by show (-9223372036854775808 : Int) ≤ 1073741824; omega, by show (1073741824 : Int) ≤ 9223372036854775807; omega⟩)
            go_roundw
            case rel => exact ⟨k + 1, by omega, by go_num, l ++ ([⟨x1, s2, x3, x4, x5, (i4 : Int) == 0⟩, ⟨1, [65], x3, x4, 1073741824, (i5 : Int) == 0⟩] : List Lt), ho4, Lib.hid (by rw [hll, HLA.out]; omega), hsz4, hb3⟩
            case measure => simp [intOf]; omega
        · obtain rfl : k = 9 := by omega
          go_wp2
          go_roundw
          case rel => exact ⟨a + 1, by omega, by go_num, l, HO, Lib.hid (by have := HLA.out; omega), HSZ, HB⟩
          case measure => simp [intOf]; omega
    · have hd9 : decide ((a : Int) < 9) = false := decide_eq_false (by omega)
      have hn1 : l.length ≤ 162 := by have := HLA.out; omega
      have hn2 : 162 ≤ l.length := by have := HLA.out; omega
      have HLL := Lib.hid (LSl.own HO.out)
      go_wp2
      obtain ⟨w5, rfl⟩ : ∃ w5 : World, w5 = wr := ⟨_, rfl⟩
      go_loopw [9] (fun i wr => ∃ a : Nat, a ≤ l.length ∧ i = .int .i64 a ∧ Hid (Go.RowKit.Below w5.heap.size w5 wr)) (fun i _ => l.length - (intOf i).toNat)
      case atStart => exact ⟨0, by omega, rfl, Lib.hid (Below.refl _ _)⟩
      case round =>
        obtain ⟨a, ha, rfl, HB5⟩ := hrel
        by_cases halt : a < l.length
        · obtain ⟨X, hX⟩ : ∃ X, l[a]? = some X := ⟨_, List.getElem?_eq_getElem halt⟩
          obtain ⟨j, hjE, hj⟩ : ∃ j, (7 * a + 3) % l.length = j ∧ j < l.length := ⟨_, rfl, Nat.mod_lt _ (by omega)⟩
          obtain ⟨Y, hY⟩ : ∃ Y, l[j]? = some Y := ⟨_, List.getElem?_eq_getElem hj⟩
          have tj : Int.tmod ((a : Int) * 7 + 3) (l.length : Int) = (j : Int) := by have := tmod_nat (7 * a + 3) l.length; rw [hjE] at this; rw [← this, show ((a : Int) * 7 + 3) = ((7 * a + 3 : Nat) : Int) by omega]
          have hne : ((l.length : Int) == 0) = false := beq_eq_false_iff_ne.2 (by omega)
          obtain ⟨ad, rfl, hadb, _⟩ := (lsl_lies HLL.out).six hX
          have HX := Lib.hid hX
          have HY := Lib.hid hY
          clear hX hY hjE
          go_upto_region 17 with (fail)
          go_cut [97] (fun v wx => v = .bool false ∧ Go.RowKit.Below w5.heap.size w5 wx)
          case first =>
            refine wp_region_held_drew (S := fun w' => Go.RowKit.Below w5.heap.size w5 w') (by kernel_rfl) (HB5.out.drew) (fun hS => ?_)
            refine wpAnyH_take (i := 0) (v := (.slice (some ad) l.length c)) rfl (by kernel_rfl) (by kernel_rfl) (by kernel_rfl) (fun _ _ _ h => h) (Or.inl ⟨by kernel_rfl, fun w' hS' => by go_simp⟩) hS ?_
            refine wpAnyH_take (i := 1) (v := (.int .i64 (a : Int))) rfl (by kernel_rfl) (by kernel_rfl) (by kernel_rfl) (fun _ _ _ h => h) (Or.inl ⟨by kernel_rfl, fun w' hS' => by go_simp⟩) hS ?_
            refine wpAnyH_take (i := 2) (v := (.pointer (some (ad.add (a * 6))))) rfl (by kernel_rfl) (by kernel_rfl) (by kernel_rfl) (fun _ _ _ h => h) (Or.inl ⟨by kernel_rfl, fun w' hS' => by go_simp⟩) hS ?_
            refine wpAnyH_take (i := 3) (v := (aggL X)) rfl (by kernel_rfl) (by kernel_rfl) (by kernel_rfl) (fun _ _ _ h => h) (Or.inl ⟨by kernel_rfl, fun w' hS' => by obtain ⟨ap, hap, _, p0, p1, p2, p3, p4, p5⟩ := (lsl_lies (HLL.out.below hS')).six HX.out; cases hap; go_simp⟩) hS ?_
            refine wpAnyH_take (i := 4) (v := (.slice (some ad) l.length c)) rfl (by kernel_rfl) (by kernel_rfl) (by kernel_rfl) (fun _ _ _ h => h) (Or.inl ⟨by kernel_rfl, fun w' hS' => by go_simp⟩) hS ?_
            refine wpAnyH_take (i := 5) (v := (.int .i64 (a : Int))) rfl (by kernel_rfl) (by kernel_rfl) (by kernel_rfl) (fun _ _ _ h => h) (Or.inl ⟨by kernel_rfl, fun w' hS' => by go_simp⟩) hS ?_
            refine wpAnyH_take (i := 6) (v := (.int .i64 ((a : Int) * 7))) rfl (by kernel_rfl) (by kernel_rfl) (by kernel_rfl) (fun _ _ _ h => h) (Or.inl ⟨by kernel_rfl, fun w' hS' => by (go_simp; rw [IntKind.wrap_i64]; omega)⟩) hS ?_
            refine wpAnyH_take (i := 7) (v := (.int .i64 ((a : Int) * 7 + 3))) rfl (by kernel_rfl) (by kernel_rfl) (by kernel_rfl) (fun _ _ _ h => h) (Or.inl ⟨by kernel_rfl, fun w' hS' => by (go_simp; rw [IntKind.wrap_i64]; omega)⟩) hS ?_
            refine wpAnyH_take (i := 8) (v := (.slice (some ad) l.length c)) rfl (by kernel_rfl) (by kernel_rfl) (by kernel_rfl) (fun _ _ _ h => h) (Or.inl ⟨by kernel_rfl, fun w' hS' => by go_simp⟩) hS ?_
            refine wpAnyH_take (i := 9) (v := (.int .i64 (l.length : Int))) rfl (by kernel_rfl) (by kernel_rfl) (by kernel_rfl) (fun _ _ _ h => h) (Or.inl ⟨by kernel_rfl, fun w' hS' => by go_simp⟩) hS ?_
            refine wpAnyH_take (i := 10) (v := (.int .i64 (j : Int))) rfl (by kernel_rfl) (by kernel_rfl) (by kernel_rfl) (fun _ _ _ h => h) (Or.inl ⟨by kernel_rfl, fun w' hS' => by (go_simp; intro e; rw [e] at hn2; simp at hn2)⟩) hS ?_
            refine wpAnyH_take (i := 11) (v := (.pointer (some (ad.add (j * 6))))) rfl (by kernel_rfl) (by kernel_rfl) (by kernel_rfl) (fun _ _ _ h => h) (Or.inl ⟨by kernel_rfl, fun w' hS' => by go_simp⟩) hS ?_
            refine wpAnyH_take (i := 12) (v := (aggL Y)) rfl (by kernel_rfl) (by kernel_rfl) (by kernel_rfl) (fun _ _ _ h => h) (Or.inl ⟨by kernel_rfl, fun w' hS' => by obtain ⟨ap, hap, _, p0, p1, p2, p3, p4, p5⟩ := (lsl_lies (HLL.out.below hS')).six HY.out; cases hap; go_simp⟩) hS ?_
            refine wpAnyH_ready (rs := [13]) (by kernel_rfl) (by simp) ?_
            refine AllReadyH.cons rfl (fun K hK => ?_) AllReadyH.nil
            go_simp
            refine (rights_any X Y _).mono ?_
            rintro e w6 ⟨rfl, hb6⟩
            refine hK.out _ _ (hS.trans (hb6.mono hS.size)) (fun hS => ?_)
            clear hK K
            clear hb6
            refine wpAnyH_take (i := 14) (v := (.bool false)) rfl (by kernel_rfl) (by kernel_rfl) (by kernel_rfl) (fun _ _ _ h => h) (Or.inl ⟨by kernel_rfl, fun w' hS' => by go_simp⟩) hS ?_
            refine wpAnyH_done (by kernel_rfl) ?_ _
            go_wp2_with fail
            go_meet
            exact ⟨rfl, hS⟩
          case rest =>
            obtain ⟨rfl, hb6⟩ := hcut
            have HB6 := Lib.hid hb6
            clear hb6
            go_wp2
            go_roundw
            case rel => exact ⟨a + 1, by omega, by go_num, HB6⟩
            case measure => simp [intOf]; omega
        · obtain rfl : a = l.length := by omega
          clear halt ha
          have HR5 := Lib.hid (HR0.out.below HB.out)
          have hn5 : n0 + 4 ≤ w5.heap.size := by have := HB.out.size; omega
          go_wp2
          go_loopw [10] (fun i wr => ∃ a : Nat, a ≤ 9 ∧ i = .int .i64 a ∧ Hid (Go.RowKit.Below w5.heap.size w5 wr)) (fun i _ => 9 - (intOf i).toNat)
          case atStart => exact ⟨0, by omega, rfl, HB5⟩
          case round =>
            clear HB5
            obtain ⟨a, ha, rfl, HB5⟩ := hrel
            by_cases halt : a < 9
            · obtain ⟨x1, c1, b1, b1'⟩ := HR5.out.day a halt
              obtain ⟨i2, hi2, j2⟩ : ∃ i, a % 4 = i ∧ i < 4 := ⟨_, rfl, by omega⟩
              obtain ⟨s2, c2, b2⟩ := HR5.out.txt i2 j2
              have t2 := tmod_nat a 4
              rw [hi2] at t2
              push_cast at t2
              have hp1 : (⟨n0 + 1, a, none⟩ : Addr).block < w5.heap.size := by show n0 + 1 < _; omega
              have hp2 : (⟨n0 + 3, i2, none⟩ : Addr).block < w5.heap.size := by show n0 + 3 < _; omega
              have HC1 := Lib.hid c1
              have HC2 := Lib.hid c2
              clear c1 c2 hi2
              go_upto_region 22 with (fail)
              go_cut [115] (fun v wx => v = .bool false ∧ Go.RowKit.Below w5.heap.size w5 wx)
              case first =>
                refine wp_region_held_drew (S := fun w' => Go.RowKit.Below w5.heap.size w5 w') (by kernel_rfl) (HB5.out.drew) (fun hS => ?_)
                refine wpAnyH_take (i := 0) (v := (.slice A l.length c)) rfl (by kernel_rfl) (by kernel_rfl) (by kernel_rfl) (fun _ _ _ h => h) (Or.inl ⟨by kernel_rfl, fun w' hS' => by go_simp⟩) hS ?_
                refine wpAnyH_take (i := 1) (v := (.slice (some ⟨n0 + 1, 0, none⟩) 9 9)) rfl (by kernel_rfl) (by kernel_rfl) (by kernel_rfl) (fun _ _ _ h => h) (Or.inl ⟨by kernel_rfl, fun w' hS' => by go_simp⟩) hS ?_
                refine wpAnyH_take (i := 2) (v := (.int .i64 (a : Int))) rfl (by kernel_rfl) (by kernel_rfl) (by kernel_rfl) (fun _ _ _ h => h) (Or.inl ⟨by kernel_rfl, fun w' hS' => by go_simp⟩) hS ?_
                refine wpAnyH_take (i := 3) (v := (.pointer (some ⟨n0 + 1, a, none⟩))) rfl (by kernel_rfl) (by kernel_rfl) (by kernel_rfl) (fun _ _ _ h => h) (Or.inl ⟨by kernel_rfl, fun w' hS' => by go_simp⟩) hS ?_
                refine wpAnyH_take (i := 4) (v := (.int .i64 x1)) rfl (by kernel_rfl) (by kernel_rfl) (by kernel_rfl) (fun _ _ _ h => h) (Or.inl ⟨by kernel_rfl, fun w' hS' => by have hc := (hS'.cell hp1).trans HC1.out; go_simp⟩) hS ?_
                refine wpAnyH_take (i := 5) (v := (.slice (some ⟨n0 + 3, 0, none⟩) 4 4)) rfl (by kernel_rfl) (by kernel_rfl) (by kernel_rfl) (fun _ _ _ h => h) (Or.inl ⟨by kernel_rfl, fun w' hS' => by go_simp⟩) hS ?_
                refine wpAnyH_take (i := 6) (v := (.int .i64 (a : Int))) rfl (by kernel_rfl) (by kernel_rfl) (by kernel_rfl) (fun _ _ _ h => h) (Or.inl ⟨by kernel_rfl, fun w' hS' => by go_simp⟩) hS ?_
                refine wpAnyH_take (i := 7) (v := (.int .i64 (i2 : Int))) rfl (by kernel_rfl) (by kernel_rfl) (by kernel_rfl) (fun _ _ _ h => h) (Or.inl ⟨by kernel_rfl, fun w' hS' => by go_simp⟩) hS ?_
                refine wpAnyH_take (i := 8) (v := (.pointer (some ⟨n0 + 3, i2, none⟩))) rfl (by kernel_rfl) (by kernel_rfl) (by kernel_rfl) (fun _ _ _ h => h) (Or.inl ⟨by kernel_rfl, fun w' hS' => by (go_simp; intro h; exfalso; omega)⟩) hS ?_
                refine wpAnyH_take (i := 9) (v := (.string ⟨s2.toArray⟩)) rfl (by kernel_rfl) (by kernel_rfl) (by kernel_rfl) (fun _ _ _ h => h) (Or.inl ⟨by kernel_rfl, fun w' hS' => by have hc := (hS'.cell hp2).trans HC2.out; go_simp⟩) hS ?_
                refine wpAnyH_ready (rs := [10]) (by kernel_rfl) (by simp) ?_
                refine AllReadyH.cons rfl (fun K hK => ?_) AllReadyH.nil
                go_simp
                refine (lists_any _ l x1 s2 _ ((HLL.out.below hS).mono hS.size) HSZ.out (by omega) (by omega)).mono ?_
                rintro e w6 ⟨rfl, hb6⟩
                refine hK.out _ _ (hS.trans (hb6.mono hS.size)) (fun hS => ?_)
                clear hK K
                clear hb6
                refine wpAnyH_take (i := 11) (v := (.bool false)) rfl (by kernel_rfl) (by kernel_rfl) (by kernel_rfl) (fun _ _ _ h => h) (Or.inl ⟨by kernel_rfl, fun w' hS' => by go_simp⟩) hS ?_
                refine wpAnyH_done (by kernel_rfl) ?_ _
                go_wp2_with fail
                go_meet
                exact ⟨rfl, hS⟩
              case rest =>
                obtain ⟨rfl, hb6⟩ := hcut
                have HB6 := Lib.hid hb6
                clear hb6
                go_wp2
                go_roundw
                case rel => exact ⟨a + 1, by omega, by go_num, HB6⟩
                case measure => simp [intOf]; omega
            · have hd9 : decide ((a : Int) < 9) = false := decide_eq_false (by omega)
              clear ha
              obtain ⟨X0, hX0⟩ : ∃ X, l[0]? = some X := ⟨_, List.getElem?_eq_getElem (by omega)⟩
              have HX0 := Lib.hid hX0
              clear hX0
              go_wp2
              go_loopw [11] (fun i wr => ∃ a : Nat, a ≤ 6 ∧ i = .int .i64 a ∧ Hid (Go.RowKit.Below w5.heap.size w5 wr)) (fun i _ => 6 - (intOf i).toNat)
              case atStart => exact ⟨0, by omega, rfl, HB5⟩
              case round =>
                clear HB5
                obtain ⟨a, ha, rfl, HB5⟩ := hrel
                by_cases halt : a < 6
                · obtain ⟨x1, c1, b1, b1'⟩ := HR5.out.id a halt
                  have HC1 := Lib.hid c1
                  have hp1 : (⟨n0, a, none⟩ : Addr).block < w5.heap.size := by show n0 < _; omega
                  clear c1
                  go_wp2
                  obtain ⟨w7, rfl⟩ : ∃ w7 : World, w7 = wr := ⟨_, rfl⟩
                  go_loopw [12] (fun i wr => ∃ k : Nat, k ≤ 6 ∧ i = .int .i64 k ∧ Hid (Go.RowKit.Below w5.heap.size w5 wr)) (fun i _ => 6 - (intOf i).toNat)
                  case atStart => exact ⟨0, by omega, rfl, HB5⟩
                  case round =>
                    clear HB5
                    obtain ⟨k, hk, rfl, HB5⟩ := hrel
                    by_cases hklt : k < 6
                    · obtain ⟨x2, c2, b2, b2'⟩ := HR5.out.qty k hklt
                      have HC2 := Lib.hid c2
                      have hp2 : (⟨n0 + 2, k, none⟩ : Addr).block < w5.heap.size := by show n0 + 2 < _; omega
                      obtain ⟨ad, rfl, hadb, _⟩ := (lsl_lies HLL.out).six HX0.out
                      clear c2
                      have hla0 : decide (0 < l.length) = true := decide_eq_true (by omega)
                      go_upto_region 30 with (fail)
                      go_cut [138] (fun v wx => v = .bool false ∧ Go.RowKit.Below w5.heap.size w5 wx)
                      case first =>
                        refine wp_region_held_drew (S := fun w' => Go.RowKit.Below w5.heap.size w5 w') (by kernel_rfl) (HB5.out.drew) (fun hS => ?_)
                        refine wpAnyH_take (i := 0) (v := (.slice (some ⟨n0, 0, none⟩) 6 6)) rfl (by kernel_rfl) (by kernel_rfl) (by kernel_rfl) (fun _ _ _ h => h) (Or.inl ⟨by kernel_rfl, fun w' hS' => by go_simp⟩) hS ?_
                        refine wpAnyH_take (i := 1) (v := (.int .i64 (a : Int))) rfl (by kernel_rfl) (by kernel_rfl) (by kernel_rfl) (fun _ _ _ h => h) (Or.inl ⟨by kernel_rfl, fun w' hS' => by go_simp⟩) hS ?_
                        refine wpAnyH_take (i := 2) (v := (.pointer (some ⟨n0, a, none⟩))) rfl (by kernel_rfl) (by kernel_rfl) (by kernel_rfl) (fun _ _ _ h => h) (Or.inl ⟨by kernel_rfl, fun w' hS' => by go_simp⟩) hS ?_
                        refine wpAnyH_take (i := 3) (v := (.int .i64 x1)) rfl (by kernel_rfl) (by kernel_rfl) (by kernel_rfl) (fun _ _ _ h => h) (Or.inl ⟨by kernel_rfl, fun w' hS' => by have hc := (hS'.cell hp1).trans HC1.out; go_simp⟩) hS ?_
                        refine wpAnyH_take (i := 4) (v := (.agg #[.int .i64 0, .int .i64 4001])) rfl (by kernel_rfl) (by kernel_rfl) (by kernel_rfl) (fun _ _ _ h => h) (Or.inl ⟨by kernel_rfl, fun w' hS' => by go_simp⟩) hS ?_
                        refine wpAnyH_take (i := 5) (v := (.slice (some ⟨n0 + 2, 0, none⟩) 6 6)) rfl (by kernel_rfl) (by kernel_rfl) (by kernel_rfl) (fun _ _ _ h => h) (Or.inl ⟨by kernel_rfl, fun w' hS' => by go_simp⟩) hS ?_
                        refine wpAnyH_take (i := 6) (v := (.int .i64 (k : Int))) rfl (by kernel_rfl) (by kernel_rfl) (by kernel_rfl) (fun _ _ _ h => h) (Or.inl ⟨by kernel_rfl, fun w' hS' => by go_simp⟩) hS ?_
                        refine wpAnyH_take (i := 7) (v := (.pointer (some ⟨n0 + 2, k, none⟩))) rfl (by kernel_rfl) (by kernel_rfl) (by kernel_rfl) (fun _ _ _ h => h) (Or.inl ⟨by kernel_rfl, fun w' hS' => by go_simp⟩) hS ?_
                        refine wpAnyH_take (i := 8) (v := (.int .i64 x2)) rfl (by kernel_rfl) (by kernel_rfl) (by kernel_rfl) (fun _ _ _ h => h) (Or.inl ⟨by kernel_rfl, fun w' hS' => by have hc := (hS'.cell hp2).trans HC2.out; go_simp⟩) hS ?_
                        refine wpAnyH_take (i := 9) (v := (aggL ⟨x1, [65], 0, 4001, x2, false⟩)) rfl (by kernel_rfl) (by kernel_rfl) (by kernel_rfl) (fun _ _ _ h => h) (Or.inl ⟨by kernel_rfl, fun w' hS' => by go_simp⟩) hS ?_
                        refine wpAnyH_take (i := 10) (v := (.slice (some ad) l.length c)) rfl (by kernel_rfl) (by kernel_rfl) (by kernel_rfl) (fun _ _ _ h => h) (Or.inl ⟨by kernel_rfl, fun w' hS' => by go_simp⟩) hS ?_
                        refine wpAnyH_take (i := 11) (v := (.pointer (some ad))) rfl (by kernel_rfl) (by kernel_rfl) (by kernel_rfl) (fun _ _ _ h => h) (Or.inl ⟨by kernel_rfl, fun w' hS' => by (go_simp; intro e; rw [e] at hn2; simp at hn2)⟩) hS ?_
                        refine wpAnyH_take (i := 12) (v := (aggL X0)) rfl (by kernel_rfl) (by kernel_rfl) (by kernel_rfl) (fun _ _ _ h => h) (Or.inl ⟨by kernel_rfl, fun w' hS' => by obtain ⟨ap, hap, _, p0, p1, p2, p3, p4, p5⟩ := (lsl_lies (HLL.out.below hS')).six HX0.out; cases hap; rw [addr_zero] at p0 p1 p2 p3 p4 p5; go_simp⟩) hS ?_
                        refine wpAnyH_ready (rs := [13]) (by kernel_rfl) (by simp) ?_
                        refine AllReadyH.cons rfl (fun K hK => ?_) AllReadyH.nil
                        go_simp
                        refine (rights_any ⟨x1, [65], 0, 4001, x2, false⟩ X0 _).mono ?_
                        rintro e w6 ⟨rfl, hb6⟩
                        refine hK.out _ _ (hS.trans (hb6.mono hS.size)) (fun hS => ?_)
                        clear hK K
                        clear hb6
                        refine wpAnyH_take (i := 14) (v := (.bool false)) rfl (by kernel_rfl) (by kernel_rfl) (by kernel_rfl) (fun _ _ _ h => h) (Or.inl ⟨by kernel_rfl, fun w' hS' => by go_simp⟩) hS ?_
                        refine wpAnyH_done (by kernel_rfl) ?_ _
                        go_wp2_with fail
                        go_meet
                        exact ⟨rfl, hS⟩
                      case rest =>
                        obtain ⟨rfl, hb6⟩ := hcut
                        have HB6 := Lib.hid hb6
                        clear hb6
                        go_wp2
                        go_roundw
                        case rel => exact ⟨k + 1, by omega, by go_num, HB6⟩
                        case measure => simp [intOf]; omega
                    · have hd6 : decide ((k : Int) < 6) = false := decide_eq_false (by omega)
                      go_wp2
                      go_roundw
                      case rel => exact ⟨a + 1, by omega, by go_num, HB5⟩
                      case measure => simp [intOf]; omega
                · have hd6 : decide ((a : Int) < 6) = false := decide_eq_false (by omega)
                  go_wp2_with (go_at_call 6; ((with_reducible refine (awake_any _).mono ?_); rintro e w8 ⟨rfl, hb8⟩; have HB8 := Lib.hid (HB5.out.trans (hb8.mono HB5.out.size)); clear hb8))
                  go_ret
                  exact ⟨rfl, HB0.out.trans ((HB.out.trans (HB8.out.mono hn5)).mono (by omega))⟩
end Go.Proofs.YtjhijinbpdnmeaaGreat
end
section
/- Arguments: a lot by value, a list of lots, as cells. -/
namespace Go.Proofs.YtjhijinbpdnmeaaGreat
open Go.ChangeShapes Go.WideShapes Go.ChangeAt Go.RowKit Go.Deep
set_option linter.unusedVariables false
set_option linter.constructorNameAsVariable false
set_option maxRecDepth 100000

theorem win_of_cells {H : Type} {enc : TypeId × Value → H} {W : World} {base fuel : Nat} {sp : Nat → Bool} {held : Bool} {cs : List Value} {x : DataW H × List MemPlace} (hl : cs.length = 2)
    (h : DataW.trod enc Tryz.prog W base sp held fuel 39 cs = some x) : ∃ f u : Int, cs = [.int .i64 f, .int .i64 u] ∧ -9223372036854775808 ≤ f ∧ f ≤ 9223372036854775807 ∧ -9223372036854775808 ≤ u ∧ u ≤ 9223372036854775807 := by
  obtain ⟨ys, n, _, _, _, hyl, hf⟩ := DataW.trod_struct Tryz.underlying39 h
  match cs, hl with
  | [c0, c1], _ =>
    have hC3 : Tryz.prog.cellsOf 3 = 1 := by kernel_rfl
    obtain ⟨y0, hy0⟩ : ∃ y, ys[0]? = some y := ⟨_, List.getElem?_eq_getElem (by rw [hyl]; decide)⟩
    obtain ⟨y1, hy1⟩ : ∃ y, ys[1]? = some y := ⟨_, List.getElem?_eq_getElem (by rw [hyl]; decide)⟩
    have g0 : DataW.trod enc Tryz.prog W base sp held n 3 [c0] = some y0 := by have h := (hf 0 _ rfl).trans hy0; simpa [hC3] using h
    have g1 : DataW.trod enc Tryz.prog W base sp held n 3 [c1] = some y1 := by have h := (hf 1 _ rfl).trans hy1; simpa [hC3] using h
    obtain ⟨f, e0, _, w0⟩ := DataW.trod_int Tryz.underlying3 g0
    obtain ⟨u, e1, _, w1⟩ := DataW.trod_int Tryz.underlying3 g1
    obtain rfl : c0 = _ := by simpa using e0
    obtain rfl : c1 = _ := by simpa using e1
    exact ⟨f, u, rfl, (bounds_i64 w0).1, (bounds_i64 w0).2, (bounds_i64 w1).1, (bounds_i64 w1).2⟩
theorem lot_of_cells {H : Type} {enc : TypeId × Value → H} {W : World} {base fuel : Nat} {sp : Nat → Bool} {held : Bool} {cs : List Value} {x : DataW H × List MemPlace} (hl : cs.length = 6)
    (h : DataW.trod enc Tryz.prog W base sp held fuel 41 cs = some x) : ∃ y : Lt, cs = encL y ∧ y.Fits := by
  obtain ⟨ys, n, _, _, _, hyl, hf⟩ := DataW.trod_struct Tryz.underlying41 h
  match cs, hl with
  | [c0, c1, c2, c3, c4, c5], _ =>
    have hC3 : Tryz.prog.cellsOf 3 = 1 := by kernel_rfl
    have hC2 : Tryz.prog.cellsOf 2 = 1 := by kernel_rfl
    have hC9 : Tryz.prog.cellsOf 9 = 1 := by kernel_rfl
    have hC4 : Tryz.prog.cellsOf 4 = 1 := by kernel_rfl
    have hCW : Tryz.prog.cellsOf 39 = 2 := by kernel_rfl
    obtain ⟨y0, hy0⟩ : ∃ y, ys[0]? = some y := ⟨_, List.getElem?_eq_getElem (by rw [hyl]; decide)⟩
    obtain ⟨y1, hy1⟩ : ∃ y, ys[1]? = some y := ⟨_, List.getElem?_eq_getElem (by rw [hyl]; decide)⟩
    obtain ⟨y2, hy2⟩ : ∃ y, ys[2]? = some y := ⟨_, List.getElem?_eq_getElem (by rw [hyl]; decide)⟩
    obtain ⟨y3, hy3⟩ : ∃ y, ys[3]? = some y := ⟨_, List.getElem?_eq_getElem (by rw [hyl]; decide)⟩
    obtain ⟨y4, hy4⟩ : ∃ y, ys[4]? = some y := ⟨_, List.getElem?_eq_getElem (by rw [hyl]; decide)⟩
    have g0 : DataW.trod enc Tryz.prog W base sp held n 3 [c0] = some y0 := by have h := (hf 0 _ rfl).trans hy0; simpa [hC3] using h
    have g1 : DataW.trod enc Tryz.prog W base sp held n 9 [c1] = some y1 := by have h := (hf 1 _ rfl).trans hy1; simpa [hC9] using h
    have g2 : DataW.trod enc Tryz.prog W base sp held n 39 [c2, c3] = some y2 := by have h := (hf 2 _ rfl).trans hy2; simpa [hCW] using h
    have g3 : DataW.trod enc Tryz.prog W base sp held n 2 [c4] = some y3 := by have h := (hf 3 _ rfl).trans hy3; simpa [hC2] using h
    have g4 : DataW.trod enc Tryz.prog W base sp held n 4 [c5] = some y4 := by have h := (hf 4 _ rfl).trans hy4; simpa [hC4] using h
    obtain ⟨i, e0, _, w0⟩ := DataW.trod_int Tryz.underlying3 g0
    obtain ⟨s, e1, _, w1⟩ := DataW.trod_string Tryz.underlying9 g1
    obtain ⟨f, u, e2, b1, b2, b3, b4⟩ := win_of_cells rfl g2
    obtain ⟨q, e3, _, w3⟩ := DataW.trod_int Tryz.underlying2 g3
    obtain ⟨b, e4, _⟩ := DataW.trod_bool Tryz.underlying4 g4
    simp only [List.cons.injEq, and_true] at e0 e1 e2 e3 e4
    obtain ⟨e2, e2'⟩ := e2
    subst e0 e1 e2 e2' e3 e4
    exact ⟨⟨i, s.data.toList, f, u, q, b⟩, rfl, (bounds_i64 w0).1, (bounds_i64 w0).2, by show s.data.toList.length ≤ maxLen; rw [Array.length_toList]; exact w1, b1, b2, b3, b4, (bounds_i64 w3).1, (bounds_i64 w3).2⟩
/-- A lot that is handed by value. -/
theorem open_lot {H : Type} {enc : TypeId × Value → H} {W : World} {r : Reach} {b0 base : Nat} {sp : Nat → Bool} {held : Bool} {v : Value} {d : DataW H} {p : List MemPlace} (hval : Value.okWide Tryz.prog W r b0 41 v)
    (h : DataW.Trod enc Tryz.prog W base sp held 41 v d p) : ∃ y : Lt, v = aggL y ∧ y.Fits := by
  obtain ⟨cs, rfl, hsz⟩ := okWide_struct Tryz.underlying41 hval
  obtain ⟨l⟩ := cs
  have hC : Tryz.prog.cellsOf 41 = 6 := by kernel_rfl
  have hl : l.length = 6 := by have := hsz.trans hC; simpa using this
  obtain ⟨fuel, hf⟩ := h
  have hf' : DataW.trod enc Tryz.prog W base sp held fuel 41 l = some (d, p) := by simpa [Value.cells] using hf
  obtain ⟨y, rfl, hy⟩ := lot_of_cells hl hf'
  exact ⟨y, rfl, hy⟩

theorem cell_lt {w : World} {p : Addr} {u : Value} (h : w.cell? p = some u) : p.block < w.heap.size := World.block_lt_of_cell? w p h
/-- A list of lots that is handed. -/
theorem open_lots {H : Type} {enc : TypeId × Value → H} {W : World} {r : Reach} {b0 base : Nat} {sp : Nat → Bool} {held : Bool} {v : Value} {d : DataW H} {p : List MemPlace} (hval : Value.okWide Tryz.prog W r b0 22 v)
    (h : DataW.Trod enc Tryz.prog W base sp held 22 v d p) : ∃ l, LSl W W.heap.size v l ∧ Sized l ∧ (l = [] ∨ ∃ elems spare, d = .slice elems spare ∧ l.length = elems.length) := by
  obtain ⟨a0, len0, cap0, rfl⟩ := okWide_slice Tryz.underlying22 hval
  obtain ⟨fuel, hf⟩ := h
  rcases open_slice Tryz.underlying22 hf with ⟨hcs, _⟩ | ⟨a, len, cap, m, n, D, Pl, hcs, _, hl, hm, hmm, hx, hi⟩
  · simp [Value.cells] at hcs
    obtain ⟨rfl, rfl, rfl⟩ := hcs
    exact ⟨[], ⟨none, 0, rfl, Nat.le_refl _, by simp [maxLen], fun _ => rfl, Lies.none⟩, fun x hx => by simp at hx, .inl rfl⟩
  · simp [Value.cells] at hcs
    obtain ⟨rfl, rfl, rfl⟩ := hcs
    have hlm : len0 ≤ m := by rw [hmm]; split <;> omega
    have hC : Tryz.prog.cellsOf 41 = 6 := by kernel_rfl
    have hpt : ∀ i, i < len0 → ∃ y : Lt, y.Fits ∧ ∀ c u, (encL y)[c]? = some u → W.cell? (a.add (i * 6 + c)) = some u := by
      intro i hil
      obtain ⟨cs', hc, ht⟩ := hi i (by omega)
      rw [hC] at hc
      obtain ⟨_, hlen, hat⟩ := World.cells?_some hc
      obtain ⟨y, rfl, hy⟩ := lot_of_cells hlen ht
      refine ⟨y, hy, fun c u hu => ?_⟩
      have hc6 : c < 6 := by have := (List.getElem?_eq_some_iff.1 hu).1; rw [encL_length] at this; exact this
      have := hat c hc6
      rw [addr_add] at this
      rw [this, hu]
    let f : Nat → Lt := fun i => if h : i < len0 then Classical.choose (hpt i h) else default
    have hff : ∀ i, i < len0 → (f i).Fits ∧ ∀ c u, (encL (f i))[c]? = some u → W.cell? (a.add (i * 6 + c)) = some u := by
      intro i hil
      have := Classical.choose_spec (hpt i hil)
      simp only [f, dif_pos hil]
      exact this
    have hlen : ((List.range len0).map f).length = len0 := by simp
    have hget : ∀ k, k < len0 → ((List.range len0).map f)[k]? = some (f k) := fun k hk => by simp [hk]
    refine ⟨(List.range len0).map f, ⟨some a, cap0, by rw [hlen], by omega, hm, fun h => (by cases h), fun hne => ?_⟩, fun q hq => ?_, .inr ?_⟩
    · have h0 : 0 < len0 := by
        rcases Nat.eq_zero_or_pos len0 with h | h
        · subst h; simp [lcells] at hne
        · exact h
      refine ⟨a, rfl, by have := cell_lt ((hff 0 h0).2 0 _ rfl); rw [addr_block] at this; exact this, fun j u hu => ?_⟩
      have hj : j < len0 * 6 := by have := (List.getElem?_eq_some_iff.1 hu).1; rw [lcells_length, hlen] at this; exact this
      have hk : j / 6 < len0 := by omega
      have := lcells_get _ _ _ (hget (j / 6) hk) (j % 6) (by omega)
      rw [show j / 6 * 6 + j % 6 = j by omega] at this
      rw [this] at hu
      have := (hff (j / 6) hk).2 (j % 6) u hu
      rwa [show j / 6 * 6 + j % 6 = j by omega] at this
    · obtain ⟨k, hk, rfl⟩ := List.mem_map.1 hq
      exact (hff k (by simpa using hk)).1
    · simp only [Prod.mk.injEq] at hx
      exact ⟨_, _, hx.1, by simp⟩

theorem own_knob : ownKnob Tryz.prog.godebug = none := by kernel_rfl
/-- What a law leaves behind: nothing that was there has turned. -/
theorem post_below {H : Type} {enc : TypeId × Value → H} {P : Program} {f : Func} {s : ChangeSpec} {apart fresh handsOn : Bool} {W W' : World} {args : Array Value} {v : Value} {ds gs : List (DataW H)} {before pa pv : List MemPlace}
    (hW : DataW.Whole enc P f.params.toList s.vars apart W args.toList ds gs before)
    (hres : ∀ (b : Nat) (sp : Nat → Bool) (hd : Bool), DataW.TrodAll enc P W' b sp hd f.resultTypes.toList (v.resultList f.resultTypes.size) (s.fn H (ds ++ gs)).results [])
    (hargs : DataW.TrodAll enc P W' 0 (fun b => decide (b < W.heap.size)) true f.params.toList args.toList (s.fn H (ds ++ gs)).args pa)
    (hvars : DataW.TrodVars enc P W' (fun b => decide (b < W.heap.size)) s.vars (s.fn H (ds ++ gs)).vars pv)
    (hb : Below W.heap.size W W') : s.post enc P f apart fresh handsOn false W args v W' :=
  ⟨ds, gs, before, [], pa, pv, hW, hres _ _ _, hargs, hvars, hb.frame _, fun h => by cases h⟩
theorem laid_out : laidOutB Tryz.prog = true := by kernel_rfl
end Go.Proofs.YtjhijinbpdnmeaaGreat
end
