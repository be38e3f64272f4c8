/- An argument that is a slice of parts. -/
import Derived.Test.YtfppiigmibjbnaaGreatPostZ
import Derived.Test.YtfppiigmibjbnaaGreatJoins
import Derived.Deep.Slices
import Derived.SizedLaws
namespace Go.Proofs.YtfppiigmibjbnaaGreat
open Go.ChangeShapes Go.WideShapes Go.ChangeAt Go.RowKit Go.Maps Go.Deep
set_option linter.unusedVariables false

theorem pcells_get : ∀ (l : List Pt) (j : Nat) (u : Value), (pcells l)[j]? = some u → ∃ (k : Nat) (p : Pt), l[k]? = some p ∧ ((j = k * 2 ∧ u = encStr p.1) ∨ (j = k * 2 + 1 ∧ u = .int .i64 p.2))
  | [], j, u, h => by simp [pcells] at h
  | p :: l, 0, u, h => ⟨0, p, rfl, .inl ⟨rfl, by simpa [pcells] using h.symm⟩⟩
  | p :: l, 1, u, h => ⟨0, p, rfl, .inr ⟨rfl, by simpa [pcells] using h.symm⟩⟩
  | p :: l, j + 2, u, h => by
    obtain ⟨k, q, hk, hj⟩ := pcells_get l j u (by simpa [pcells] using h)
    exact ⟨k + 1, q, by simpa using hk, by
      rcases hj with ⟨rfl, rfl⟩ | ⟨rfl, rfl⟩
      · exact .inl ⟨by omega, rfl⟩
      · exact .inr ⟨by omega, rfl⟩⟩

set_option maxRecDepth 100000 in
theorem open_parts {H : Type} {enc : TypeId × Value → H} {W : World} {r : Reach} {b0 base : Nat} {sp : Nat → Bool} {held : Bool} {v : Value} {d : DataW H} {p : List MemPlace} (hval : Value.okWide Tryz.prog W r b0 22 v)
    (h : DataW.Trod enc Tryz.prog W base sp held 22 v d p) : ∃ l, PSl W W.heap.size v l ∧ Sized l ∧ (l = [] ∨ ∃ elems spare, d = .slice elems spare ∧ l.length = elems.length) := by
  obtain ⟨a0, len0, cap0, rfl⟩ := okWide_slice Tryz.underlying22 hval
  obtain ⟨fuel, hf⟩ := h
  rcases open_slice Tryz.underlying22 hf with ⟨hcs, _⟩ | ⟨a, len, cap, m, n, D, Pl, hcs, _, hl, hm, hmm, hx, hi⟩
  · simp [Value.cells] at hcs
    obtain ⟨rfl, rfl, rfl⟩ := hcs
    exact ⟨[], ⟨none, 0, rfl, Nat.le_refl _, by simp [maxLen], fun _ => rfl, Lies.none⟩, Sized.nil, .inl rfl⟩
  · simp [Value.cells] at hcs
    obtain ⟨rfl, rfl, rfl⟩ := hcs
    have hlm : len0 ≤ m := by rw [hmm]; split <;> omega
    have hC : Tryz.prog.cellsOf 38 = 2 := by kernel_rfl
    have hpt : ∀ i, i < len0 → ∃ q : Pt, W.cell? (a.add (i * 2)) = some (encStr q.1) ∧ W.cell? (a.add (i * 2 + 1)) = some (.int .i64 q.2) ∧ q.1.length ≤ maxLen ∧ -9223372036854775808 ≤ q.2 ∧ q.2 ≤ 9223372036854775807 := by
      intro i hil
      obtain ⟨cs', hc, ht⟩ := hi i (by omega)
      rw [hC] at hc
      obtain ⟨y0, y1, n', hxx, hcl, t0, t1⟩ := trod_struct2 Tryz.underlying38 ht
      obtain ⟨s, hs, _, hsl⟩ := DataW.trod_string Tryz.underlying9 t0
      obtain ⟨z, hz, _, hzw⟩ := DataW.trod_int Tryz.underlying2 t1
      obtain ⟨_, hlen, hat⟩ := World.cells?_some hc
      have hC9 : Tryz.prog.cellsOf 9 = 1 := by kernel_rfl
      have hC2 : Tryz.prog.cellsOf 2 = 1 := by kernel_rfl
      match cs', hlen with
      | [u0, u1], _ =>
        simp only [hC9, hC2, List.drop_zero, List.drop_succ_cons, List.take_succ_cons, List.take_zero, List.cons.injEq, and_true] at hs hz
        subst hs
        subst hz
        have c0 := hat 0 (by omega)
        have c1 := hat 1 (by omega)
        rw [addr_add] at c0 c1
        refine ⟨(s.data.toList, z), c0, c1, by show s.data.toList.length ≤ maxLen; rw [Array.length_toList]; exact hsl, ?_⟩
        exact bounds_i64 hzw
    let f : Nat → Pt := fun i => if h : i < len0 then Classical.choose (hpt i h) else ([], 0)
    have hff : ∀ i, i < len0 → W.cell? (a.add (i * 2)) = some (encStr (f i).1) ∧ W.cell? (a.add (i * 2 + 1)) = some (.int .i64 (f i).2) ∧ (f i).1.length ≤ maxLen ∧ -9223372036854775808 ≤ (f i).2 ∧ (f i).2 ≤ 9223372036854775807 := by
      intro i hil
      have := Classical.choose_spec (hpt i hil)
      simp only [f, dif_pos hil]
      exact this
    have hgetl : ∀ (k : Nat) (q : Pt), ((List.range len0).map f)[k]? = some q → k < len0 ∧ q = f k := by
      intro k q hq
      rw [List.getElem?_map] at hq
      by_cases hk : k < len0
      · rw [List.getElem?_range hk] at hq
        exact ⟨hk, by simpa using hq.symm⟩
      · rw [List.getElem?_eq_none (by simpa using hk)] at hq
        cases hq
    have hlen : ((List.range len0).map f).length = len0 := by simp
    refine ⟨(List.range len0).map f, ⟨some a, cap0, by rw [hlen], by omega, hm, fun h => (by cases h), fun hne => ?_⟩, fun q hq => ?_, .inr ?_⟩
    · have h0 : 0 < len0 := by
        rcases Nat.eq_zero_or_pos len0 with h | h
        · subst h; simp [pcells] at hne
        · exact h
      refine ⟨a, rfl, by have := cell_lt (hff 0 h0).1; rw [addr_block] at this; exact this, fun j u hu => ?_⟩
      obtain ⟨k, q, hk, hj⟩ := pcells_get _ j u hu
      obtain ⟨hkl, rfl⟩ := hgetl k q hk
      rcases hj with ⟨rfl, rfl⟩ | ⟨rfl, rfl⟩
      · exact (hff k hkl).1
      · exact (hff k hkl).2.1
    · obtain ⟨k, hk, rfl⟩ := List.mem_map.1 hq
      have := hff k (by simpa using hk)
      exact this.2.2
    · simp only [Prod.mk.injEq] at hx
      exact ⟨_, _, hx.1, by simp⟩
end Go.Proofs.YtfppiigmibjbnaaGreat
