/- Texts of this proof, one behind the other. -/
import Derived.Test.YtlgpambbghkffaaE07
section
/- The law KitEnd: whatever items; the walk. -/
namespace Go.Proofs.Ytlgpambbghkffaa
namespace Kt
open Go.ChangeShapes Go.WideShapes Go.ChangeAt Go.RowKit Go.Maps Go.Shelf
set_option linter.unusedVariables false

/-- What Parts answers where all is sound and the item is there. -/
theorem parts_yes (v : Value) (l : List Iv) (c : List UInt8) (q : Int) (w : World) (hv : ISl w w.heap.size v l) (hs : SizedI l) (hlen : l.length ≤ 1048576) (hc : c.length ≤ maxLen) (h0 : checkM (l.map (·.it)) = 0) (hx : (lastI (l.map (·.it)) c).isSome = true) (hq0 : 1 ≤ q) (hq1 : q ≤ 1125899906842624) (hj : JoinOk (flat (lastI (l.map (·.it))) 8 c q)) :
    Calls Try.prog 14 #[v, .string ⟨c.toArray⟩, .int .i64 q] w fun e w' => ∃ A out k, e = .returned (.tuple #[.slice A out.length k, .int .i64 0]) ∧ IsJoin (flat (lastI (l.map (·.it))) 8 c q) out ∧ out.length ≤ 1048576 ∧ PSl w' w'.heap.size (.slice A out.length k) out ∧ Go.RowKit.Below w.heap.size w w' := by
  refine (parts_any v l c q w hv hs hlen hc (by omega) (by omega)).mono ?_
  rintro e w' ⟨(⟨h, _⟩ | ⟨_, h, _⟩ | ⟨_, _, h, _⟩ | ⟨_, _, _, h, _⟩ | ⟨_, _, _, _, v', out, rfl, hj, hl, ho⟩), hb⟩
  · exact absurd h0 h
  · exact absurd ⟨hq0, hq1⟩ h
  · rw [h] at hx; cases hx
  · exact absurd hj h
  · obtain ⟨A, k, rfl, _⟩ := own_form ho
    exact ⟨A, out, k, rfl, hj, hl, PSl.own ho, hb⟩
theorem parts_own (v : Value) (l : List Iv) (c : List UInt8) (q : Int) (base : Nat) (w : World) (hv : ISl w w.heap.size v l) (hs : SizedI l) (hlen : l.length ≤ 1048576) (hc : c.length ≤ maxLen) (h0 : checkM (l.map (·.it)) = 0) (hx : (lastI (l.map (·.it)) c).isSome = true) (hq0 : 1 ≤ q) (hq1 : q ≤ 1125899906842624) (hj : JoinOk (flat (lastI (l.map (·.it))) 8 c q)) (hbase : base ≤ w.heap.size) :
    Calls Try.prog 14 #[v, .string ⟨c.toArray⟩, .int .i64 q] w fun e w' => ∃ A out k, e = .returned (.tuple #[.slice A out.length k, .int .i64 0]) ∧ IsJoin (flat (lastI (l.map (·.it))) 8 c q) out ∧ out.length ≤ 1048576 ∧ w'.ownsRow base 39 2 (.slice A out.length k) out.length (pcells out) ∧ Go.RowKit.Below w.heap.size w w' := by
  refine (parts_any v l c q w hv hs hlen hc (by omega) (by omega)).mono ?_
  rintro e w' ⟨(⟨h, _⟩ | ⟨_, h, _⟩ | ⟨_, _, h, _⟩ | ⟨_, _, _, h, _⟩ | ⟨_, _, _, _, v', out, rfl, hj, hl, ho⟩), hb⟩
  · exact absurd h0 h
  · exact absurd ⟨hq0, hq1⟩ h
  · rw [h] at hx; cases hx
  · exact absurd hj h
  · obtain ⟨A, k, rfl, _⟩ := own_form ho
    exact ⟨A, out, k, rfl, hj, hl, base_less ho hbase, hb⟩
/-- Rows of another kind stay, where a row grows. -/
theorem own_kind {w w' : World} {base e size n : Nat} {v : Value} {xs : List Value} (h : w.ownsRow base e size v n xs) {base' e' size' n' : Nat} {v' : Value} {xs' : List Value} (h' : w.ownsRow base' e' size' v' n' xs') (he : e ≠ e') (hg : w.grownBy w' v'.ownBlock) : w'.ownsRow base e size v n xs := by
  refine h.kept hg ?_
  rcases h.2 with ⟨rfl, _⟩ | ⟨g, cap, cur, rfl, _, hh, _⟩
  · exact .inl rfl
  · refine .inr (fun hgg => ?_)
    rcases h'.2 with ⟨rfl, _⟩ | ⟨g', cap', cur', rfl, _, hh', _⟩
    · cases hgg
    · simp only [Value.ownBlock, Option.some.injEq] at hgg
      subst hgg
      rw [hh] at hh'
      simp only [Option.some.injEq, Obj.cells.injEq] at hh'
      exact he hh'.2.1
theorem parts_no (v : Value) (l : List Iv) (c : List UInt8) (q : Int) (w : World) (hv : ISl w w.heap.size v l) (hs : SizedI l) (hlen : l.length ≤ 1048576) (hc : c.length ≤ maxLen) (h0 : checkM (l.map (·.it)) = 0) (hx : (lastI (l.map (·.it)) c).isSome = true) (hq0 : 1 ≤ q) (hq1 : q ≤ 1125899906842624) (hj : ¬ JoinOk (flat (lastI (l.map (·.it))) 8 c q)) :
    Calls Try.prog 14 #[v, .string ⟨c.toArray⟩, .int .i64 q] w fun e w' => e = .returned (.tuple #[.slice none 0 0, .int .i64 3]) ∧ Go.RowKit.Below w.heap.size w w' := by
  refine (parts_any v l c q w hv hs hlen hc (by omega) (by omega)).mono ?_
  rintro e w' ⟨(⟨h, _⟩ | ⟨_, h, _⟩ | ⟨_, _, h, _⟩ | ⟨_, _, _, h, he⟩ | ⟨_, _, _, h, _⟩), hb⟩
  · exact absurd h0 h
  · exact absurd ⟨hq0, hq1⟩ h
  · rw [h] at hx; cases hx
  · exact ⟨he, hb⟩
  · exact absurd h hj

/-- What is in so many of one, where it is known what is in one. -/
theorem parts_many (v : Value) (l : List Iv) (c : List UInt8) (x : It) (q : Int) (one : List Pt) (w : World) (hv : ISl w w.heap.size v l) (hs : SizedI l) (hlen : l.length ≤ 1048576) (hc : c.length ≤ maxLen) (h0 : checkM (l.map (·.it)) = 0) (hx : lastI (l.map (·.it)) c = some x) (hq0 : 1 ≤ q) (hq1 : q ≤ 1125899906842624) (hg : Good (lastI (l.map (·.it))) 8) (ho : IsJoin (flat (lastI (l.map (·.it))) 8 c 1) one) :
    Calls Try.prog 14 #[v, .string ⟨c.toArray⟩, .int .i64 q] w fun e w' => ∃ (A : Option Addr) (many : List Pt) (k : Nat) (fv : Int), e = .returned (.tuple #[.slice A many.length k, .int .i64 fv]) ∧ ((fv = 0 ∧ many = one.map (fun p => (p.1, p.2 * q)) ∧ ∀ p ∈ many, p.2 ≤ 1125899906842624) ∨ (fv = 3 ∧ many = [])) ∧ PSl w' w'.heap.size (.slice A many.length k) many ∧ Go.RowKit.Below w.heap.size w w' := by
  by_cases hj : JoinOk (flat (lastI (l.map (·.it))) 8 c q)
  · refine (parts_yes v l c q w hv hs hlen hc h0 (by rw [hx]; rfl) hq0 hq1 hj).mono ?_
    rintro e w' ⟨A, out, k, rfl, hjn, _, hp, hb⟩
    refine ⟨A, out, k, 0, rfl, .inl ⟨rfl, hjn.unique (scale_join hg hx hq0 ho), fun p hp => ?_⟩, hp, hb⟩
    obtain ⟨_, h2⟩ := (hjn.2 p.1 p.2).1 hp
    rw [h2]
    exact hj.2 p.1
  · refine (parts_no v l c q w hv hs hlen hc h0 (by rw [hx]; rfl) hq0 hq1 hj).mono ?_
    rintro e w' ⟨rfl, hb⟩
    exact ⟨none, [], 0, 3, rfl, .inr ⟨rfl, rfl⟩, PSl.nil, hb⟩
/-- What each is of what is in one. -/
structure OneAt (l : List Iv) (many : List Pt) (ss : List (List UInt8)) (q fv : Int) (j : Nat) (p : Pt) (y : Iv) : Prop where
  mem : y ∈ l
  first : firstC l p.1 = some y
  code : y.it.code = p.1
  life : 1 ≤ y.it.life
  qty : 1 ≤ p.2 ∧ p.2 ≤ 1125899906842624
  within : p.1 ∈ ss
  many : fv = 0 → many[j]? = some (p.1, p.2 * q) ∧ timesB p.2 q = true
theorem one_at {l : List Iv} {c : List UInt8} {x : It} {q fv : Int} {one many : List Pt} {ss : List (List UInt8)} (h0 : checkM (l.map (·.it)) = 0) (hx : lastI (l.map (·.it)) c = some x) (hg : Good (lastI (l.map (·.it))) 8) (ho : IsJoin (flat (lastI (l.map (·.it))) 8 c 1) one) (hq0 : 1 ≤ q) (hq1 : q ≤ 256)
    (hj : JoinOk (flat (lastI (l.map (·.it))) 8 c 1)) (hm : (fv = 0 ∧ many = one.map (fun p => (p.1, p.2 * q)) ∧ ∀ p ∈ many, p.2 ≤ 1125899906842624) ∨ (fv = 3 ∧ many = [])) (hss : ∀ a, a ∈ ss ↔ InB (l.map (·.it)) c a) : ∀ j p, one[j]? = some p → ∃ y, OneAt l many ss q fv j p y := by
  intro j p hp
  have hpm := List.mem_of_getElem? hp
  obtain ⟨h1, ⟨z, hz, hz0⟩, hr⟩ := one_qty hg hx ho hpm
  obtain ⟨y, hy, hyz, hyc, hyf⟩ := firstC_last (sd_nodupI h0) hz
  have hle : p.2 ≤ 1125899906842624 := by
    obtain ⟨_, h2⟩ := (ho.2 p.1 p.2).1 hpm
    rw [h2]
    exact hj.2 p.1
  have hkb := (kept_iff (checkM_sd h0).shaped (lastI_some _ hz).1).2 hz0
  refine ⟨y, hy, hyf, hyc, ?_, ⟨h1, hle⟩, (hss p.1).2 ⟨h0, by rw [hx]; rfl, hr⟩, fun hf => ?_⟩
  · rw [hyz]
    unfold keptB at hkb
    simp only [Bool.and_eq_true, decide_eq_true_eq] at hkb
    exact hkb.1
  · rcases hm with ⟨_, rfl, hb⟩ | ⟨h3, _⟩
    · have hmj : (one.map (fun p => (p.1, p.2 * q)))[j]? = some (p.1, p.2 * q) := by simp [hp]
      refine ⟨hmj, ?_⟩
      have h4 := hb _ (List.mem_of_getElem? hmj)
      have h5 : 0 ≤ p.2 * q := Int.mul_nonneg (by omega) (by omega)
      simp only at h4
      unfold timesB rightB
      simp only [Bool.and_eq_true, decide_eq_true_eq]
      exact ⟨⟨by omega, hle⟩, ⟨by omega, by omega⟩, h5, h4⟩
    · omega
theorem rise_at {one : List Pt} (h : Rising one) {j : Nat} {p0 p : Pt} (hj : 0 < j) (h0 : one[j - 1]? = some p0) (h1 : one[j]? = some p) : Op.bytesLess p0.1 p.1 = true := by
  rw [bytesLess_eq]
  obtain ⟨a, ha⟩ := List.getElem?_eq_some_iff.1 h0
  obtain ⟨b, hb⟩ := List.getElem?_eq_some_iff.1 h1
  have := List.pairwise_iff_getElem.1 h (j - 1) j a b (by omega)
  rw [ha, hb] at this
  exact decide_eq_true this
theorem flatten_le : ∀ (gs : List (List Pt)) (n : Nat), (∀ g ∈ gs, g.length ≤ n) → gs.flatten.length ≤ gs.length * n
  | [], n, _ => by simp
  | g :: gs, n, h => by
    have h1 := h g (by simp)
    have h2 := flatten_le gs n (fun x hx => h x (by simp [hx]))
    rw [List.flatten_cons, List.length_append, List.length_cons, Nat.succ_mul]
    omega
theorem one_newV (w : World) (v : Value) (t : TypeId) : ∀ (j : Nat) (u : Value), [v][j]? = some u → (w.alloc (.cells #[v] t)).cell? ((⟨w.heap.size, 0, none⟩ : Addr).add j) = some u := by
  intro j u h
  rw [fresh_cell]
  simpa using h
theorem one_sl (A : Option Addr) (n c : Nat) : ∀ u ∈ [Value.slice A n c], u.oneCell' = true := by
  intro u hu
  simp at hu
  subst hu
  rfl
theorem slPI : (Try.prog.info? 29).map (fun i => (i.zero, i.size, i.bytes)) = some (some (.slice none 0 0), 1, 24) := by kernel_rfl
/-- Of a kit: what is in its parts, put together. -/
theorem kit_sum {L : List It} {c : List UInt8} {x : It} {one : List Pt} {gs : List (List Pt)} (h0 : checkM L = 0) (hg : Good (lastI L) 8) (hx : lastI L c = some x) (hne : x.parts ≠ []) (hj : JoinOk (flat (lastI L) 8 c 1)) (ho : IsJoin (flat (lastI L) 8 c 1) one)
    (hgs : gs.length = x.parts.length) (hall : ∀ (i : Nat) (g : List Pt) (p : Pt), gs[i]? = some g → x.parts[i]? = some p → IsJoin (flat (lastI L) 8 p.1 p.2) g) :
    JoinOk gs.flatten ∧ (∀ out, IsJoin gs.flatten out → out = one) ∧ ∀ p ∈ gs.flatten, (∃ z, lastI L p.1 = some z) ∧ 0 ≤ p.2 ∧ p.2 ≤ 1125899906842624 := by
  classical
  obtain ⟨G, hG⟩ : ∃ G : Pt → List Pt, ∀ p ∈ x.parts, IsJoin (flat (lastI L) 8 p.1 p.2) (G p) := by
    refine ⟨fun p => if h : ∃ o, IsJoin (flat (lastI L) 8 p.1 p.2) o then Classical.choose h else [], fun p hp => ?_⟩
    obtain ⟨i, hi⟩ := List.getElem?_of_mem hp
    obtain ⟨g, hgi⟩ : ∃ g, gs[i]? = some g := ⟨_, List.getElem?_eq_getElem (by rw [hgs]; exact (List.getElem?_eq_some_iff.1 hi).1)⟩
    have h : ∃ o, IsJoin (flat (lastI L) 8 p.1 p.2) o := ⟨g, hall i g p hgi hi⟩
    simp only [dif_pos h]
    exact Classical.choose_spec h
  have hmap : gs = x.parts.map G := by
    apply List.ext_getElem?
    intro i
    rw [List.getElem?_map]
    cases hp : x.parts[i]? with
    | none => exact List.getElem?_eq_none (by rw [hgs]; exact List.getElem?_eq_none_iff.1 hp)
    | some p =>
      obtain ⟨g, hgi⟩ : ∃ g, gs[i]? = some g := ⟨_, List.getElem?_eq_getElem (by rw [hgs]; exact (List.getElem?_eq_some_iff.1 hp).1)⟩
      rw [hgi]
      exact congrArg some ((hall i g p hgi hp).unique (hG p (List.mem_of_getElem? hp)))
  have hfl : gs.flatten = x.parts.flatMap G := by rw [hmap, List.flatMap_def]
  have hk : flat (lastI L) 8 c 1 = x.parts.flatMap (fun p => flat (lastI L) 8 p.1 (1 * p.2)) := flat_kit hg hx hne 1
  have hjf := joined_flatMap (f := fun p : Pt => flat (lastI L) 8 p.1 (1 * p.2)) (g := G) (ps := x.parts) (fun p hp => by simpa using hG p hp)
  have hmem : ∀ p ∈ gs.flatten, (∃ z, lastI L p.1 = some z) ∧ 0 ≤ p.2 ∧ p.2 ≤ 1125899906842624 := by
    intro p hp
    rw [hfl, List.mem_flatMap] at hp
    obtain ⟨q, hq, hpq⟩ := hp
    obtain ⟨y, hy⟩ := hg.part hx hq
    have hq1 := (shaped_qty (checkM_sd h0).shaped (lastI_some L hx).1 q hq).1
    obtain ⟨h1, h2⟩ := ((hG q hq).2 p.1 p.2).1 hpq
    obtain ⟨p', hp', he⟩ := List.mem_map.1 h1
    obtain ⟨⟨z, hz, _⟩, _⟩ := flat_mem hg q.1 y hy q.2 (by omega) p' hp'
    rw [he] at hz
    have h3 := parts_ok hg hx hne hj q hq
    have h4 := tot_nonneg p.1 (flat (lastI L) 8 q.1 q.2) (flat_nonneg hg hy (by omega))
    exact ⟨⟨z, hz⟩, by rw [h2]; exact h4, by rw [h2]; exact h3.2 p.1⟩
  refine ⟨kit_joinOk hj (fun it => ?_) (fun p hp => (hmem p hp).2), fun out hout => ?_, hmem⟩
  · rw [hfl, hk]; exact hjf.1 it
  · have := kit_join hg hx hne hG ho
    rw [hfl] at hout
    exact hout.unique this
/-- Of one that is kept: itself. -/
theorem kept_end {L : List It} {c : List UInt8} {x : It} {one : List Pt} {ss : List (List UInt8)} (h0 : checkM L = 0) (hg : Good (lastI L) 8) (hx : lastI L c = some x) (hne : x.parts = []) (ho : IsJoin (flat (lastI L) 8 c 1) one) (hr : Rises ss) (hss : ∀ a, a ∈ ss ↔ InB L c a) :
    one = [(c, 1)] ∧ deepM L c = 1 ∧ ss.length = 1 := by
  refine ⟨?_, ?_, ?_⟩
  · rw [flat_kept hg hx hne] at ho
    exact ho.unique ⟨by simp [Rising], fun it q => by
      simp only [List.mem_singleton, Prod.mk.injEq, List.map_cons, List.map_nil, tot]
      constructor
      · rintro ⟨rfl, rfl⟩; simp
      · rintro ⟨rfl, h⟩; simp at h; exact ⟨rfl, h⟩⟩
  · have := Dp.mk hx (fun _ => 0) (by rw [hne]; simp)
    rw [hne] at this
    exact deepM_dp h0 this
  · have hme : ∀ a, a ∈ ss ↔ a = c := by
      intro a
      rw [hss]
      constructor
      · rintro ⟨_, _, hre⟩
        have : ∀ b, Reach (lastI L) c b → b = c := by
          intro b hb
          induction hb with
          | refl => rfl
          | step _ hs ih =>
            subst ih
            obtain ⟨y, hy, p, hp, _⟩ := hs
            rw [hx] at hy
            cases hy
            rw [hne] at hp
            simp at hp
        exact this a hre
      · rintro rfl
        exact ⟨h0, by rw [hx]; rfl, .refl _⟩
    have hnd := rise_nodup hr
    match ss, hnd, hme with
    | [], _, hme => have := (hme c).2 rfl; simp at this
    | [a], _, _ => rfl
    | a :: b :: r, hnd, hme =>
      have ha := (hme a).1 (by simp)
      have hb := (hme b).1 (by simp)
      subst ha hb
      simp at hnd
/-- What the document says of a part of a sound kit. -/
theorem part_facts {L : List It} {c : List UInt8} {x : It} (h0 : checkM L = 0) (hg : Good (lastI L) 8) (hx : lastI L c = some x) (hj : JoinOk (flat (lastI L) 8 c 1)) {p : Pt} (hp : p ∈ x.parts) :
    (lastI L p.1).isSome = true ∧ (1 ≤ p.2 ∧ p.2 ≤ 1125899906842624) ∧ JoinOk (flat (lastI L) 8 p.1 p.2) ∧ (deepM L p.1 < deepM L c ∧ deepM L c ≤ 8) ∧ ∀ a, InB L p.1 a → InB L c a := by
  obtain ⟨y, hy⟩ := hg.part hx hp
  have h1 := shaped_qty (checkM_sd h0).shaped (lastI_some L hx).1 p hp
  have hne : x.parts ≠ [] := fun e => by rw [e] at hp; simp at hp
  have h2 := sd_deepM (checkM_sd h0) (lastI_some L hx).1
  rw [(lastI_some L hx).2] at h2
  obtain ⟨e, he, hed⟩ := h2.1.part hx hp
  refine ⟨by rw [hy]; rfl, ⟨h1.1, by omega⟩, parts_ok hg hx hne hj p hp, ⟨by rw [deepM_dp h0 he]; exact hed, h2.2.2⟩, fun a ha => ⟨h0, by rw [hx]; rfl, ?_⟩⟩
  exact ((Reach.refl c).step ⟨x, hx, p, hp, rfl⟩).trans ha.2.2
theorem own_at' {w w' : World} {base e size n : Nat} {v : Value} {xs : List Value} (h : w.ownsRow base e size v n xs) (hb : Go.RowKit.Below w.heap.size w w') : w'.ownsRow base e size v n xs :=
  h.kept (row := none) ⟨hb.os, hb.tape, hb.output, hb.size, fun k hk _ => hb.block k hk⟩ (by cases hv : v.ownBlock with
    | none => exact .inl rfl
    | some b => exact .inr (by simp))
/-- What was found of the parts up to j, list behind list. -/
def Found (F : Fd) (ps : List Pt) (base : Nat) (W : World) (vs : List Value) (gs : List (List Pt)) : Prop :=
  ∀ (i : Nat) (v : Value) (g : List Pt) (p : Pt), vs[i]? = some v → gs[i]? = some g → ps[i]? = some p → W.ownsRow base 39 2 v g.length (pcells g) ∧ IsJoin (flat F 8 p.1 p.2) g ∧ g.length ≤ 1048576
def Ups (F : Fd) (ps : List Pt) (base : Nat) (W : World) (al : Value) (j : Nat) : Prop :=
  ∃ (vs : List Value) (gs : List (List Pt)), vs.length = j ∧ gs.length = j ∧ W.ownsRow base 29 1 al j vs ∧ Found F ps base W vs gs
theorem Ups.start (F : Fd) (ps : List Pt) (base : Nat) (W : World) : Ups F ps base W (.slice none 0 0) 0 :=
  ⟨[], [], rfl, rfl, ⟨rfl, .inl ⟨rfl, rfl⟩⟩, fun i v g p h => by simp at h⟩
theorem Ups.at_ {F : Fd} {ps : List Pt} {base : Nat} {W W' : World} {al : Value} {j : Nat} (h : Ups F ps base W al j) (hb : Go.RowKit.Below W.heap.size W W') : Ups F ps base W' al j := by
  obtain ⟨vs, gs, h1, h2, h3, h4⟩ := h
  exact ⟨vs, gs, h1, h2, own_at' h3 hb, fun i v g p a b c => ⟨own_at' (h4 i v g p a b c).1 hb, (h4 i v g p a b c).2⟩⟩
theorem Ups.snoc {F : Fd} {ps : List Pt} {base : Nat} {W W' : World} {o : Obj} {al al' v : Value} {vs : List Value} {gs : List (List Pt)} {g : List Pt} {p : Pt} (hv : vs.length = gs.length) (h3 : W.ownsRow base 29 1 al vs.length vs) (h4 : Found F ps base W vs gs) (hp : ps[vs.length]? = some p)
    (hg : W.ownsRow base 39 2 v g.length (pcells g)) (hj : IsJoin (flat F 8 p.1 p.2) g) (hl : g.length ≤ 1048576) (hG : (W.alloc o).grownBy W' al.ownBlock) (ho : W'.ownsRow base 29 1 al' (vs.length + 1) (vs ++ [v])) : Ups F ps base W' al' (vs.length + 1) := by
  have hal := h3.alloc o
  refine ⟨vs ++ [v], gs ++ [g], by simp, by simp [hv], ho, fun i u x q hu hx hq => ?_⟩
  rcases Nat.lt_or_ge i vs.length with hi | hi
  · rw [List.getElem?_append_left hi] at hu
    rw [List.getElem?_append_left (by omega)] at hx
    obtain ⟨a, b, c⟩ := h4 i u x q hu hx hq
    exact ⟨own_kind (a.alloc o) hal (by decide) hG, b, c⟩
  · obtain rfl : i = vs.length := by
      have := (List.getElem?_eq_some_iff.1 hu).1
      simp at this
      omega
    rw [List.getElem?_append_right (Nat.le_refl _)] at hu
    rw [List.getElem?_append_right (by omega)] at hx
    simp only [Nat.sub_self, List.getElem?_cons_zero, Option.some.injEq] at hu
    rw [show vs.length - gs.length = 0 by omega] at hx
    simp only [List.getElem?_cons_zero, Option.some.injEq] at hx
    subst hu hx
    rw [hp] at hq
    cases hq
    exact ⟨own_kind (hg.alloc o) hal (by decide) hG, hj, hl⟩
theorem and255 (x : Int) : ∃ q, wrap64 (1 + bits .and .i64 x 255) = q ∧ 1 ≤ q ∧ q ≤ 256 := by
  refine ⟨_, rfl, ?_⟩
  have h1 : (BitVec.ofInt 64 x &&& BitVec.ofInt 64 255).toNat ≤ 255 := by
    rw [BitVec.toNat_and]
    exact Nat.and_le_right
  have h0 : bits .and .i64 x 255 = IntKind.i64.wrap (((BitVec.ofInt 64 x &&& BitVec.ofInt 64 255).toNat : Nat) : Int) := rfl
  have h : bits .and .i64 x 255 = ((BitVec.ofInt 64 x &&& BitVec.ofInt 64 255).toNat : Int) ∧ (BitVec.ofInt 64 x &&& BitVec.ofInt 64 255).toNat ≤ 255 := by
    refine ⟨?_, h1⟩
    rw [h0, IntKind.wrap_i64]
    omega
  clear h0 h1
  rw [h.1]
  have h3 := h.2
  obtain ⟨n, hn⟩ : ∃ n, (BitVec.ofInt 64 x &&& BitVec.ofInt 64 255).toNat = n := ⟨_, rfl⟩
  rw [hn] at h3 ⊢
  rw [show (1 : Int) + (n : Int) = ((1 + n : Nat) : Int) by omega]
  unfold wrap64
  omega

set_option maxRecDepth 100000 in
set_option maxHeartbeats 8000000 in
theorem end_any (v : Value) (l : List Iv) (pick qty : Int) (w : World) (hv : ISl w w.heap.size v l) (hw : ∀ x ∈ l, Iv.Wide x) (hin : ∀ x ∈ l, x.it.parts.length ≤ 140737488355328 ∧ x.others.length ≤ 140737488355328) (hlen : l.length ≤ 140737488355328)
    (hp1 : -9223372036854775808 ≤ pick) (hp2 : pick ≤ 9223372036854775807) (hn1 : -9223372036854775808 ≤ qty) (hn2 : qty ≤ 9223372036854775807) :
    Calls Try.prog 4 #[v, .int .i64 pick, .int .i64 qty] w fun e w' => e = .returned (.bool true) ∧ Go.RowKit.Below w.heap.size w w' := by
  have HV := Lib.hid hv
  have HW := Lib.hid hw
  have HG : Hid (BigI l) := Lib.hid (Iv.Wide.big hw hin)
  have HL := Lib.hid hlen
  clear hv hw hin hlen
  go_enter Try.func4, Try.ntmps4
  go_wp2_with (first
    | (go_at_call 8; ((with_reducible refine (awake_any _).mono ?_); rintro e w1 ⟨rfl, hb1⟩))
    | (go_at_call 7; fail))
  refine (great_any v l w1 (HV.out.at_ hb1) HG.out HL.out).mono ?_
  rintro e w2 ⟨bg, rfl, hb2, hfew⟩
  have HV2 := Lib.hid ((HV.out.at_ hb1).at_ hb2)
  have HB2 := Lib.hid (below_two hb1 hb2)
  clear hb1 hb2
  cases bg
  · obtain ⟨hl70, hfi⟩ := hfew rfl
    have HS : Hid (SizedI l) := Lib.hid (Iv.Wide.sized HW.out hfi)
    clear hfew hfi
    obtain ⟨A0, c0, rfl, hcc1, hcc2, hcz, _⟩ := id HV2.out.1
    by_cases h0 : checkM (l.map (·.it)) = 0
    · by_cases hl0 : l.length = 0
      · have hlb : ((l.length : Int) == 0) = true := by rw [hl0]; rfl
        clear hl0
        go_wp2_with (go_at_call 10; ((with_reducible refine (check_any _ l _ HV2.out HS.out (by omega)).mono ?_); rintro e w3 ⟨rfl, hb3⟩; rw [h0]; have HB3 := Lib.hid (below_two HB2.out hb3); clear hb3))
        go_ret
        exact ⟨rfl, HB3.out⟩
      · have hlp : 0 < l.length := by omega
        have hlb : ((l.length : Int) == 0) = false := by rw [beq_eq_false_iff_ne]; omega
        go_wp2_with (first
          | (go_at_call 10; ((with_reducible refine (check_any _ l _ HV2.out HS.out (by omega)).mono ?_); rintro e w3 ⟨rfl, hb3⟩; rw [h0]; have HV3 := Lib.hid (HV2.out.at_ hb3); have HB3 := Lib.hid (below_two HB2.out hb3); clear hb3))
          | (go_at_call 13; fail))
        refine (pick_any pick l.length w3 hlp (by omega) hp1 hp2).mono ?_
        rintro e w4 ⟨k, hk, rfl, rfl⟩
        obtain ⟨x, hx⟩ : ∃ x, l[k]? = some x := ⟨_, List.getElem?_eq_getElem hk⟩
        have hxm := List.mem_of_getElem? hx
        obtain ⟨z, hxz⟩ : ∃ z, x.it = z := ⟨_, rfl⟩
        have hFx : lastI (l.map (·.it)) z.code = some z := by rw [← hxz]; exact lastI_mem (shaped_nodup (checkM_sd h0).shaped) (List.mem_map_of_mem hxm)
        have HZS := Lib.hid (HS.out x hxm)
        obtain ⟨⟨code, life, ps⟩, os, pv, ov⟩ := x
        obtain ⟨Ap, cp, Ao, co, rfl, rfl, hcp, hcq⟩ := (HV3.out.2 _ hxm).form
        obtain ⟨ad, rfl, hab, x0, x1, x2, x3⟩ := HV3.out.at_k hx
        simp only at hxz x0 x1 x2 x3 HZS
        subst hxz
        simp only at hFx
        have HSB := Lib.hid (HV3.out.2 _ hxm)
        have HX := Lib.hid hx
        have HFX := Lib.hid hFx
        have HGD := Lib.hid (checkM_sd h0).good
        have HCL : Hid (code.length ≤ maxLen) := Lib.hid HZS.out.1
        have HSM : Hid ((lastI (l.map (·.it)) code).isSome = true) := Lib.hid (by rw [HFX.out]; rfl)
        have HC0 := Lib.hid h0
        obtain ⟨b7, hb7⟩ : ∃ b, w3.heap.size = b := ⟨_, rfl⟩
        obtain ⟨W4, hW4⟩ : ∃ W, W = w3.alloc (.cells #[.string ⟨code.toArray⟩, .int .i64 life, .slice Ap ps.length cp, .slice Ao os.length co] 32) := ⟨_, rfl⟩
        have HX4 : Hid (Box4 W4 b7 ⟨⟨code, life, ps⟩, os, .slice Ap ps.length cp, .slice Ao os.length co⟩) := Lib.hid (by rw [hW4, ← hb7]; exact Box4.new w3 ⟨⟨code, life, ps⟩, os, .slice Ap ps.length cp, .slice Ao os.length co⟩)
        have hbl4 := below_alloc1 w3 (.cells #[.string ⟨code.toArray⟩, .int .i64 life, .slice Ap ps.length cp, .slice Ao os.length co] 32)
        rw [← hW4] at hbl4
        have HV4 := Lib.hid (HV3.out.at_ hbl4)
        have HB4 := Lib.hid (below_two HB3.out hbl4)
        have HSB4 := Lib.hid ((HSB.out.below hbl4).mono hbl4.size)
        have HW4 := Lib.hid hW4
        have HB7 := Lib.hid hb7
        obtain ⟨q, hq, hq1, hq2⟩ := and255 qty
        have HQ := Lib.hid hq
        clear hFx hx hxm hbl4 hW4 hb7 hq h0
        go_wp2_with (go_at_call 14; fail)
        rw [HQ.out, HB7.out, ← HW4.out]
        clear x0 x1 x2 x3 HSB HB3 HV3 HQ HB7 HW4
        by_cases hj : JoinOk (flat (lastI (l.map (·.it))) 8 code 1)
        · have HJ := Lib.hid hj
          clear hj
          obtain ⟨e0, e1, e2, e3⟩ := HX4.out.cells
          simp only at e0 e1 e2 e3
          refine (parts_yes _ l code 1 W4 HV4.out HS.out (by omega) HCL.out HC0.out HSM.out (by omega) (by omega) HJ.out).mono ?_
          rintro e w5 ⟨A8, one, k8, rfl, ho5, hol, hp5, hb5⟩
          have HX5 := Lib.hid (HX4.out.below hb5 HX4.out.lt)
          have HV5 := Lib.hid (HV4.out.at_ hb5)
          have HB5 := Lib.hid (below_two HB4.out hb5)
          have HO5 := Lib.hid hp5
          have HOJ := Lib.hid ho5
          have HSB5 := Lib.hid ((HSB4.out.below hb5).mono hb5.size)
          clear hb5 e0 e1 e2 e3 hp5 ho5 HX4 HV4 HB4 HSB4
          obtain ⟨e0, e1, e2, e3⟩ := HX5.out.cells
          simp only at e0 e1 e2 e3
          go_wp2_with (first
            | (go_at_call 14; ((with_reducible refine (parts_many _ l code _ q one _ HV5.out HS.out (by omega) HCL.out HC0.out HFX.out hq1 (by omega) HGD.out HOJ.out).mono ?_); rintro e w6 ⟨A10, many, k10, fv, rfl, hmv, hp6, hb6⟩; have HMV := Lib.hid hmv; have HM6 := Lib.hid hp6; have HX6 := Lib.hid (HX5.out.below hb6 HX5.out.lt); have HV6 := Lib.hid (HV5.out.at_ hb6); have HO6 := Lib.hid (PSl_at HO5.out hb6); have HB6 := Lib.hid (below_two HB5.out hb6); have HSB6 := Lib.hid ((HSB5.out.below hb6).mono hb6.size); clear hb6 hp6 hmv e0 e1 e2 e3 HO5 HV5 HX5 HB5 HSB5; obtain ⟨e0, e1, e2, e3⟩ := HX6.out.cells; simp only at e0 e1 e2 e3))
            | (go_at_call 15; ((with_reducible refine (within_any _ l code _ HV6.out HS.out (by omega) HCL.out).mono ?_); rintro e w7 ⟨v7, ss, rfl, hrs, hss, hos, hsl, hb7⟩; obtain ⟨A12, k12, rfl, _⟩ := own_form hos; have HT7 := Lib.hid (TSl.own hos); have HSS := Lib.hid hss; have HRS := Lib.hid hrs; have HX7 := Lib.hid (HX6.out.below hb7 HX6.out.lt); have HV7 := Lib.hid (HV6.out.at_ hb7); have HO7 := Lib.hid (PSl_at HO6.out hb7); have HM7 := Lib.hid (PSl_at HM6.out hb7); have HB7 := Lib.hid (below_two HB6.out hb7); have HSB7 := Lib.hid ((HSB6.out.below hb7).mono hb7.size); clear hb7 hos hss hrs e0 e1 e2 e3 HO6 HV6 HX6 HB6 HSB6 HM6)))
          have HOA := Lib.hid (one_at HC0.out HFX.out HGD.out HOJ.out hq1 hq2 HJ.out HMV.out HSS.out)
          have HFV : Hid ((fv = 0 ∧ many.length = one.length) ∨ (fv = 3 ∧ many.length = 0)) := Lib.hid (by rcases HMV.out with ⟨h1, h2, _⟩ | ⟨h1, h2⟩; exact .inl ⟨h1, by rw [h2]; simp⟩; exact .inr ⟨h1, by rw [h2]; rfl⟩)
          have hssl : ss.length ≤ 1048576 := hsl
          go_loopw [13] (fun i wr => ∃ j : Nat, j ≤ one.length ∧ i = .int .i64 j ∧ Hid (Go.RowKit.Below w7.heap.size w7 wr)) (fun i _ => one.length - (intOf i).toNat)
          case atStart => exact ⟨0, Nat.zero_le _, rfl, Lib.hid (Below.refl _ _)⟩
          case round =>
            obtain ⟨j, hj, rfl, HBr⟩ := hrel
            by_cases hlt : j < one.length
            --L1BEGIN
            · obtain ⟨p, hp⟩ : ∃ p, one[j]? = some p := ⟨_, List.getElem?_eq_getElem hlt⟩
              obtain ⟨y, hya⟩ := HOA.out j p hp
              obtain ⟨⟨cy, ly, py⟩, oy, pvy, ovy⟩ := y
              have hym := hya.mem
              have HVr := Lib.hid (HV7.out.at_ HBr.out)
              obtain ⟨Apy, cpy, Aoy, coy, rfl, rfl, _, _⟩ := (HVr.out.2 _ hym).form
              have HYA := Lib.hid hya
              have HP := Lib.hid hp
              obtain ⟨ad8, rfl, hb8, o0, o1⟩ := PSl.at_k (PSl_at HO7.out HBr.out) hp
              have hcy : cy = p.1 := hya.code
              have hfy := hya.first
              subst hcy
              have hpl : p.1.length ≤ maxLen := (HS.out _ hym).1
              clear hp hya hym
              go_wp2_with (first
                | (go_at_call 16; ((with_reducible refine (item_any _ l p.1 _ HVr.out HS.out (by omega) hpl).mono ?_); rintro e w8 ⟨rfl, hb8'⟩; rw [hfy]; simp only [elI]; have HB8 : Hid (Go.RowKit.Below w7.heap.size w7 (w8.alloc (.cells #[.string ⟨p.1.toArray⟩, .int .i64 ly, .slice Apy py.length cpy, .slice Aoy oy.length coy] 32))) := Lib.hid ((HBr.out.trans (hb8'.mono HBr.out.size)).alloc (by have := HBr.out.size; have := hb8'.size; omega) _); have HY8 : Hid (Box4 (w8.alloc (.cells #[.string ⟨p.1.toArray⟩, .int .i64 ly, .slice Apy py.length cpy, .slice Aoy oy.length coy] 32)) w8.heap.size ⟨⟨p.1, ly, py⟩, oy, .slice Apy py.length cpy, .slice Aoy oy.length coy⟩) := Lib.hid (Box4.new w8 ⟨⟨p.1, ly, py⟩, oy, .slice Apy py.length cpy, .slice Aoy oy.length coy⟩); clear o0 o1 hb8'; obtain ⟨_, he, _, o0, o1⟩ := PSl.at_k (PSl_at HO7.out HB8.out) HP.out; cases he; obtain ⟨y0, y1, y2, y3⟩ := HY8.out.cells; simp only at y0 y1 y2 y3))
                | (go_at_call 17; fail))
              refine (times_any p.2 q _).mono ?_
              rintro e w9 ⟨rfl, rfl⟩
              have HLF := Lib.hid HYA.out.life
              have HQT := Lib.hid HYA.out.qty
              have HIN := Lib.hid HYA.out.within
              have HMN := Lib.hid HYA.out.many
              obtain ⟨tv, htv⟩ : ∃ tv, timesV p.2 q = tv := ⟨_, rfl⟩
              obtain ⟨tb, htb⟩ : ∃ tb, timesB p.2 q = tb := ⟨_, rfl⟩
              rw [htv, htb]
              have HTV := Lib.hid htv
              have HTB := Lib.hid htb
              clear htv htb
              have hlf := HLF.out
              simp only at hlf
              have hd1 : decide (ly = 0) = false := decide_eq_false (by omega)
              have hd1' : (ly == 0) = false := beq_eq_false_iff_ne.2 (by omega)
              have hq1' := HQT.out.1
              have hd2 : decide (p.2 < 1) = false := decide_eq_false (by omega)
              have hs12 := HT7.out.below HB8.out
              have HAM : ∀ W, Go.RowKit.Below w7.heap.size w7 W → Calls Try.prog 18 #[.string ⟨p.1.toArray⟩, .slice A12 ss.length k12] W fun e w' => e = .returned (.bool true) ∧ w' = W := fun W hW => by
                have h := HT7.out.at_ hW
                obtain ⟨h1, _, h2, h3⟩ := h.lies
                have := among_q p.1 ss A12 k12 W h1 (by omega) h2 h3
                rwa [decide_eq_true HIN.out] at this
              have HAM := Lib.hid HAM
              clear hs12 hfy hlf hq1'
              by_cases hj0 : j = 0
              · have hd3 : decide ((0 : Int) < (j : Int)) = false := decide_eq_false (by omega)
                have hd4 : decide (0 < j) = false := decide_eq_false (by omega)
                clear hj0
                rcases HFV.out with ⟨hfv, hml⟩ | ⟨hfv, hml⟩
                · have hmj := (HMN.out hfv).1
                  have htb : tb = true := by rw [← HTB.out]; exact (HMN.out hfv).2
                  have hf1 : (fv == 0) = true := by rw [hfv]; rfl
                  have hf2 : decide (fv = 0) = true := decide_eq_true hfv
                  have hm1 : ((many.length : Int) != (one.length : Int)) = false := by rw [hml]; simp
                  have hm2 : decide ((many.length : Int) = (one.length : Int)) = true := by rw [hml]; simp
                  have hm3 : ((many.length : Int) == (one.length : Int)) = true := by rw [hml]; simp
                  have hm4 : decide (many.length = one.length) = true := by rw [hml]; simp
                  have hjm : j < many.length := by omega
                  have htbn : (!tb) = false := by rw [htb]; rfl
                  clear hml hfv
                  obtain ⟨a10, rfl, _, n0, n1⟩ := PSl.at_k (PSl_at HM7.out HB8.out) hmj
                  have htv : tv = p.2 * q := by rw [← HTV.out]; unfold timesV; rw [HTB.out, htb]; rfl
                  rw [← htv] at n1
                  clear htv hmj htb
                  go_wp2
                  refine r17_a0 (s0 := []) (by kernel_rfl) (by omega) (by omega) y0 y1 o0 o1 hd1 hd1' hd2 (fun n => HAM.out _ (below_draws HB8.out n)) hd3 hd4 hf1 hf2 hm1 hm2 hm3 hm4 hjm htbn n0 n1 ?_
                  intros
                  go_wp2
                  go_roundw
                  case rel => exact ⟨j + 1, by omega, by go_num, Lib.hid (below_draws HB8.out _)⟩
                  case measure => simp [intOf]; omega
                · have hf1 : (fv == 0) = false := by rw [hfv]; rfl
                  have hf2 : decide (fv = 0) = false := decide_eq_false (by omega)
                  clear hml hfv
                  go_wp2
                  refine r17_a3 (s0 := []) (by kernel_rfl) (by omega) (by omega) y0 y1 o0 o1 hd1 hd1' hd2 (fun n => HAM.out _ (below_draws HB8.out n)) hd3 hd4 hf1 hf2 ?_
                  intros
                  go_wp2
                  go_roundw
                  case rel => exact ⟨j + 1, by omega, by go_num, Lib.hid (below_draws HB8.out _)⟩
                  case measure => simp [intOf]; omega
              · have hd3 : decide ((0 : Int) < (j : Int)) = true := decide_eq_true (by omega)
                have hd4 : decide (0 < j) = true := decide_eq_true (by omega)
                have hj1 : 0 < j := by omega
                obtain ⟨p0, hp0⟩ : ∃ p0, one[j - 1]? = some p0 := ⟨_, List.getElem?_eq_getElem (by omega)⟩
                have hge := rise_at HOJ.out.1 (by omega) hp0 HP.out
                obtain ⟨_, he, _, r0, r1⟩ := PSl.at_k (PSl_at HO7.out HB8.out) hp0
                cases he
                clear hp0
                rcases HFV.out with ⟨hfv, hml⟩ | ⟨hfv, hml⟩
                · have hmj := (HMN.out hfv).1
                  have htb : tb = true := by rw [← HTB.out]; exact (HMN.out hfv).2
                  have hf1 : (fv == 0) = true := by rw [hfv]; rfl
                  have hf2 : decide (fv = 0) = true := decide_eq_true hfv
                  have hm1 : ((many.length : Int) != (one.length : Int)) = false := by rw [hml]; simp
                  have hm2 : decide ((many.length : Int) = (one.length : Int)) = true := by rw [hml]; simp
                  have hm3 : ((many.length : Int) == (one.length : Int)) = true := by rw [hml]; simp
                  have hm4 : decide (many.length = one.length) = true := by rw [hml]; simp
                  have hjm : j < many.length := by omega
                  have htbn : (!tb) = false := by rw [htb]; rfl
                  clear hml hfv
                  obtain ⟨a10, rfl, _, n0, n1⟩ := PSl.at_k (PSl_at HM7.out HB8.out) hmj
                  have htv : tv = p.2 * q := by rw [← HTV.out]; unfold timesV; rw [HTB.out, htb]; rfl
                  rw [← htv] at n1
                  clear htv hmj htb
                  go_wp2
                  refine r17_b0 (by kernel_rfl) (by omega) (by omega) y0 y1 o0 o1 hd1 hd1' hd2 (fun n => HAM.out _ (below_draws HB8.out n)) hd3 hd4 hj1 r0 hge hf1 hf2 hm1 hm2 hm3 hm4 hjm htbn n0 n1 ?_
                  intros
                  go_wp2
                  go_roundw
                  case rel => exact ⟨j + 1, by omega, by go_num, Lib.hid (below_draws HB8.out _)⟩
                  case measure => simp [intOf]; omega
                · have hf1 : (fv == 0) = false := by rw [hfv]; rfl
                  have hf2 : decide (fv = 0) = false := decide_eq_false (by omega)
                  clear hml hfv
                  go_wp2
                  refine r17_b3 (by kernel_rfl) (by omega) (by omega) y0 y1 o0 o1 hd1 hd1' hd2 (fun n => HAM.out _ (below_draws HB8.out n)) hd3 hd4 hj1 r0 hge hf1 hf2 ?_
                  intros
                  go_wp2
                  go_roundw
                  case rel => exact ⟨j + 1, by omega, by go_num, Lib.hid (below_draws HB8.out _)⟩
                  case measure => simp [intOf]; omega
            --L1END
            · obtain rfl : j = one.length := by omega
              have hd1 : decide (one.length < one.length) = false := decide_eq_false (by omega)
              have hd2 : decide ((one.length : Int) < (one.length : Int)) = false := decide_eq_false (by omega)
              clear HOA
              go_upto_region 19 with (fail)
              go_cut [166] (fun v wx => v = .bool false ∧ wx = wr)
              case first =>
                rcases HFV.out with ⟨hfv, _⟩ | ⟨hfv, _⟩
                · have hf1 : (fv != 0) = false := by rw [hfv]; rfl
                  have hf2 : decide (fv = 0) = true := decide_eq_true hfv
                  have hf3 : (fv == 0) = true := by rw [hfv]; rfl
                  clear hfv
                  go_wp2
                  go_meet
                  exact ⟨rfl, rfl⟩
                · have hf1 : (fv != 0) = true := by rw [hfv]; rfl
                  have hf3 : (fv == 0) = false := by rw [hfv]; rfl
                  have hf4 : (fv != 3) = false := by rw [hfv]; rfl
                  have hf5 : (fv == 3) = true := by rw [hfv]; rfl
                  clear hfv
                  go_wp2
                  go_meet
                  exact ⟨rfl, rfl⟩
              case rest =>
                obtain ⟨rfl, hwx⟩ := hcut
                rw [hwx]
                clear hwx hd1 hd2
                obtain ⟨wo, hwo⟩ : ∃ wo : World, wo = wr := ⟨_, rfl⟩
                rw [← hwo] at HBr ⊢
                clear hwo
                have hob := HBr.out.size
                have hpsl : ps.length ≤ 1048576 := HZS.out.2.2.2.2.1
                obtain ⟨i0, hi0, hz0, hz1, hz2⟩ := info_parts slPI
                have I1 := Lib.hid hi0
                have I2 := Lib.hid hz0
                have I3 := Lib.hid hz1
                have I4 := Lib.hid hz2
                clear hi0 hz0 hz1 hz2
                go_wp2
                go_loopw [17, 18] (fun al i wr => ∃ j : Nat, j ≤ ps.length ∧ i = .int .i64 j ∧ Hid (Ups (lastI (l.map (·.it))) ps w7.heap.size wr al j) ∧ Hid (Go.RowKit.Below w7.heap.size w7 wr)) (fun _ i _ => ps.length - (intOf i).toNat)
                case atStart => exact ⟨0, Nat.zero_le _, rfl, Lib.hid (Ups.start _ _ _ _), HBr⟩
                case round =>
                  clear HBr hob
                  obtain ⟨j, hj, rfl, HU, HBr⟩ := hrel
                  have HXr := Lib.hid (HX7.out.below HBr.out HX7.out.lt)
                  obtain ⟨e0, e1, e2, e3⟩ := HXr.out.cells
                  simp only at e0 e1 e2 e3
                  by_cases hlt : j < ps.length
                  --L4BEGIN
                  · obtain ⟨p, hp⟩ : ∃ p, ps[j]? = some p := ⟨_, List.getElem?_eq_getElem hlt⟩
                    have hpa := ((HSB7.out.below HBr.out).mono HBr.out.size).parts
                    obtain ⟨ap, rfl, hapb, z0, z1⟩ := PSl.at_k hpa hp
                    have hpl := (HZS.out.2.2.1 p (List.mem_of_getElem? hp)).1
                    have hpf := part_facts HC0.out HGD.out HFX.out HJ.out (List.mem_of_getElem? hp)
                    have HPF := Lib.hid hpf
                    have HP := Lib.hid hp
                    have hq1p := hpf.2.1.1
                    have hq2p := hpf.2.1.2
                    have hll : l.length ≤ 1048576 := by omega
                    clear hp hpf hpa
                    have HVr := Lib.hid (HV7.out.at_ HBr.out)
                    have KP : Hid (∀ W, Go.RowKit.Below wr.heap.size wr W → Calls Try.prog 14 #[.slice (some ad) l.length c0, .string ⟨p.1.toArray⟩, .int .i64 p.2] W fun e w' => ∃ A out k, e = .returned (.tuple #[.slice A out.length k, .int .i64 0]) ∧ IsJoin (flat (lastI (l.map (·.it))) 8 p.1 p.2) out ∧ out.length ≤ 1048576 ∧ w'.ownsRow w7.heap.size 39 2 (.slice A out.length k) out.length (pcells out) ∧ Go.RowKit.Below W.heap.size W w') :=
                      Lib.hid (fun W hW => parts_own _ l p.1 p.2 w7.heap.size W (HVr.out.at_ hW) HS.out hll hpl HC0.out HPF.out.1 hq1p hq2p HPF.out.2.2.1 (Nat.le_trans HBr.out.size hW.size))
                    have HWR := Lib.hid (Below.refl wr.heap.size wr)
                    have hbx : b7 < wr.heap.size := HXr.out.lt
                    go_upto_region 25 with (fail)
                    go_cut [19, 20] (fun vp ve wx => ∃ A g k, vp = .slice A g.length k ∧ ve = .int .i64 0 ∧ Hid (IsJoin (flat (lastI (l.map (·.it))) 8 p.1 p.2) g) ∧ g.length ≤ 1048576 ∧ Hid (wx.ownsRow w7.heap.size 39 2 (.slice A g.length k) g.length (pcells g)) ∧ Hid (Go.RowKit.Below wr.heap.size wr wx))
                    --L2BEGIN
                    case first =>
                      go_region_held3 (fun w' => w'.cell? ⟨b7, 2, none⟩ = some (.slice (some ap) ps.length cp) ∧ w'.cell? (ap.add (j * 2)) = some (strV p.1) ∧ w'.cell? ⟨(ap.add (j * 2)).block, (ap.add (j * 2)).off + 1, none⟩ = some (.int .i64 p.2)) (go_keep)
                        (first
                          | (go_at_call 14; ((with_reducible refine (KP.out _ HWR.out.drew).mono ?_); rintro e w8 ⟨A19, g, kg, rfl, hg1, hg2, hg3, hb8⟩; have hk1 := (hb8.cell (p := ⟨b7, 2, none⟩) hbx).trans e2; have hk2 := (hb8.cell (p := ap.add (j * 2)) (by rw [addr_block]; exact hapb)).trans z0; have hk3 := (hb8.cell (p := ⟨(ap.add (j * 2)).block, (ap.add (j * 2)).off + 1, none⟩) (by show (ap.add (j * 2)).block < _; rw [addr_block]; exact hapb)).trans z1)))
                      go_wp2
                      go_meet
                      exact ⟨A19, g, kg, rfl, rfl, Lib.hid hg1, hg2, Lib.hid hg3, Lib.hid (HWR.out.drew.trans hb8)⟩
                    --L2END
                    case rest =>
                      obtain ⟨A19, g, kg, rfl, rfl, HG1, hgl, HG3, HBg⟩ := hcut
                      obtain ⟨wd, hwd⟩ : ∃ W : World, W = wc := ⟨_, rfl⟩
                      rw [← hwd] at HG3 HBg ⊢
                      clear hwd
                      have HBC := Lib.hid (HBr.out.trans (HBg.out.mono HBr.out.size))
                      have hbxc : b7 < wd.heap.size := Nat.lt_of_lt_of_le hbx HBg.out.size
                      have hapc : ap.block < wd.heap.size := Nat.lt_of_lt_of_le hapb HBg.out.size
                      have f0 := (HBg.out.cell (p := ⟨b7, 0, none⟩) hbx).trans e0
                      have f2 := (HBg.out.cell (p := ⟨b7, 2, none⟩) hbx).trans e2
                      have y0 := (HBg.out.cell (p := ap.add (j * 2)) (by rw [addr_block]; exact hapb)).trans z0
                      obtain ⟨dx, hdx⟩ : ∃ dx, deepM (l.map (·.it)) code = dx := ⟨_, rfl⟩
                      obtain ⟨dp, hdp⟩ : ∃ dp, deepM (l.map (·.it)) p.1 = dp := ⟨_, rfl⟩
                      have hdd := HPF.out.2.2.2.1
                      rw [hdx, hdp] at hdd
                      have HWC := Lib.hid (Below.refl wd.heap.size wd)
                      have KDx : Hid (∀ W, Go.RowKit.Below wd.heap.size wd W → Calls Try.prog 19 #[.slice (some ad) l.length c0, .string ⟨code.toArray⟩] W fun e w' => e = .returned (.int .i64 (dx : Nat)) ∧ Go.RowKit.Below W.heap.size W w') :=
                        Lib.hid (fun W hW => by rw [← hdx]; exact deep_any _ l code W ((HV7.out.at_ HBC.out).at_ hW) HS.out hll HCL.out)
                      have KDp : Hid (∀ W, Go.RowKit.Below wd.heap.size wd W → Calls Try.prog 19 #[.slice (some ad) l.length c0, .string ⟨p.1.toArray⟩] W fun e w' => e = .returned (.int .i64 (dp : Nat)) ∧ Go.RowKit.Below W.heap.size W w') :=
                        Lib.hid (fun W hW => by rw [← hdp]; exact deep_any _ l p.1 W ((HV7.out.at_ HBC.out).at_ hW) HS.out hll hpl)
                      have hdd1 : decide ((dx : Int) ≤ (dp : Int)) = false := decide_eq_false (by omega)
                      have hdd2 : decide (dx ≤ dp) = false := decide_eq_false (by omega)
                      clear hdx hdp e0 e1 e2 e3 z0 z1
                      go_upto_region 26 with (fail)
                      refine r26 (by kernel_rfl) hbxc hapc hlt f0 f2 y0 hdd1 hdd2 KDx.out KDp.out ?_
                      intro we
                      intros
                      rename_i hbe
                      have HB26 := Lib.hid hbe
                      clear hbe
                      · have HB7c := Lib.hid (HBC.out.trans (HB26.out.mono HBC.out.size))
                        have HUc := Lib.hid ((HU.out.at_ HBg.out).at_ HB26.out)
                        have HGc := Lib.hid (own_at' HG3.out HB26.out)
                        have q2 := (HB26.out.cell (p := ⟨b7, 2, none⟩) hbxc).trans f2
                        have q3 := (HB26.out.cell (p := ap.add (j * 2)) (by rw [addr_block]; exact hapc)).trans y0
                        clear f0 f2 y0 HU HG3
                        clear HB26
                        have hes := HB7c.out.size
                        obtain ⟨vs, gs, hvs, hgs, hown, hall⟩ := HUc.out
                        have HOW := Lib.hid hown
                        have HALL := Lib.hid hall
                        have HN := Lib.hid (one_newV we (.slice A19 g.length kg) 29)
                        clear hown hall
                        go_wp2_with (first
                          | (at_builtin; refine wpList_append_own _ rfl _ _ 43 rfl w7.heap.size 29 i0 _ 1 24 Try.underlying43 I1.out I2.out I3.out I4.out rfl (by decide) _ _ _ rfl (HOW.out.alloc _) ⟨we.heap.size, 0, none⟩ 1 1 [.slice A19 g.length kg] rfl rfl (by simpa using HN.out) (one_sl A19 g.length kg) (by unfold maxLen; omega) (by omega) (by simp only [World.size_alloc]; omega) ?_; intro v' w9 hown3 hg3 _; have ho9 := Lib.hid hown3; have hG9 := Lib.hid hg3; clear hown3 hg3; have HB9 : Hid (Go.RowKit.Below w7.heap.size w7 w9) := Lib.hid ((HB7c.out.alloc hes _).grown hG9.out (by simp only [World.size_alloc]; omega) (fun j hj => (HOW.out.lt j hj).1)); obtain ⟨_, _, r2, _⟩ := (HX7.out.below HB9.out HX7.out.lt).cells; simp only at r2; obtain ⟨_, he, _, r3, _⟩ := PSl.at_k ((HSB7.out.below HB9.out).mono HB9.out.size).parts HP.out; cases he)
                          | (go_at_call 15; ((with_reducible refine (within_any _ l p.1 _ (HV7.out.at_ HB9.out) HS.out hll hpl).mono ?_); rintro e wa ⟨va, s2, rfl, _, hm2, hoa, hl2, hba⟩; obtain ⟨A21, k21, rfl, _⟩ := own_form hoa; have HT2 := Lib.hid (TSl.own hoa); have HM2 := Lib.hid hm2; have HBA := Lib.hid hba; clear hba hoa hm2)))
                        have HUa : Hid (Ups (lastI (l.map (·.it))) ps w7.heap.size wa v' (j + 1)) := Lib.hid (Ups.at_ (by
                          have hp2 := HP.out
                          have how := HOW.out
                          have ho9' := ho9.out
                          subst hvs
                          exact Ups.snoc (by omega) how HALL.out hp2 HGc.out HG1.out hgl hG9.out ho9') HBA.out)
                        have HB7a := Lib.hid (HB9.out.trans (HBA.out.mono HB9.out.size))
                        clear HOW HALL ho9 hG9
                        clear HUc HGc r2 r3 q2 q3
                        have hAM : Hid (∀ (m : Nat) (t : List UInt8) (W : World), s2[m]? = some t → Go.RowKit.Below w7.heap.size w7 W → Calls Try.prog 18 #[.string ⟨t.toArray⟩, .slice A12 ss.length k12] W fun e w' => e = .returned (.bool true) ∧ w' = W) := Lib.hid (fun m t W hm hW => by
                          obtain ⟨h1, _, h2, h3⟩ := (HT7.out.at_ hW).lies
                          have := among_q t ss A12 k12 W h1 (by omega) h2 h3
                          rwa [decide_eq_true ((HSS.out t).2 (HPF.out.2.2.2.2 t ((HM2.out t).1 (List.mem_of_getElem? hm))))] at this)
                        go_loopw [22] (fun i wr => ∃ m : Nat, m ≤ s2.length ∧ i = .int .i64 m ∧ Hid (Go.RowKit.Below wa.heap.size wa wr)) (fun i _ => s2.length - (intOf i).toNat)
                        case atStart => exact ⟨0, Nat.zero_le _, rfl, Lib.hid (Below.refl _ _)⟩
                        case round =>
                          obtain ⟨m, hm, rfl, HBm⟩ := hrel
                          by_cases hlm : m < s2.length
                          · obtain ⟨t, ht⟩ : ∃ t, s2[m]? = some t := ⟨_, List.getElem?_eq_getElem hlm⟩
                            obtain ⟨a21, rfl, _, t0⟩ := TSl.at_k (HT2.out.at_ HBm.out) ht
                            have HBm7 := Lib.hid (HB7a.out.trans (HBm.out.mono HB7a.out.size))
                            have HTm := Lib.hid ht
                            clear ht
                            go_wp2_with (go_at_call 18; ((with_reducible refine (hAM.out m t _ HTm.out HBm7.out).mono ?_); rintro e wz ⟨rfl, rfl⟩))
                            go_roundw
                            case rel => exact ⟨m + 1, by omega, by go_num, HBm⟩
                            case measure => simp [intOf]; omega
                          · obtain rfl : m = s2.length := by omega
                            have HBm7 := Lib.hid (HB7a.out.trans (HBm.out.mono HB7a.out.size))
                            have HUm := Lib.hid (HUa.out.at_ HBm.out)
                            have hd1 : decide (s2.length < s2.length) = false := decide_eq_false (by omega)
                            go_wp2
                            go_roundw
                            case rel => exact ⟨j + 1, by omega, by go_num, HUm, HBm7⟩
                            case measure => simp [intOf]; omega
                  --L4END
                  · obtain rfl : j = ps.length := by omega
                    have hd1 : decide (ps.length < ps.length) = false := decide_eq_false (by omega)
                    by_cases hps : ps = []
                    · obtain ⟨h1, hd, hsl1⟩ := kept_end (x := ⟨code, life, ps⟩) HC0.out HGD.out HFX.out hps HOJ.out HRS.out HSS.out
                      have hp0 : ((ps.length : Int) == 0) = true := by rw [hps]; rfl
                      have hp1 : decide (ps.length = 0) = true := by rw [hps]; rfl
                      have hol : one.length = 1 := by rw [h1]; rfl
                      have hg1 : ((one.length : Int) == 1) = true := by rw [hol]; rfl
                      have hg2 : decide (one.length = 1) = true := by rw [hol]; rfl
                      have hg3 : 0 < one.length := by omega
                      have hs1 : ((ss.length : Int) == 1) = true := by rw [hsl1]; rfl
                      have hs2 : decide (ss.length = 1) = true := by rw [hsl1]; rfl
                      obtain ⟨ad8, rfl, hab8, o0, o1⟩ := PSl.at_k (PSl_at HO7.out HBr.out) (k := 0) (p := (code, 1)) (by rw [h1]; rfl)
                      have had0 : ad8.add (0 * 2) = ad8 := by simp [Addr.add]
                      rw [had0] at o0 o1
                      simp only at o0 o1
                      have hll : l.length ≤ 1048576 := by omega
                      have hbx : b7 < wr.heap.size := HXr.out.lt
                      have KD : Hid (∀ W, Go.RowKit.Below wr.heap.size wr W → Calls Try.prog 19 #[.slice (some ad) l.length c0, .string ⟨code.toArray⟩] W fun e w' => e = .returned (.int .i64 1) ∧ Go.RowKit.Below W.heap.size W w') :=
                        Lib.hid (fun W hW => by
                          have := deep_any _ l code W ((HV7.out.at_ HBr.out).at_ hW) HS.out hll HCL.out
                          rw [hd] at this
                          exact this)
                      have HWR := Lib.hid (Below.refl wr.heap.size wr)
                      have HL1 := Lib.hid hol
                      clear h1 hd hps hol hsl1 had0
                      go_upto_region 36 with (fail)
                      refine r36 (by kernel_rfl) hbx hab8 hg1 hg2 hg3 hs1 hs2 e0 o0 o1 KD.out ?_
                      intro w8
                      intros
                      rename_i hb8
                      go_wp2
                      go_ret
                      exact ⟨rfl, HB7.out.trans ((HBr.out.trans (hb8.mono HBr.out.size)).mono HB7.out.size)⟩
                    · have hp0 : ((ps.length : Int) == 0) = false := by rw [beq_eq_false_iff_ne]; have := List.length_pos_iff.2 hps; omega
                      have hp1 : decide (ps.length = 0) = false := decide_eq_false (by have := List.length_pos_iff.2 hps; omega)
                      have HPS := Lib.hid hps
                      clear hps
                      go_wp2_with (go_at_call 20; fail)
                      obtain ⟨vs, gs, hvs, hgs, hown, hall⟩ := HU.out
                      obtain ⟨k1, k2, k3⟩ := kit_sum (x := ⟨code, life, ps⟩) HC0.out HGD.out HFX.out HPS.out HJ.out HOJ.out hgs (fun i g p hg hp => (hall i (vs[i]'(by rw [hvs, ← hgs]; exact (List.getElem?_eq_some_iff.1 hg).1)) g p (List.getElem?_eq_getElem _) hg hp).2.1)
                      obtain ⟨A17, c17, hform, _⟩ := own_form hown
                      subst hform
                      have hrows : PRows wr wr.heap.size A17 gs := ⟨vs, by rw [hvs, hgs], Lies.own hown, fun i v g hv hg => by
                        obtain ⟨p, hp⟩ : ∃ p, ps[i]? = some p := ⟨_, List.getElem?_eq_getElem (by rw [← hgs]; exact (List.getElem?_eq_some_iff.1 hg).1)⟩
                        exact PSl.own (hall i v g p hv hg hp).1⟩
                      have hfl : gs.flatten.length ≤ 1099511627776 := by
                        have h1 := flatten_le gs 1048576 (fun g hg => by
                          obtain ⟨i, hi⟩ := List.getElem?_of_mem hg
                          have hil := (List.getElem?_eq_some_iff.1 hi).1
                          exact (hall i (vs[i]'(by rw [hvs, ← hgs]; exact hil)) g (ps[i]'(by rw [← hgs]; exact hil)) (List.getElem?_eq_getElem _) hi (List.getElem?_eq_getElem _)).2.2)
                        have h2 : gs.length * 1048576 ≤ 1048576 * 1048576 := Nat.mul_le_mul_right _ (by omega)
                        omega
                      have hsz : Sized gs.flatten := fun p hp => by
                        obtain ⟨⟨z, hz⟩, h1, h2⟩ := k3 p hp
                        obtain ⟨y, hy, _, hyc, _⟩ := firstC_last (sd_nodupI HC0.out) hz
                        have := (HS.out y hy).1
                        rw [hyc] at this
                        exact ⟨this, by omega, by omega⟩
                      have hjn := join_any (H := Unit) A17 c17 gs wr hrows hsz hfl (by omega)
                      rw [hgs] at hjn
                      clear hfl hsz hrows hall hown
                      refine hjn.mono ?_
                      rintro e wj ⟨hbj, ⟨_, vj, out, rfl, hoj, holj, howj⟩ | ⟨hno, _⟩⟩
                      · obtain rfl := k2 out hoj
                        have HBJ := Lib.hid (HBr.out.trans (hbj.mono HBr.out.size))
                        have hpj := PSl.own howj
                        have HPJ := Lib.hid hpj
                        clear hjn k1 k2 k3 hoj howj hbj hpj
                        go_wp2_with (go_at_call 21; ((with_reducible refine (same_yes out _ _ _ HPJ.out (PSl_at HO7.out HBJ.out) (by omega)).mono ?_); rintro e wk ⟨rfl, hbk⟩; have HBK := Lib.hid (HBJ.out.trans (hbk.mono HBJ.out.size)); clear hbk))
                        go_ret
                        exact ⟨rfl, HB7.out.trans (HBK.out.mono HB7.out.size)⟩
                      · exact absurd k1 hno
        · have hj2 := one_long HGD.out HFX.out hq1 hj
          obtain ⟨e0, e1, e2, e3⟩ := HX4.out.cells
          simp only at e0 e1 e2 e3
          refine (parts_no _ l code 1 W4 HV4.out HS.out (by omega) HCL.out HC0.out HSM.out (by omega) (by omega) hj).mono ?_
          rintro e w5 ⟨rfl, hb5⟩
          have HX5 := Lib.hid (HX4.out.below hb5 HX4.out.lt)
          have HV5 := Lib.hid (HV4.out.at_ hb5)
          have HB5 := Lib.hid (below_two HB4.out hb5)
          clear hb5 e0 e1 e2 e3
          obtain ⟨e0, e1, e2, e3⟩ := HX5.out.cells
          simp only at e0 e1 e2 e3
          have HJ2 := Lib.hid hj2
          clear hj hj2
          go_wp2_with (first
            | (go_at_call 14; ((with_reducible refine (parts_no _ l code q _ HV5.out HS.out (by omega) HCL.out HC0.out HSM.out (by omega) (by omega) HJ2.out).mono ?_); rintro e w6 ⟨rfl, hb6⟩; have HX6 := Lib.hid (HX5.out.below hb6 HX5.out.lt); have HV6 := Lib.hid (HV5.out.at_ hb6); have HB6 := Lib.hid (below_two HB5.out hb6); clear hb6 e0 e1 e2 e3; obtain ⟨e0, e1, e2, e3⟩ := HX6.out.cells; simp only at e0 e1 e2 e3))
            | (go_at_call 15; ((with_reducible refine (within_any _ l code _ HV6.out HS.out (by omega) HCL.out).mono ?_); rintro e w7 ⟨v7, ss, rfl, _, _, _, _, hb7⟩; have HB7 := Lib.hid (below_two HB6.out hb7); clear hb7)))
          go_ret
          exact ⟨rfl, HB7.out⟩
    · have hnz : (checkM (l.map (·.it)) == 0) = false := beq_eq_false_iff_ne.2 h0
      have hnz' : (checkM (l.map (·.it)) != 0) = true := by simp [h0]
      go_wp2_with (go_at_call 10; ((with_reducible refine (check_any _ l _ HV2.out HS.out (by omega)).mono ?_); rintro e w3 ⟨rfl, hb3⟩; have HB3 := Lib.hid (below_two HB2.out hb3); clear hb3))
      go_ret
      exact ⟨rfl, HB3.out⟩
  · have h := HB2
    clear hfew
    go_wp2
    go_ret
    exact ⟨rfl, HB2.out⟩
end Kt
end Go.Proofs.Ytlgpambbghkffaa
end
section
/- What a law leaves behind. -/
namespace Go.Proofs.Ytlgpambbghkffaa
namespace Kt
open Go.ChangeShapes Go.WideShapes Go.ChangeAt Go.RowKit
set_option linter.unusedVariables false
theorem own_knob : ownKnob Try.prog.godebug = none := by kernel_rfl
/-- What a law leaves behind: nothing that was there has turned. -/
theorem post_below {H : Type} {enc : TypeId × Value → H} {P : Program} {f : Func} {s : ChangeSpec} {apart fresh handsOn : Bool} {W W' : World} {args : Array Value} {v : Value} {ds gs : List (DataW H)} {before pa pv : List MemPlace}
    (hW : DataW.Whole enc P f.params.toList s.vars apart W args.toList ds gs before)
    (hres : ∀ (b : Nat) (sp : Nat → Bool) (hd : Bool), DataW.TrodAll enc P W' b sp hd f.resultTypes.toList (v.resultList f.resultTypes.size) (s.fn H (ds ++ gs)).results [])
    (hargs : DataW.TrodAll enc P W' 0 (fun b => decide (b < W.heap.size)) true f.params.toList args.toList (s.fn H (ds ++ gs)).args pa)
    (hvars : DataW.TrodVars enc P W' (fun b => decide (b < W.heap.size)) s.vars (s.fn H (ds ++ gs)).vars pv)
    (hb : Go.RowKit.Below W.heap.size W W') : s.post enc P f apart fresh handsOn false W args v W' :=
  ⟨ds, gs, before, [], pa, pv, hW, hres _ _ _, hargs, hvars, hb.frame _, fun h => by cases h⟩
theorem laid_out : laidOutB Try.prog = true := by kernel_rfl
/-- How long a list of items is, and what lies inside. -/
theorem items_len {H : Type} {ts : List TypeId} {ds : List (DataW H)} (h : (DataW.weightsEach Try.prog ts ds).all (· ≤ reachBytes) = true) {j : Nat} {d : DataW H} (ht : ts[j]? = some 22) (hd : ds[j]? = some d) {l : List Iv}
    (hl : l = [] ∨ ∃ elems spare, d = .slice elems spare ∧ l.length = elems.length ∧ ∀ (k : Nat) (x : Iv), l[k]? = some x → ∃ e, elems[k]? = some e ∧ x.In e) : l.length ≤ 140737488355328 ∧ ∀ x ∈ l, x.it.parts.length ≤ 140737488355328 ∧ x.others.length ≤ 140737488355328 := by
  rcases hl with rfl | ⟨elems, spare, rfl, e, hin⟩
  · exact ⟨by simp, by simp⟩
  · have hb := sized_slice h (j := j) (t := 22) ht hd Try.underlying22
    have hB : Try.prog.bytesOf 32 = 72 := by kernel_rfl
    rw [hB] at hb
    have := reachBytes_lt
    exact ⟨by omega, sized_items h ht hd hin⟩
end Kt
end Go.Proofs.Ytlgpambbghkffaa
end
