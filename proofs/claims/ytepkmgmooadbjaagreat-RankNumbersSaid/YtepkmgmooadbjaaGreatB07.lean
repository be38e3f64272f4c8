/- Texts of this proof, one behind the other. -/
import Derived.Maps.AppendAt
import Derived.Deep.DeepCutAuto
import Derived.Deep.MidRow
import Derived.Test.YtepkmgmooadbjaaGreatB04
import Derived.Test.YtepkmgmooadbjaaGreatB03
import Derived.Test.YtepkmgmooadbjaaGreatB06
section
/- One more put in where it belongs: sorted still, likes as they stood. An append of what may be nothing. No walk. -/
namespace Go.Proofs.YtepkmgmooadbjaaGreat
open Go.ChangeShapes Go.WideShapes Go.ChangeAt Go.RowKit Go.Maps Go.Sort
set_option linter.unusedVariables false

theorem stab_insert {l out : List Lt} {k a : Nat} {x : Lt} (hx : l[k]? = some x) (hs : Stab (l.take k) out) (ha : a ≤ out.length) (h1 : ∀ j y, j < a → out[j]? = some y → cmpL y x ≤ 0) (h2 : ∀ j y, a ≤ j → out[j]? = some y → cmpL x y < 0) :
    Stab (l.take (k + 1)) (out.take a ++ x :: out.drop a) := by
  obtain ⟨P, rfl, hp, hw⟩ := hs
  have hkl := (List.getElem?_eq_some_iff.1 hx).1
  have hzip : (l.take (k + 1)).zipIdx = (l.take k).zipIdx ++ [(x, k)] := by
    rw [List.take_add_one, hx, List.zipIdx_append]
    simp [List.length_take, Nat.min_eq_left (Nat.le_of_lt hkl)]
  have hidx : ∀ p ∈ P, p.2 < k := fun p hpm => by
    have := List.mem_zipIdx_iff_getElem?.1 (hp.mem_iff.1 hpm)
    have := (List.getElem?_eq_some_iff.1 this).1
    rw [List.length_take] at this
    omega
  refine ⟨P.take a ++ (x, k) :: P.drop a, by simp [List.map_take, List.map_drop], ?_, ?_⟩
  · rw [hzip]
    refine List.perm_middle.trans ?_
    rw [List.take_append_drop]
    exact (List.perm_append_comm (l₁ := [(x, k)]) (l₂ := P)).trans (hp.append_right _)
  · have hsp := hw
    rw [← List.take_append_drop a P, List.pairwise_append] at hsp
    rw [List.pairwise_append, List.pairwise_cons]
    have hA : ∀ p ∈ P.take a, ltP (x, k) p = false := fun p hpm => by
      obtain ⟨j, hj⟩ := List.mem_iff_getElem?.1 hpm
      rw [List.getElem?_take] at hj
      split at hj
      · rename_i hja
        have hc := h1 j p.1 hja (by rw [List.getElem?_map, hj]; rfl)
        have hi := hidx p (List.mem_of_getElem? hj)
        have := cmpL_pos p.1 x
        rw [ltP_false]
        simp only
        omega
      · cases hj
    have hB : ∀ q ∈ P.drop a, ltP q (x, k) = false := fun q hqm => by
      obtain ⟨j, hj⟩ := List.mem_iff_getElem?.1 hqm
      rw [List.getElem?_drop] at hj
      have hc := h2 (a + j) q.1 (by omega) (by rw [List.getElem?_map, hj]; rfl)
      have := cmpL_neg x q.1
      rw [ltP_false]
      simp only
      omega
    refine ⟨hsp.1, ⟨hB, hsp.2.1⟩, fun p hpm q hqm => ?_⟩
    rcases List.mem_cons.1 hqm with rfl | hq
    · exact hA p hpm
    · exact hsp.2.2 p hpm q hq

theorem run_append_any {P : Program} (w : World) (base : Nat) (t ty e : TypeId) (i : TypeInfo) (z : Value) (size bytes : Nat) (ht : P.underlying t = some (.slice e)) (hi : P.info? e = some i) (hz : i.zero = some z)
    (hsize : i.size = size) (hby : i.bytes = bytes) (hzs : z.cells.size = size) (hsz : 0 < size) (v : Value) (n : Nat) (xs : List Value) (hown : w.ownsRow base e size v n xs)
    (ao : Option Addr) (m c : Nat) (news : List Value) (hl : news.length = m * size) (h0 : ao = none → m = 0 ∧ c = 0) (hnews : ∀ a, ao = some a → ∀ j u, news[j]? = some u → w.cell? (a.add j) = some u) (h1 : ∀ u ∈ news, u.oneCell' = true)
    (h63 : n + m ≤ maxLen) (hbytes : (n + m) * bytes ≤ 140737488355328) (hbase : base ≤ w.heap.size) :
    ∃ v' w', (Builtin.append_ #[t, t] ty #[v, .slice ao m c]).run P w = .ok v' w' ∧ w'.ownsRow base e size v' (n + m) (xs ++ news) ∧ w.grownBy w' v.ownBlock ∧ (v'.ownBlock = v.ownBlock ∨ v'.ownBlock = some w.heap.size) := by
  cases ao with
  | some a =>
    obtain ⟨v', w', hr, h2, h3, h4, h5⟩ := run_append_own_at (P := P) w base t ty e i z size bytes ht hi hz hsize hby hzs hsz v n xs hown a m c news hl (hnews a rfl) h1 h63 hbytes hbase
    exact ⟨v', w', hr, h2, h3, h5⟩
  | none =>
    obtain ⟨rfl, rfl⟩ := h0 rfl
    have hn : news = [] := List.eq_nil_of_length_eq_zero (by simpa using hl)
    subst hn
    refine ⟨v, w, ?_, by simpa using hown, World.grownBy.refl _ _, .inl rfl⟩
    rcases hown.2 with ⟨rfl, rfl⟩ | ⟨g, cap, cur, rfl, _, _, hnc, _⟩
    · simp [Builtin.append_, run_underlying ht, sizeOf, typeInfo, hi, Builtin.lenOf, Builtin.firstCells]
    · simp [Builtin.append_, run_underlying ht, sizeOf, typeInfo, hi, hnc, storeCells, Builtin.lenOf, Builtin.firstCells]

theorem wpList_append_any {P : Program} (w : World) {ops : Array Oper} {rest : List Oper} {o : Oper} {a : Act} {Q : Exit → Act → World → Prop} (hgd : o.guard = none) (s x : Operand) (t : TypeId)
    (ho : o.op = .call { callee := .builtin .append, args := #[s, x], argTypes := #[t, t] })
    (base : Nat) (e : TypeId) (i : TypeInfo) (z : Value) (size bytes : Nat) (ht : P.underlying t = some (.slice e)) (hi : P.info? e = some i) (hz : i.zero = some z)
    (hsize : i.size = size) (hby : i.bytes = bytes) (hzs : z.cells.size = size) (hsz : 0 < size)
    (v : Value) (n : Nat) (xs : List Value) (hs : a.eval s = v) (hown : w.ownsRow base e size v n xs)
    (ao : Option Addr) (m c : Nat) (news : List Value) (hx : a.eval x = .slice ao m c) (hl : news.length = m * size) (h0 : ao = none → m = 0 ∧ c = 0) (hnews : ∀ a, ao = some a → ∀ j u, news[j]? = some u → w.cell? (a.add j) = some u) (h1 : ∀ u ∈ news, u.oneCell' = true)
    (h63 : n + m ≤ maxLen) (hbytes : (n + m) * bytes ≤ 140737488355328) (hbase : base ≤ w.heap.size)
    (h : ∀ v' w', w'.ownsRow base e size v' (n + m) (xs ++ news) → Hid (w.grownBy w' v.ownBlock) → Hid (v'.ownBlock = v.ownBlock ∨ v'.ownBlock = some w.heap.size) → wpList P ops Q rest (a.put o.dst v') w') : wpList P ops Q (o :: rest) a w := by
  refine wpList_plain hgd fun K hK => ?_
  obtain ⟨v', w', hr, h2, h3, h4⟩ := run_append_any (P := P) w base t o.type e i z size bytes ht hi hz hsize hby hzs hsz v n xs hown ao m c news hl h0 hnews h1 h63 hbytes hbase
  unfold Oper.wp execOp
  simp only [ho, resolve, invoke, builtin, Sem.run_bind, Sem.run_pure, Result.andThen_ok, List.map_toArray, List.map_cons, List.map_nil, hs, hx, hr]
  exact hK _ _ (h v' w' h2 h3 h4)
end Go.Proofs.YtepkmgmooadbjaaGreat
end
section
/- The document's answer: Open. Written by gen_rref.py. -/
namespace Go.Proofs.YtepkmgmooadbjaaGreat
open Go.ChangeShapes Go.WideShapes Go.ChangeAt Go.RowKit Go.Maps Go.Sort
set_option linter.unusedVariables false

theorem empty_row (w : World) (base : Nat) (t : TypeId) (h : base ≤ w.heap.size) : (w.alloc (.cells #[] t)).ownsRow base t 8 (.slice (some ⟨w.heap.size, 0, none⟩) 0 0) 0 [] :=
  ⟨rfl, .inr ⟨w.heap.size, 0, _, rfl, h, heap_alloc_new w _, Nat.le_refl _, by decide, rfl, rfl⟩⟩
theorem beside {w w' : World} {b e s n : Nat} {vO v : Value} {xs : List Value} (hO : w.ownsRow b e s vO n xs) (hg : w.grownBy w' v.ownBlock) (hne : ∀ k, v.ownBlock = some k → vO.ownBlock ≠ some k) : w'.ownsRow b e s vO n xs := by
  refine hO.kept hg ?_
  cases h : v.ownBlock with
  | none => cases vO.ownBlock <;> simp
  | some k => exact .inr (hne k h)
theorem beside_next {w : World} {b e s n : Nat} {vO v v' : Value} {xs : List Value} (hO : w.ownsRow b e s vO n xs) (hne : ∀ k, v.ownBlock = some k → vO.ownBlock ≠ some k) (hat : v'.ownBlock = v.ownBlock ∨ v'.ownBlock = some w.heap.size) : ∀ k, v'.ownBlock = some k → vO.ownBlock ≠ some k := by
  intro k hk hk'
  rcases hat with h | h
  · exact hne k (h ▸ hk) hk'
  · rw [h] at hk
    have := (hO.lt k hk').2
    injection hk with hk
    omega
theorem ins_low {m O : List Lt} {x y : Lt} {j : Nat} (hs : Stab m O) (hy : O[j]? = some y) (hn : ¬ cmpL x y < 0) : ∀ i z, i < j + 1 → O[i]? = some z → cmpL z x ≤ 0 := by
  intro i z hi hz
  have hyx : cmpL y x ≤ 0 := by
    have h1 := cmpL_neg x y
    have h2 := cmpL_pos y x
    omega
  have hzy : cmpL z y ≤ 0 := by
    by_cases e : i = j
    · subst e
      have : z = y := Option.some.inj (hz.symm.trans hy)
      subst this
      have := (cmpL_zero z z).2 ⟨rfl, rfl⟩
      omega
    · have hp := List.pairwise_iff_getElem.1 hs.pairs i j (List.getElem?_eq_some_iff.1 hz).1 (List.getElem?_eq_some_iff.1 hy).1 (by omega)
      rw [(List.getElem?_eq_some_iff.1 hz).2, (List.getElem?_eq_some_iff.1 hy).2] at hp
      exact hp
  have h1 := cmpL_pos z y
  have h2 := cmpL_pos y x
  have h3 := cmpL_pos z x
  omega
theorem take_news {w : World} {base g n c a : Nat} {O : List Lt} (h : w.ownsRow base 37 8 (.slice (some ⟨g, 0, none⟩) n c) n (lcells O)) (ha : a ≤ O.length) :
    ∀ p : Addr, some (⟨g, 0, none⟩ : Addr) = some p → ∀ j u, (lcells (O.take a))[j]? = some u → w.cell? (p.add j) = some u := by
  intro p e j u hu
  cases e
  rw [← lcells_take O a ha, List.getElem?_take] at hu
  split at hu
  · rw [addr0]
    have h1 := (List.getElem?_eq_some_iff.1 hu).1
    exact (h.cellAt j (by have := h.1; omega)).trans hu
  · cases hu
theorem lcells_drop (O : List Lt) (a : Nat) (ha : a ≤ O.length) : (lcells O).drop (a * 8) = lcells (O.drop a) := by
  have h := lcells_append (O.take a) (O.drop a)
  rw [List.take_append_drop] at h
  rw [h, List.drop_append_of_le_length (by rw [lcells_length, List.length_take]; omega), List.drop_of_length_le (by rw [lcells_length, List.length_take]; omega), List.nil_append]
theorem drop_news {w : World} {base g n c a : Nat} {O : List Lt} (h : w.ownsRow base 37 8 (.slice (some ⟨g, 0, none⟩) n c) n (lcells O)) (ha : a ≤ O.length) :
    ∀ p : Addr, some (⟨g, a * 8, none⟩ : Addr) = some p → ∀ j u, (lcells (O.drop a))[j]? = some u → w.cell? (p.add j) = some u := by
  intro p e j u hu
  cases e
  rw [← lcells_drop O a ha, List.getElem?_drop] at hu
  have h1 := (List.getElem?_eq_some_iff.1 hu).1
  have e2 : (⟨g, a * 8, none⟩ : Addr).add j = ⟨g, a * 8 + j, none⟩ := by unfold Addr.add; split <;> simp_all
  rw [e2]
  exact (h.cellAt (a * 8 + j) (by have := h.1; omega)).trans hu
theorem drop_none {w : World} {A : Option Addr} {a : Nat} {O : List Lt} (ha : O.length ≤ a) : ∀ p : Addr, A = some p → ∀ j u, (lcells (O.drop a))[j]? = some u → w.cell? (p.add j) = some u := by
  intro p e j u hu
  rw [List.drop_of_length_le ha] at hu
  simp [lcells] at hu
theorem ins_end {w : World} {base a : Nat} {v : Value} {O : List Lt} {x : Lt} (h : w.ownsRow base 37 8 v (0 + a + 1 + (O.length - a)) ([] ++ lcells (O.take a) ++ encL x ++ lcells (O.drop a))) (ha : a ≤ O.length) :
    w.ownsRow base 37 8 v (O.take a ++ x :: O.drop a).length (lcells (O.take a ++ x :: O.drop a)) := by
  have e1 : (O.take a ++ x :: O.drop a).length = 0 + a + 1 + (O.length - a) := by rw [List.length_append, List.length_cons, List.length_take, List.length_drop]; omega
  have e2 : lcells (O.take a ++ x :: O.drop a) = [] ++ lcells (O.take a) ++ encL x ++ lcells (O.drop a) := by rw [lcells_append]; simp [lcells]
  rw [e1, e2]; exact h
theorem ins_end0 {w : World} {base a : Nat} {v : Value} {O : List Lt} {x : Lt} (h : w.ownsRow base 37 8 v (0 + a + 1 + 0) ([] ++ lcells (O.take a) ++ encL x ++ [])) (ha : a ≤ O.length) (ha2 : O.length ≤ a) :
    w.ownsRow base 37 8 v (O.take a ++ x :: O.drop a).length (lcells (O.take a ++ x :: O.drop a)) := by
  refine ins_end ?_ ha
  rw [show O.length - a = 0 by omega, List.drop_of_length_le ha2]
  exact h
/-- What stands while the next one is put together: below, the old row, and that they lie apart. -/
def Ins (w0 w : World) (vO v : Value) (n : Nat) (xs : List Value) : Prop := Below w0.heap.size w0 w ∧ w.ownsRow w0.heap.size 37 8 vO n xs ∧ ∀ k, v.ownBlock = some k → vO.ownBlock ≠ some k
theorem ins_step {w0 wc w1 : World} {vO v v1 : Value} {n m : Nat} {xs ys : List Value} {o : Obj} (hb : Below w0.heap.size w0 wc) (hO : (wc.alloc o).ownsRow w0.heap.size 37 8 vO n xs) (hv : (wc.alloc o).ownsRow w0.heap.size 37 8 v m ys)
    (hg : (wc.alloc o).grownBy w1 v.ownBlock) (hat : v1.ownBlock = v.ownBlock ∨ v1.ownBlock = some (wc.alloc o).heap.size) (hne : ∀ k, v.ownBlock = some k → vO.ownBlock ≠ some k) (hB : w0.heap.size ≤ wc.heap.size) : Ins w0 w1 vO v1 n xs :=
  ⟨(hb.alloc hB _).grown hg (by simp only [World.size_alloc]; omega) (fun k hk => (hv.lt k hk).1), beside hO hg hne, fun k hk hk' => beside_next hO hne hat k hk hk'⟩
theorem ins_more {w0 w1 w2 : World} {vO v1 v2 : Value} {n m : Nat} {xs ys : List Value} {o : Obj} (h : Ins w0 w1 vO v1 n xs) (hv : w1.ownsRow w0.heap.size 37 8 v1 m ys)
    (hg : (w1.alloc o).grownBy w2 v1.ownBlock) (hat : v2.ownBlock = v1.ownBlock ∨ v2.ownBlock = some (w1.alloc o).heap.size) : Ins w0 w2 vO v2 n xs :=
  ins_step h.1 (h.2.1.alloc o) (hv.alloc o) hg hat h.2.2 h.1.size
theorem all_news {w : World} {base g n c : Nat} {O : List Lt} (h : w.ownsRow base 37 8 (.slice (some ⟨g, 0, none⟩) n c) n (lcells O)) :
    ∀ p : Addr, some (⟨g, 0, none⟩ : Addr) = some p → ∀ j u, (lcells O)[j]? = some u → w.cell? (p.add j) = some u := by
  intro p e j u hu
  cases e
  rw [addr0]
  have h1 := (List.getElem?_eq_some_iff.1 hu).1
  exact (h.cellAt j (by have := h.1; omega)).trans hu
theorem ins_all {w : World} {base : Nat} {v : Value} {O : List Lt} {x : Lt} (h : w.ownsRow base 37 8 v (0 + 0 + 1 + O.length) ([] ++ [] ++ encL x ++ lcells O)) :
    w.ownsRow base 37 8 v (x :: O).length (lcells (x :: O)) := by
  have e1 : (x :: O).length = 0 + 0 + 1 + O.length := by rw [List.length_cons]; omega
  rw [e1]; exact h
theorem lt_cmp (x y : Lt) : ∃ bc : Bool, bc = decide (cmpL x y < 0) := ⟨_, rfl⟩

theorem filter_pre {p : Lt → Bool} (l : List Lt) (k : Nat) : (l.take k).filter p = (l.filter p).take ((l.take k).filter p).length := by
  have h : l.filter p = (l.take k).filter p ++ (l.drop k).filter p := by rw [← List.filter_append, List.take_append_drop]
  rw [h, List.take_left]
theorem filter_at {p : Lt → Bool} {l : List Lt} {k : Nat} {x : Lt} (hx : l[k]? = some x) (hp : p x = true) : (l.filter p)[((l.take k).filter p).length]? = some x := by
  have h : l.filter p = (l.take (k + 1)).filter p ++ (l.drop (k + 1)).filter p := by rw [← List.filter_append, List.take_append_drop]
  rw [h, filter_take_succ p hx, if_pos hp, List.append_assoc, List.getElem?_append_right (Nat.le_refl _), Nat.sub_self]
  rfl
theorem row_some {w : World} {base e size n : Nat} {v : Value} {xs : List Value} (h : w.ownsRow base e size v n xs) (hn : 0 < n) : ∃ g cap, v = .slice (some ⟨g, 0, none⟩) n cap ∧ base ≤ g ∧ g < w.heap.size ∧ n ≤ cap ∧ cap ≤ maxLen := by
  have hlt := h.lt
  rcases h.2 with ⟨_, h0⟩ | ⟨g, cap, cur, hv, hb, _, hnc, hcm, _⟩
  · omega
  · subst hv
    exact ⟨g, cap, rfl, hb, (hlt g rfl).2, hnc, hcm⟩
set_option maxRecDepth 100000 in
set_option maxHeartbeats 4000000 in
theorem refOpen_any (v : Value) (l : List Lt) (w : World) (hlen : l.length ≤ 1048576) (hv : LSl w w.heap.size v l) :
    Calls Tryz.prog 13 #[v] w fun e w' => ∃ v' out, e = .returned v' ∧ Stab (l.filter openB) out ∧ LSl w' w'.heap.size v' out ∧ Go.RowKit.Below w.heap.size w w' := by
  obtain ⟨i0, hi, hz0, hz1, hz2⟩ := info_parts infoLot
  obtain ⟨A, c, rfl, hc1, hc2, hcz, hl⟩ := id hv
  have H1 := Lib.hid hi
  have H2 := Lib.hid hz0
  have H3 := Lib.hid hz1
  have H4 := Lib.hid hz2
  have HL := Lib.hid hv
  clear hi hz0 hz1 hz2 hl hv
  go_enter Tryz.func13, Tryz.ntmps13
  go_wp2
  go_loopw [3, 4] (fun r i wr => ∃ (k : Nat) (O : List Lt), k ≤ l.length ∧ O.length ≤ k ∧ i = .int .i64 k ∧ Hid (Stab ((l.take k).filter openB) O) ∧ Hid (wr.ownsRow w.heap.size 37 8 r O.length (lcells O)) ∧ Hid (Go.RowKit.Below w.heap.size w wr))
    (fun _ i _ => l.length - (intOf i).toNat)
  case atStart => exact ⟨0, [], Nat.zero_le _, Nat.le_refl _, rfl, Lib.hid stab_nil, Lib.hid (World.ownsRow_nil _ _ _ _), Lib.hid (Below.refl _ _)⟩
  case round =>
    obtain ⟨k, O, hk, hOk, rfl, HS, HR, HB⟩ := hrel
    have hk1 : O.length ≤ k := hOk
    clear hOk
    by_cases hlt : k < l.length
    · obtain ⟨x, hx⟩ : ∃ x, l[k]? = some x := ⟨_, List.getElem?_eq_getElem hlt⟩
      have HX := Lib.hid hx
      clear hx
      obtain ⟨ad, had0, _, d0, d1, d2, d3, d4, d5, d6, d7⟩ := (HL.out.at_ HB.out).six HX.out
      subst had0
      clear d0 d1 d2 d3 d4 d6 d7
      have hltK0 : (k : Int) < (l.length : Int) := by omega
      by_cases hop : openB x = true
      · have hs1 : (x.state != 1) = false := by unfold openB at hop; simpa using hop
        obtain ⟨F, hF⟩ : ∃ F, l.filter openB = F := ⟨_, rfl⟩
        obtain ⟨kf, hkf⟩ : ∃ kf, ((l.take k).filter openB).length = kf := ⟨_, rfl⟩
        have HXF : Hid (F[kf]? = some x) := Lib.hid (by rw [← hF, ← hkf]; exact filter_at HX.out hop)
        have HS2 : Hid (Stab (F.take kf) O) := Lib.hid (by have := HS.out; rw [filter_pre, hF, hkf] at this; exact this)
        have HNX : Hid ((l.take (k + 1)).filter openB = F.take (kf + 1)) := Lib.hid (by
          rw [filter_pre, hF, filter_take_succ openB HX.out, if_pos hop, List.length_append, hkf]; rfl)
        clear hop hF hkf
        obtain ⟨wA, rfl⟩ : ∃ wA : World, wA = wr := ⟨_, rfl⟩
        obtain ⟨Ao, co, rfl, hco1, hco2, hcoz⟩ := own_form HR.out
        have HLA := Lib.hid (HL.out.at_ HB.out)
        have HOA := Lib.hid (LSl.own HR.out)
        have hBs : w.heap.size ≤ wA.heap.size := HB.out.size
        go_wp2
        go_loopw [5] (fun i wi => ∃ a : Nat, a ≤ O.length ∧ i = .int .i64 a ∧ Hid (∀ j y, a ≤ j → O[j]? = some y → cmpL x y < 0) ∧ Hid (Go.RowKit.Below wA.heap.size wA wi)) (fun i _ => (intOf i).toNat)
        case atStart => exact ⟨O.length, Nat.le_refl _, rfl, Lib.hid (fun j y hj hy => by have := (List.getElem?_eq_some_iff.1 hy).1; omega), Lib.hid (Below.refl _ _)⟩
        case round =>
          obtain ⟨a, ha, rfl, HQ, HBi⟩ := hrel
          by_cases ha0 : 0 < a
          · obtain ⟨j, rfl⟩ : ∃ j, a = j + 1 := ⟨a - 1, by omega⟩
            obtain ⟨y, hy⟩ : ∃ y, O[j]? = some y := ⟨_, List.getElem?_eq_getElem (by omega)⟩
            have HY := Lib.hid hy
            obtain ⟨ao, hao, _⟩ := HOA.out.six hy
            subst hao
            have hcv : ∀ W, Calls Tryz.prog 27 #[agX x, agX y] W fun e w' => e = .returned (.int .i64 (cmpL x y)) ∧ Below W.heap.size W w' := fun W => comparer_any x y W
            obtain ⟨bc, hbc⟩ := lt_cmp x y
            have HBC := Lib.hid hbc
            have hbc2 : decide (cmpL x y < 0) = bc := hbc.symm
            have hrng := cmpL_rng x y
            generalize cmpL x y = cv at hcv hbc2 hrng
            have HCV := Lib.hid hcv
            clear hy hcv hbc
            have hltK : (k : Int) < (l.length : Int) := by omega
            have hltJ : (j : Int) < (O.length : Int) := by omega
            have e1 : IntKind.i64.wrap ((j : Int) + 1 - 1) = (j : Int) := by rw [IntKind.wrap_i64]; omega
            have e2 : (j : Int) + 1 - 1 = (j : Int) := by omega
            have e3 : IntKind.i64.wrap (j : Int) = (j : Int) := by rw [IntKind.wrap_i64]; omega
            go_upto_region 7 with (fail)
            go_cut [35] (fun v wx => v = .bool bc ∧ Below wA.heap.size wA wx)
            case first =>
              have hS : (fun w' => Below wA.heap.size wA w') wr.drew := HBi.out.drew
              refine wp_region_held_drew (S := fun w' => Below wA.heap.size wA w') (by kernel_rfl) hS (fun hS => ?_)
              refine wpAnyH_take (i := 0) (v := ((.int .i64 ((j : Int) + 1)))) rfl (by kernel_rfl) (by kernel_rfl) (by kernel_rfl) (fun _ _ _ h => h) (Or.inl ⟨by kernel_rfl, fun w' hS' => by go_simp⟩) hS ?_
              refine wpAnyH_take (i := 1) (v := ((.bool true))) rfl (by kernel_rfl) (by kernel_rfl) (by kernel_rfl) (fun _ _ _ h => h) (Or.inl ⟨by kernel_rfl, fun w' hS' => by go_simp⟩) hS ?_
              refine wpAnyH_take (i := 2) (v := ((.bool true))) rfl (by kernel_rfl) (by kernel_rfl) (by kernel_rfl) (fun _ _ _ h => h) (Or.inl ⟨by kernel_rfl, fun w' hS' => by go_simp⟩) hS ?_
              refine wpAnyH_take (i := 3) (v := ((.slice (some ad) l.length c))) rfl (by kernel_rfl) (by kernel_rfl) (by kernel_rfl) (fun _ _ _ h => h) (Or.inl ⟨by kernel_rfl, fun w' hS' => by go_simp⟩) hS ?_
              refine wpAnyH_take (i := 4) (v := ((.int .i64 (k : Int)))) rfl (by kernel_rfl) (by kernel_rfl) (by kernel_rfl) (fun _ _ _ h => h) (Or.inl ⟨by kernel_rfl, fun w' hS' => by go_simp⟩) hS ?_
              refine wpAnyH_take (i := 5) (v := ((.pointer (some (ad.add (k * 8)))))) rfl (by kernel_rfl) (by kernel_rfl) (by kernel_rfl) (fun _ _ _ h => h) (Or.inl ⟨by kernel_rfl, fun w' hS' => by go_simp; try (intro h; exact absurd h (by omega))⟩) hS ?_
              refine wpAnyH_take (i := 6) (v := ((agX x))) rfl (by kernel_rfl) (by kernel_rfl) (by kernel_rfl) (fun _ _ _ h => h) (Or.inl ⟨by kernel_rfl, fun w' hS' => by have hL := ((HLA.out.below hS').six HX.out); obtain ⟨ad', had, _, d0, d1, d2, d3, d4, d5, d6, d7⟩ := hL; cases had; go_simp⟩) hS ?_
              refine wpAnyH_take (i := 7) (v := ((.slice (some ao) O.length co))) rfl (by kernel_rfl) (by kernel_rfl) (by kernel_rfl) (fun _ _ _ h => h) (Or.inl ⟨by kernel_rfl, fun w' hS' => by go_simp⟩) hS ?_
              refine wpAnyH_take (i := 8) (v := ((.int .i64 ((j : Int) + 1)))) rfl (by kernel_rfl) (by kernel_rfl) (by kernel_rfl) (fun _ _ _ h => h) (Or.inl ⟨by kernel_rfl, fun w' hS' => by go_simp⟩) hS ?_
              refine wpAnyH_take (i := 9) (v := ((.int .i64 (j : Int)))) rfl (by kernel_rfl) (by kernel_rfl) (by kernel_rfl) (fun _ _ _ h => h) (Or.inl ⟨by kernel_rfl, fun w' hS' => by go_simp⟩) hS ?_
              refine wpAnyH_take (i := 10) (v := ((.pointer (some (ao.add (j * 8)))))) rfl (by kernel_rfl) (by kernel_rfl) (by kernel_rfl) (fun _ _ _ h => h) (Or.inl ⟨by kernel_rfl, fun w' hS' => by go_simp; try (intro h; exact absurd h (by omega))⟩) hS ?_
              refine wpAnyH_take (i := 11) (v := ((agX y))) rfl (by kernel_rfl) (by kernel_rfl) (by kernel_rfl) (fun _ _ _ h => h) (Or.inl ⟨by kernel_rfl, fun w' hS' => by have hL := ((HOA.out.below hS').six HY.out); obtain ⟨ad', had, _, d0, d1, d2, d3, d4, d5, d6, d7⟩ := hL; cases had; go_simp⟩) hS ?_
              refine wpAnyH_ready (rs := [12]) (by kernel_rfl) (by simp) ?_
              refine AllReadyH.cons rfl (fun K hK => ?_) AllReadyH.nil
              go_simp
              refine (HCV.out _).mono ?_
              rintro e w5 ⟨rfl, hby⟩
              refine hK.out _ _ (hS.trans (hby.mono hS.size)) (fun hS => ?_)
              clear hK K hby
              refine wpAnyH_take (i := 13) (v := ((.bool bc))) rfl (by kernel_rfl) (by kernel_rfl) (by kernel_rfl) (fun _ _ _ h => h) (Or.inl ⟨by kernel_rfl, fun w' hS' => by go_simp⟩) hS ?_
              refine wpAnyH_take (i := 14) (v := ((.bool bc))) rfl (by kernel_rfl) (by kernel_rfl) (by kernel_rfl) (fun _ _ _ h => h) (Or.inl ⟨by kernel_rfl, fun w' hS' => by cases bc <;> go_simp⟩) hS ?_
              refine wpAnyH_done (by kernel_rfl) ?_ _
              go_simp
              go_wp2_with fail
              go_meet
              exact ⟨rfl, hS⟩
            case rest =>
              obtain ⟨rfl, hbx⟩ := hcut
              have HBx := Lib.hid hbx
              cases bc
              · have hins : Hid (Stab ((l.take (k + 1)).filter openB) (O.take (j + 1) ++ x :: O.drop (j + 1))) := Lib.hid (by rw [HNX.out]; exact stab_insert HXF.out HS2.out (by omega) (ins_low HS2.out HY.out (of_decide_eq_false HBC.out.symm)) (fun i z hi hz => HQ.out i z hi hz))
                obtain ⟨g, cg, hvv, hgb, hgl, _, _⟩ := row_some HR.out (by omega)
                injection hvv with hv1 hv2 hv3
                injection hv1 with hv1
                subst hv1 hv3
                have hOc := row_below HR.out hbx
                have hBc : Below w.heap.size w wc := HB.out.trans (hbx.mono hBs)
                have hOca := hOc.alloc (.cells #[] 37)
                have hN1 := take_news hOca (show j + 1 ≤ O.length by omega)
                have HN1 := Lib.hid hN1
                have HOc := Lib.hid hOca
                have HBc := Lib.hid hBc
                have hBw := hBc.size
                have hne0 : Hid (∀ k, (Value.slice (some ⟨wc.heap.size, 0, none⟩) 0 0).ownBlock = some k → (Value.slice (some ⟨g, 0, none⟩) O.length co).ownBlock ≠ some k) := Lib.hid (by
                  intro k hk hk'
                  simp [Value.ownBlock] at hk hk'
                  have := (hOc.lt g rfl).2
                  omega)
                have hlt1 : (O.take (j + 1)).length = j + 1 := by rw [List.length_take]; omega
                have HT1 : Hid ((lcells (O.take (j + 1))).length = (j + 1) * 8) := Lib.hid (by rw [lcells_length, hlt1])
                have HT3 : Hid ((lcells (O.drop (j + 1))).length = (O.length - (j + 1)) * 8) := Lib.hid (by rw [lcells_length, List.length_drop])
                clear hN1 hOca hBc hOc hlt1 HBi hbx HBx
                by_cases hcap : co = j + 1
                · subst hcap
                  go_wp2_with (first
                    | (at_builtin; refine wpList_append_any _ rfl (.tmp 38) (.tmp 41) 22 rfl w.heap.size 37 i0 _ 8 80 Tryz.underlying22 H1.out H2.out H3.out H4.out rfl (by decide) _ 0 [] rfl (empty_row wc w.heap.size _ hBw) (some ⟨g, 0, none⟩) (j + 1) (j + 1) (lcells (O.take (j + 1))) rfl HT1.out (by simp) HN1.out (lcells_one _) (by unfold maxLen; omega) (by omega) (by simp only [World.size_alloc]; omega) ?_; intro v1 w1 hown1 hg1 ha1;
                        have HW1 := Lib.hid (ins_step HBc.out HOc.out (empty_row wc w.heap.size _ hBw) hg1.out ha1.out hne0.out hBw); obtain ⟨ad', had', _, d0, d1, d2, d3, d4, d5, d6, d7⟩ := (HL.out.at_ HW1.out.1).six HX.out; cases had'; have HO1 := Lib.hid hown1; clear hown1)
                    | (at_builtin; refine wpList_append_any _ rfl (.tmp 43) (.tmp 48) 22 rfl w.heap.size 37 i0 _ 8 80 Tryz.underlying22 H1.out H2.out H3.out H4.out rfl (by decide) _ (0 + (j + 1)) _ rfl (HO1.out.alloc _) (some ⟨w1.heap.size, 0, none⟩) 1 1 (encL x) rfl rfl (by simp) (fun a e => by cases e; exact six_new w1 x _) (encL_one x) (by unfold maxLen; omega) (by omega) (by simp only [World.size_alloc]; have := HW1.out.1.size; omega) ?_; intro v2 w2 hown2 hg2 ha2;
                        have HW2 := Lib.hid (ins_more HW1.out HO1.out hg2.out ha2.out); have HN3 := Lib.hid (drop_news HW2.out.2.1 (show j + 1 ≤ O.length by omega)); have HO2 := Lib.hid hown2; clear hown2)
                    | (at_builtin; refine wpList_append_any _ rfl (.tmp 50) (.tmp 53) 22 rfl w.heap.size 37 i0 _ 8 80 Tryz.underlying22 H1.out H2.out H3.out H4.out rfl (by decide) _ (0 + (j + 1) + 1) _ rfl HO2.out (some ⟨g, 0, none⟩) 0 0 [] rfl rfl (by simp) (fun _ _ _ _ h => by simp at h) (by simp) (by unfold maxLen; omega) (by omega) HW2.out.1.size ?_; intro v3 w3 hown3 hg3 ha3;
                        have HB3 := Lib.hid (HW2.out.1.grown hg3.out HW2.out.1.size (fun k hk => (HO2.out.lt k hk).1)); have HO3 := Lib.hid hown3; clear hown3))
                  go_roundw
                  case rel => exact ⟨k + 1, O.take (j + 1) ++ x :: O.drop (j + 1), by omega, by rw [List.length_append, List.length_cons, List.length_take, List.length_drop]; omega, by go_num, hins, Lib.hid (ins_end0 HO3.out (by omega) (by omega)), HB3⟩
                  case measure => simp [intOf]; omega
                · have hcap1 : ¬ j + 1 = co := fun e => hcap e.symm
                  have hcap2 : j + 1 < co := by omega
                  go_wp2_with (first
                    | (at_builtin; refine wpList_append_any _ rfl (.tmp 38) (.tmp 41) 22 rfl w.heap.size 37 i0 _ 8 80 Tryz.underlying22 H1.out H2.out H3.out H4.out rfl (by decide) _ 0 [] rfl (empty_row wc w.heap.size _ hBw) (some ⟨g, 0, none⟩) (j + 1) co (lcells (O.take (j + 1))) rfl HT1.out (by simp) HN1.out (lcells_one _) (by unfold maxLen; omega) (by omega) (by simp only [World.size_alloc]; omega) ?_; intro v1 w1 hown1 hg1 ha1;
                        have HW1 := Lib.hid (ins_step HBc.out HOc.out (empty_row wc w.heap.size _ hBw) hg1.out ha1.out hne0.out hBw); obtain ⟨ad', had', _, d0, d1, d2, d3, d4, d5, d6, d7⟩ := (HL.out.at_ HW1.out.1).six HX.out; cases had'; have HO1 := Lib.hid hown1; clear hown1)
                    | (at_builtin; refine wpList_append_any _ rfl (.tmp 43) (.tmp 48) 22 rfl w.heap.size 37 i0 _ 8 80 Tryz.underlying22 H1.out H2.out H3.out H4.out rfl (by decide) _ (0 + (j + 1)) _ rfl (HO1.out.alloc _) (some ⟨w1.heap.size, 0, none⟩) 1 1 (encL x) rfl rfl (by simp) (fun a e => by cases e; exact six_new w1 x _) (encL_one x) (by unfold maxLen; omega) (by omega) (by simp only [World.size_alloc]; have := HW1.out.1.size; omega) ?_; intro v2 w2 hown2 hg2 ha2;
                        have HW2 := Lib.hid (ins_more HW1.out HO1.out hg2.out ha2.out); have HN3 := Lib.hid (drop_news HW2.out.2.1 (show j + 1 ≤ O.length by omega)); have HO2 := Lib.hid hown2; clear hown2)
                    | (at_builtin; refine wpList_append_any _ rfl (.tmp 50) (.tmp 53) 22 rfl w.heap.size 37 i0 _ 8 80 Tryz.underlying22 H1.out H2.out H3.out H4.out rfl (by decide) _ (0 + (j + 1) + 1) _ rfl HO2.out (some ⟨g, (j + 1) * 8, none⟩) (O.length - (j + 1)) (co - (j + 1)) (lcells (O.drop (j + 1))) rfl HT3.out (by simp) HN3.out (lcells_one _) (by unfold maxLen; omega) (by omega) HW2.out.1.size ?_; intro v3 w3 hown3 hg3 ha3;
                        have HB3 := Lib.hid (HW2.out.1.grown hg3.out HW2.out.1.size (fun k hk => (HO2.out.lt k hk).1)); have HO3 := Lib.hid hown3; clear hown3))
                  go_roundw
                  case rel => exact ⟨k + 1, O.take (j + 1) ++ x :: O.drop (j + 1), by omega, by rw [List.length_append, List.length_cons, List.length_take, List.length_drop]; omega, by go_num, hins, Lib.hid (ins_end HO3.out (by omega)), HB3⟩
                  case measure => simp [intOf]; omega
              · clear HBi hbx
                go_wp2
                go_roundw
                case rel => exact ⟨j, by omega, by go_num, Lib.hid (fun i z hi hz => by
                  by_cases e : i = j
                  · subst e
                    have : z = y := Option.some.inj (hz.symm.trans HY.out)
                    subst this
                    exact of_decide_eq_true HBC.out.symm
                  · exact HQ.out i z (by omega) hz), HBx⟩
                case measure => simp [intOf] <;> omega
          · obtain rfl : a = 0 := by omega
            go_upto_region 7 with (fail)
            go_cut [35] (fun v wx => v = .bool false ∧ Below wA.heap.size wA wx)
            case first =>
              have hS : (fun w' => Below wA.heap.size wA w') wr.drew := HBi.out.drew
              refine wp_region_held_drew (S := fun w' => Below wA.heap.size wA w') (by kernel_rfl) hS (fun hS => ?_)
              refine wpAnyH_take (i := 0) (v := ((.int .i64 0))) rfl (by kernel_rfl) (by kernel_rfl) (by kernel_rfl) (fun _ _ _ h => h) (Or.inl ⟨by kernel_rfl, fun w' hS' => by go_simp⟩) hS ?_
              refine wpAnyH_take (i := 1) (v := ((.bool false))) rfl (by kernel_rfl) (by kernel_rfl) (by kernel_rfl) (fun _ _ _ h => h) (Or.inl ⟨by kernel_rfl, fun w' hS' => by go_simp⟩) hS ?_
              refine wpAnyH_take (i := 2) (v := ((.bool false))) rfl (by kernel_rfl) (by kernel_rfl) (by kernel_rfl) (fun _ _ _ h => h) (Or.inl ⟨by kernel_rfl, fun w' hS' => by go_simp⟩) hS ?_
              refine wpAnyH_take (i := 3) (v := (undef)) rfl (by kernel_rfl) (by kernel_rfl) (by kernel_rfl) (fun _ _ _ h => h) (Or.inr ⟨by kernel_rfl, rfl⟩) hS ?_
              refine wpAnyH_take (i := 4) (v := (undef)) rfl (by kernel_rfl) (by kernel_rfl) (by kernel_rfl) (fun _ _ _ h => h) (Or.inr ⟨by kernel_rfl, rfl⟩) hS ?_
              refine wpAnyH_take (i := 5) (v := (undef)) rfl (by kernel_rfl) (by kernel_rfl) (by kernel_rfl) (fun _ _ _ h => h) (Or.inr ⟨by kernel_rfl, rfl⟩) hS ?_
              refine wpAnyH_take (i := 6) (v := (undef)) rfl (by kernel_rfl) (by kernel_rfl) (by kernel_rfl) (fun _ _ _ h => h) (Or.inr ⟨by kernel_rfl, rfl⟩) hS ?_
              refine wpAnyH_take (i := 7) (v := (undef)) rfl (by kernel_rfl) (by kernel_rfl) (by kernel_rfl) (fun _ _ _ h => h) (Or.inr ⟨by kernel_rfl, rfl⟩) hS ?_
              refine wpAnyH_take (i := 8) (v := (undef)) rfl (by kernel_rfl) (by kernel_rfl) (by kernel_rfl) (fun _ _ _ h => h) (Or.inr ⟨by kernel_rfl, rfl⟩) hS ?_
              refine wpAnyH_take (i := 9) (v := (undef)) rfl (by kernel_rfl) (by kernel_rfl) (by kernel_rfl) (fun _ _ _ h => h) (Or.inr ⟨by kernel_rfl, rfl⟩) hS ?_
              refine wpAnyH_take (i := 10) (v := (undef)) rfl (by kernel_rfl) (by kernel_rfl) (by kernel_rfl) (fun _ _ _ h => h) (Or.inr ⟨by kernel_rfl, rfl⟩) hS ?_
              refine wpAnyH_take (i := 11) (v := (undef)) rfl (by kernel_rfl) (by kernel_rfl) (by kernel_rfl) (fun _ _ _ h => h) (Or.inr ⟨by kernel_rfl, rfl⟩) hS ?_
              refine wpAnyH_take (i := 12) (v := (undef)) rfl (by kernel_rfl) (by kernel_rfl) (by kernel_rfl) (fun _ _ _ h => h) (Or.inr ⟨by kernel_rfl, rfl⟩) hS ?_
              refine wpAnyH_take (i := 13) (v := (undef)) rfl (by kernel_rfl) (by kernel_rfl) (by kernel_rfl) (fun _ _ _ h => h) (Or.inr ⟨by kernel_rfl, rfl⟩) hS ?_
              refine wpAnyH_take (i := 14) (v := ((.bool false))) rfl (by kernel_rfl) (by kernel_rfl) (by kernel_rfl) (fun _ _ _ h => h) (Or.inl ⟨by kernel_rfl, fun w' hS' => by go_simp⟩) hS ?_
              refine wpAnyH_done (by kernel_rfl) ?_ _
              go_simp
              go_wp2_with fail
              go_meet
              exact ⟨rfl, hS⟩
            case rest =>
              obtain ⟨rfl, hbx⟩ := hcut
              have hins : Hid (Stab ((l.take (k + 1)).filter openB) (x :: O)) := Lib.hid (by
                rw [HNX.out]
                have := stab_insert HXF.out HS2.out (Nat.zero_le _) (fun j y hj => absurd hj (by omega)) (fun j y hj hy => HQ.out j y hj hy)
                simpa using this)
              clear HOA
              rcases HR.out.2 with ⟨hvv, hO0⟩ | ⟨g, cg, cur, hvv, hgb, hgh, _⟩
              · injection hvv with hv1 hv2 hv3
                subst hv1 hv3
                obtain rfl : O = [] := List.eq_nil_of_length_eq_zero hO0
                simp only [List.length_nil] at HR hk1 hco1 ⊢
                have hOc := row_below HR.out hbx
                have hBc : Below w.heap.size w wc := HB.out.trans (hbx.mono hBs)
                have HOc := Lib.hid (hOc.alloc (.cells #[] 37))
                have HBc := Lib.hid hBc
                have hBw := hBc.size
                have hne0 : Hid (∀ k, (Value.slice (some ⟨wc.heap.size, 0, none⟩) 0 0).ownBlock = some k → (Value.slice none 0 0).ownBlock ≠ some k) := Lib.hid (by
                  intro k hk hk'
                  simp [Value.ownBlock] at hk')
                clear hBc hOc HBi hbx
                go_wp2_with (first
                  | (at_builtin; refine wpList_append_any _ rfl (.tmp 38) (.tmp 41) 22 rfl w.heap.size 37 i0 _ 8 80 Tryz.underlying22 H1.out H2.out H3.out H4.out rfl (by decide) _ 0 [] rfl (empty_row wc w.heap.size _ hBw) none 0 0 [] rfl rfl (by simp) (fun _ _ _ _ h => by simp at h) (by simp) (by unfold maxLen; omega) (by omega) (by simp only [World.size_alloc]; omega) ?_; intro v1 w1 hown1 hg1 ha1;
                                    have HW1 := Lib.hid (ins_step HBc.out HOc.out (empty_row wc w.heap.size _ hBw) hg1.out ha1.out hne0.out hBw); obtain ⟨ad', had', _, d0, d1, d2, d3, d4, d5, d6, d7⟩ := (HL.out.at_ HW1.out.1).six HX.out; cases had'; have HO1 := Lib.hid hown1; clear hown1)
                  | (at_builtin; refine wpList_append_any _ rfl (.tmp 43) (.tmp 48) 22 rfl w.heap.size 37 i0 _ 8 80 Tryz.underlying22 H1.out H2.out H3.out H4.out rfl (by decide) _ (0 + 0) _ rfl (HO1.out.alloc _) (some ⟨w1.heap.size, 0, none⟩) 1 1 (encL x) rfl rfl (by simp) (fun a e => by cases e; exact six_new w1 x _) (encL_one x) (by unfold maxLen; omega) (by omega) (by simp only [World.size_alloc]; have := HW1.out.1.size; omega) ?_; intro v2 w2 hown2 hg2 ha2;
                                    have HW2 := Lib.hid (ins_more HW1.out HO1.out hg2.out ha2.out); have HO2 := Lib.hid hown2; clear hown2)
                  | (at_builtin; refine wpList_append_any _ rfl (.tmp 50) (.tmp 53) 22 rfl w.heap.size 37 i0 _ 8 80 Tryz.underlying22 H1.out H2.out H3.out H4.out rfl (by decide) _ (0 + 0 + 1) _ rfl HO2.out none 0 0 [] rfl rfl (by simp) (fun _ _ _ _ h => by simp at h) (by simp) (by unfold maxLen; omega) (by omega) HW2.out.1.size ?_; intro v3 w3 hown3 hg3 ha3;
                                    have HB3 := Lib.hid (HW2.out.1.grown hg3.out HW2.out.1.size (fun k hk => (HO2.out.lt k hk).1)); have HO3 := Lib.hid hown3; clear hown3))
                go_roundw
                case rel => exact ⟨k + 1, [x], by omega, by simp, by go_num, hins, Lib.hid (by simpa [lcells] using HO3.out), HB3⟩
                case measure => simp [intOf]; omega
              · have hgl : g < wA.heap.size := (Array.getElem?_eq_some_iff.1 hgh).1
                injection hvv with hv1 hv2 hv3
                subst hv1 hv3
                have hOc := row_below HR.out hbx
                have hBc : Below w.heap.size w wc := HB.out.trans (hbx.mono hBs)
                have HOc := Lib.hid (hOc.alloc (.cells #[] 37))
                have HBc := Lib.hid hBc
                have hBw := hBc.size
                have hne0 : Hid (∀ k, (Value.slice (some ⟨wc.heap.size, 0, none⟩) 0 0).ownBlock = some k → (Value.slice (some ⟨g, 0, none⟩) O.length co).ownBlock ≠ some k) := Lib.hid (by
                  intro k hk hk'
                  simp [Value.ownBlock] at hk hk'
                  have := (hOc.lt g rfl).2
                  omega)
                have HT3 : Hid ((lcells O).length = O.length * 8) := Lib.hid (lcells_length O)
                clear hBc hOc HBi hbx
                go_wp2_with (first
                  | (at_builtin; refine wpList_append_any _ rfl (.tmp 38) (.tmp 41) 22 rfl w.heap.size 37 i0 _ 8 80 Tryz.underlying22 H1.out H2.out H3.out H4.out rfl (by decide) _ 0 [] rfl (empty_row wc w.heap.size _ hBw) (some ⟨g, 0, none⟩) 0 co [] rfl rfl (by simp) (fun _ _ _ _ h => by simp at h) (by simp) (by unfold maxLen; omega) (by omega) (by simp only [World.size_alloc]; omega) ?_; intro v1 w1 hown1 hg1 ha1;
                                    have HW1 := Lib.hid (ins_step HBc.out HOc.out (empty_row wc w.heap.size _ hBw) hg1.out ha1.out hne0.out hBw); obtain ⟨ad', had', _, d0, d1, d2, d3, d4, d5, d6, d7⟩ := (HL.out.at_ HW1.out.1).six HX.out; cases had'; have HO1 := Lib.hid hown1; clear hown1)
                  | (at_builtin; refine wpList_append_any _ rfl (.tmp 43) (.tmp 48) 22 rfl w.heap.size 37 i0 _ 8 80 Tryz.underlying22 H1.out H2.out H3.out H4.out rfl (by decide) _ (0 + 0) _ rfl (HO1.out.alloc _) (some ⟨w1.heap.size, 0, none⟩) 1 1 (encL x) rfl rfl (by simp) (fun a e => by cases e; exact six_new w1 x _) (encL_one x) (by unfold maxLen; omega) (by omega) (by simp only [World.size_alloc]; have := HW1.out.1.size; omega) ?_; intro v2 w2 hown2 hg2 ha2;
                                    have HW2 := Lib.hid (ins_more HW1.out HO1.out hg2.out ha2.out); have HN3 := Lib.hid (all_news HW2.out.2.1); have HO2 := Lib.hid hown2; clear hown2)
                  | (at_builtin; refine wpList_append_any _ rfl (.tmp 50) (.tmp 53) 22 rfl w.heap.size 37 i0 _ 8 80 Tryz.underlying22 H1.out H2.out H3.out H4.out rfl (by decide) _ (0 + 0 + 1) _ rfl HO2.out (some ⟨g, 0, none⟩) O.length co (lcells O) rfl HT3.out (by simp) HN3.out (lcells_one _) (by unfold maxLen; omega) (by omega) HW2.out.1.size ?_; intro v3 w3 hown3 hg3 ha3;
                                    have HB3 := Lib.hid (HW2.out.1.grown hg3.out HW2.out.1.size (fun k hk => (HO2.out.lt k hk).1)); have HO3 := Lib.hid hown3; clear hown3))
                go_roundw
                case rel => exact ⟨k + 1, x :: O, by omega, by rw [List.length_cons]; omega, by go_num, hins, Lib.hid (ins_all HO3.out), HB3⟩
                case measure => simp [intOf]; omega
      · have hs1 : (x.state != 1) = true := by unfold openB at hop; simpa using hop
        have hsm : Hid (Stab ((l.take (k + 1)).filter openB) O) := Lib.hid (by rw [filter_take_succ openB HX.out, if_neg hop, List.append_nil]; exact HS.out)
        clear hop
        go_wp2
        go_roundw
        case rel => exact ⟨k + 1, O, by omega, by omega, by go_num, hsm, HR, HB⟩
        case measure => simp [intOf]; omega
    · obtain rfl : k = l.length := by omega
      have hst := HS.out
      rw [List.take_length] at hst
      have HST := Lib.hid hst
      clear hst
      go_wp2
      go_ret
      exact ⟨_, O, rfl, HST.out, LSl.own HR.out, HB.out⟩
end Go.Proofs.YtepkmgmooadbjaaGreat
end
section
/- The document's answer: Ahead. -/
namespace Go.Proofs.YtepkmgmooadbjaaGreat
open Go.ChangeShapes Go.WideShapes Go.ChangeAt Go.RowKit Go.Maps Go.Sort
set_option linter.unusedVariables false

theorem ahead_none {id : Int} {out : List Lt} (h : ∀ y ∈ out, y.id ≠ id) : aheadL id out = [] := by
  unfold aheadL
  rw [idxOf_none (idB id) out (by rw [List.any_eq_false]; intro y hy; simp [idB, h y hy])]
  rfl
theorem ahead_hit {id : Int} {out : List Lt} {k : Nat} {x : Lt} (hx : out[k]? = some x) (he : x.id = id) (h : ∀ y ∈ out.take k, y.id ≠ id) : aheadL id out = out.take k := by
  unfold aheadL
  rw [idxOf_hit (idB id) out k x hx (by simp [idB, he]) (by rw [List.any_eq_false]; intro y hy; simp [idB, h y hy])]
  rfl
/-- A list that reads as the lines ahead. -/
def ReadsAhead (l : List Lt) (id : Int) (w : World) (e : Ending) (w' : World) : Prop := ∃ v out, e = .returned v ∧ Stab (l.filter openB) out ∧ LSl w' w'.heap.size v (aheadL id out) ∧ Go.RowKit.Below w.heap.size w w'
set_option maxRecDepth 100000 in
set_option maxHeartbeats 4000000 in
theorem refAhead_any (v : Value) (l : List Lt) (id : Int) (w : World) (hlen : l.length ≤ 1048576) (hv : LSl w w.heap.size v l) :
    Calls Tryz.prog 14 #[v, .int .i64 id] w (ReadsAhead l id w) := by
  obtain ⟨i0, hi, hz0, hz1, hz2⟩ := info_parts infoLot
  have H1 := Lib.hid hi
  have H2 := Lib.hid hz0
  have H3 := Lib.hid hz1
  have H4 := Lib.hid hz2
  have HC := Lib.hid (refOpen_any v l w hlen hv)
  clear hi hz0 hz1 hz2 hv
  go_enter Tryz.func14, Tryz.ntmps14
  go_wp2_with fail
  refine HC.out.mono ?_
  rintro e w1 ⟨v1, out, rfl, hst, hl, hb⟩
  have HST := Lib.hid hst
  have HB1 := Lib.hid hb
  have HL1 := Lib.hid hl
  have hol : out.length ≤ 1048576 := by rw [hst.length]; exact Nat.le_trans (List.length_filter_le _ _) hlen
  have hl2 := hl
  obtain ⟨A, c, rfl, hc1, hc2, hcz, _⟩ := hl2
  clear hst hb hl HC
  go_wp2
  go_loopw [6] (fun i wr => ∃ k : Nat, k ≤ out.length ∧ i = .int .i64 k ∧ w1 = wr ∧ Hid (∀ y ∈ out.take k, y.id ≠ id)) (fun i _ => out.length - (intOf i).toNat)
  case atStart => exact ⟨0, Nat.zero_le _, rfl, rfl, Lib.hid (by simp)⟩
  case round =>
    obtain ⟨k, hk, rfl, rfl, HN⟩ := hrel
    by_cases hlt : k < out.length
    · obtain ⟨x, hx⟩ : ∃ x, out[k]? = some x := ⟨_, List.getElem?_eq_getElem hlt⟩
      obtain ⟨ad, rfl, hab, d0, _⟩ := HL1.out.six hx
      have HX := Lib.hid hx
      clear hx
      by_cases he : x.id = id
      · have hb1 : (x.id == id) = true := by simp [he]
        have HE := Lib.hid he
        clear he
        have hlk : (out.take k).length = k := by rw [List.length_take]; omega
        have HT1 : Hid ((lcells (out.take k)).length = k * 8) := Lib.hid (by rw [lcells_length, hlk])
        have hnews : ∀ p : Addr, some ad = some p → ∀ j u, (lcells (out.take k))[j]? = some u → (w1.alloc (.cells #[] 37)).cell? (p.add j) = some u := by
          intro p ep j u hu
          cases ep
          obtain ⟨A', c', hv', _, _, _, hl'⟩ := HL1.out.alloc_ (Nat.le_refl _) (.cells #[] 37)
          injection hv' with hA'
          subst hA'
          rw [← lcells_take out k hk] at hu
          obtain ⟨ad', e', _, h'⟩ := (hl'.take_ (k * 8)).get hu
          cases e'
          exact h'
        have HN1 := Lib.hid hnews
        have hBw := HB1.out.size
        have hle : k ≤ c := by omega
        clear hnews hlk
        go_wp2_with (at_builtin; refine wpList_append_any _ rfl (.tmp 22) (.tmp 25) 22 rfl w.heap.size 37 i0 _ 8 80 Tryz.underlying22 H1.out H2.out H3.out H4.out rfl (by decide) _ 0 [] rfl (empty_row w1 w.heap.size _ hBw) (some ad) k c (lcells (out.take k)) rfl HT1.out (by simp) HN1.out (lcells_one _) (by unfold maxLen; omega) (by omega) (by simp only [World.size_alloc]; omega) ?_; intro v2 w2 hown2 hg2 ha2; have HO2 := Lib.hid hown2; have HG2 := Lib.hid hg2; clear hown2)
        go_ret
        refine ⟨v2, out, rfl, HST.out, ?_, ?_⟩
        · rw [ahead_hit HX.out HE.out HN.out]
          have := HO2.out
          rw [List.nil_append, Nat.zero_add] at this
          exact LSl.own (by rw [show (out.take k).length = k by rw [List.length_take]; omega]; exact this)
        · exact (HB1.out.alloc hBw _).grown HG2.out.out (by simp only [World.size_alloc]; omega) (fun j hj => (( empty_row w1 w.heap.size 37 hBw).lt j hj).1)
      · have hb1 : (x.id == id) = false := by simpa using he
        have HE := Lib.hid he
        clear he
        go_wp2
        go_roundw
        case rel => exact ⟨k + 1, by omega, by go_num, by first | rfl | trivial, Lib.hid (by
          intro z hz
          rw [List.take_add_one, HX.out] at hz
          simp only [Option.toList, List.mem_append, List.mem_singleton] at hz
          exact hz.elim (HN.out z) (fun h => by subst h; exact HE.out))⟩
        case measure => simp [intOf]; omega
    · obtain rfl : k = out.length := by omega
      go_wp2
      go_ret
      exact ⟨_, out, rfl, HST.out, by rw [ahead_none (by have := HN.out; rwa [List.take_length] at this)]; exact LSl.nil, HB1.out⟩
end Go.Proofs.YtepkmgmooadbjaaGreat
end
section
/- Two lists that lie apart, one of them cut; a list that is lent. -/
namespace Go.Proofs.YtepkmgmooadbjaaGreat
open Go.ChangeShapes Go.WideShapes Go.ChangeAt Go.RowKit Go.Maps
set_option linter.unusedVariables false

def LentAt (w : World) (g : Nat) (l : List Lt) : Prop := w.ownsRow g 37 8 (.slice (some ⟨g, 0, none⟩) (l.length + 12) (l.length + 12)) (l.length + 12) (lcells (l ++ marksL 1 12))
theorem LentAt.row {w : World} {g : Nat} {l : List Lt} (h : LentAt w g l) : w.ownsRow g 37 8 (.slice (some ⟨g, 0, none⟩) (l.length + 12) (l.length + 12)) (l.length + 12) (lcells (l ++ marksL 1 12)) := h
theorem LentAt.still {w w' : World} {g : Nat} {l : List Lt} (h : LentAt w g l) (hb : w.grownBy w' none) : LentAt w' g l := World.ownsRow.kept h hb (.inr (by simp [Value.ownBlock]))
theorem LentAt.block {w : World} {g : Nat} {l : List Lt} (h : LentAt w g l) : g < w.heap.size := (World.ownsRow.lt h g rfl).2
theorem LentAt.lies {w : World} {g B : Nat} {l : List Lt} (h : LentAt w g l) (hB : g < B) : Lies w B (some ⟨g, 0, none⟩) (lcells (l ++ marksL 1 12)) := fun _ =>
  ⟨⟨g, 0, none⟩, rfl, hB, fun j u hj => by
    rw [addr0]
    have hlen : j < (lcells (l ++ marksL 1 12)).length := (List.getElem?_eq_some_iff.mp hj).1
    have h1 := h.1
    exact (World.ownsRow.cellAt h j (by omega)).trans hj⟩
theorem OwnC.lsl {w : World} {base : Nat} {v : Value} {l : List Lt} (h : OwnC w base 37 8 v l.length (lcells l)) : LSl w w.heap.size v l := by
  obtain ⟨A, c, rfl, h1, h2, h3⟩ := own_formC h
  refine ⟨A, c, rfl, h1, h2, h3, fun hne => ?_⟩
  rcases h.2 with ⟨hv, h0⟩ | ⟨g, cap, cur, hv, hb, hh, _⟩
  · rw [List.eq_nil_of_length_eq_zero h0] at hne
    exact absurd rfl hne
  · cases hv
    exact ⟨_, rfl, (h.lt g rfl).2, h.cells⟩
theorem LentAt.lsl {w : World} {g : Nat} {l : List Lt} (h : LentAt w g l) : LSl w w.heap.size (.slice (some ⟨g, 0, none⟩) l.length (l.length + 12)) l := by
  have h1 := own_prefix (n := l.length) (m := 12) (OwnC.of h)
  rw [lcells_take _ _ (by simp), List.take_left] at h1
  exact h1.lsl
theorem own_over {w w' : World} {base e size n g : Nat} {v : Value} {xs : List Value} (h : OwnC w base e size v n xs) (hg : w.grownBy w' (some g)) (hb : g < base) : OwnC w' base e size v n xs :=
  h.kept hg (.inr fun hv => by have := (h.lt g hv).1; omega)
theorem own_stay {w w' : World} {base e size n : Nat} {v : Value} {xs : List Value} (h : OwnC w base e size v n xs) (hg : w.grownBy w' none) : OwnC w' base e size v n xs := h.kept hg (by cases v.ownBlock <;> simp)
theorem base_lessC {w : World} {base base' e size n : Nat} {v : Value} {xs : List Value} (h : OwnC w base e size v n xs) (hb : base' ≤ base) : OwnC w base' e size v n xs := by
  refine ⟨h.1, ?_⟩
  rcases h.2 with h2 | ⟨g, cap, cur, h3, h4, h5⟩
  · exact .inl h2
  · exact .inr ⟨g, cap, cur, h3, Nat.le_trans hb h4, h5⟩
theorem below_over {w w1 w2 : World} {g : Nat} (h : Go.RowKit.Below w.heap.size w w1) (hg : w1.grownBy w2 (some g)) (hb : w.heap.size ≤ g) : Go.RowKit.Below w.heap.size w w2 :=
  h.grown hg h.size (fun k hk => by cases hk; exact hb)
theorem cutC {w : World} {m : Nat} {v : Value} {xs : List Lt} (h : CutR w m v xs) : OwnC w m 37 8 v xs.length (lcells xs) := by
  refine ⟨lcells_length xs, ?_⟩
  rcases h with ⟨rfl, rfl⟩ | ⟨g, cap, cur, h0, h1, h2, h2', h3, h4, h5⟩
  · exact .inl ⟨rfl, rfl⟩
  · exact .inr ⟨g, cap, cur, h0, h1, h3, h2, h2', h4, h5⟩
/-- The two lists that the law has, and where they are. -/
structure Two (w W : World) (v1 v2 : Value) (S B : List Lt) : Prop where
  low : Go.RowKit.Below w.heap.size w W
  ex : ∃ b1 b2, w.heap.size < b1 ∧ b1 ≤ b2 ∧ OwnC W b1 37 8 v1 S.length (lcells S) ∧ OwnC W b2 37 8 v2 B.length (lcells B) ∧ (∀ b, v1.ownBlock = some b → b < b2)
theorem Two.next {w W W' : World} {v1 v2 : Value} {S B : List Lt} (h : Two w W v1 v2 S B) (hb : Go.RowKit.Below W.heap.size W W') : Two w W' v1 v2 S B := by
  obtain ⟨hl, b1, b2, h0, h1, o1, o2, k⟩ := h
  exact ⟨hl.trans (hb.mono hl.size), b1, b2, h0, h1, own_stay o1 (below_none hb), own_stay o2 (below_none hb), k⟩
theorem Two.over {w W W' : World} {v1 v2 : Value} {S B : List Lt} (h : Two w W v1 v2 S B) (hg : W.grownBy W' (some w.heap.size)) : Two w W' v1 v2 S B := by
  obtain ⟨hl, b1, b2, h0, h1, o1, o2, k⟩ := h
  exact ⟨below_over hl hg (Nat.le_refl _), b1, b2, h0, h1, own_over o1 hg h0, own_over o2 hg (by omega), k⟩
theorem Two.s {w W : World} {v1 v2 : Value} {S B : List Lt} (h : Two w W v1 v2 S B) : LSl W W.heap.size v1 S := by
  obtain ⟨_, b1, b2, _, _, o1, o2, _⟩ := h; exact o1.lsl
theorem Two.b {w W : World} {v1 v2 : Value} {S B : List Lt} (h : Two w W v1 v2 S B) : LSl W W.heap.size v2 B := by
  obtain ⟨_, b1, b2, _, _, o1, o2, _⟩ := h; exact o2.lsl
def pair {α : Type} (a b : α) : Nat → α := fun j => if j = 0 then a else b
theorem pair_new (w : World) (a b : Value) : OwnC (w.alloc (.cells #[a, b] 22)) w.heap.size 22 1 (.slice (some ⟨w.heap.size, 0, none⟩) 2 2) 2 (listOf 2 (pair a b)) :=
  OwnC.of ⟨rfl, .inr ⟨w.heap.size, 2, _, rfl, Nat.le_refl _, heap_alloc_new w _, Nat.le_refl _, by decide, rfl, rfl⟩⟩
theorem two_cases {P : Nat → Prop} (h0 : P 0) (h1 : P 1) : ∀ j, j < 2 → P j := fun j hj => by
  match j, hj with
  | 0, _ => exact h0
  | 1, _ => exact h1
theorem apart2 {w W : World} {v1 v2 : Value} {S B : List Lt} (g : Nat) (hg : W.heap.size = g) (h : Two w W v1 v2 S B) (hl : S.length ≤ 1048576 ∧ B.length ≤ 1048576) :
    Calls Tryz.prog 15 #[.slice (some ⟨g, 0, none⟩) 2 2] (W.alloc (.cells #[v1, v2] 22)) fun e w' => e = .returned (.bool true) ∧ Go.RowKit.Below w.heap.size w w' := by
  subst hg
  obtain ⟨hlow, b1, b2, g0, g1, o1, o2, k1⟩ := h
  have hsz := hlow.size
  have hbs : ∀ j, j < 2 → ∀ b, (pair v1 v2 j).ownBlock = some b → pair b1 b2 j ≤ b :=
    two_cases (fun b hb => (o1.lt b hb).1) (fun b hb => (o2.lt b hb).1)
  have hup : ∀ i, i < 2 → ∀ j, j < 2 → i < j → ∀ b, (pair v1 v2 i).ownBlock = some b → b < pair b1 b2 j := by
    refine two_cases (two_cases ?_ ?_) (two_cases ?_ ?_) <;> intro hij b hb <;> first | (exfalso; omega) | (simp only [pair] at hb ⊢; have := k1 b hb; simp; omega)
  refine (apartl_any 2 W.heap.size 2 W.heap.size w.heap.size w.heap.size (pair v1 v2) (pair S.length B.length) (pair (lcells S) (lcells B)) _ (by omega) (by omega) (two_cases hl.1 hl.2) (pair_new W v1 v2) ?_ ?_ (Nat.le_refl _) (by simp only [World.size_alloc]; omega)).mono ?_
  · exact two_cases ((base_lessC o1 (by omega)).alloc _) ((base_lessC o2 (by omega)).alloc _)
  · intro i j hi hj hne b hb hb'
    rcases Nat.lt_or_gt_of_ne hne with h | h
    · have := hup i hi j hj h b hb
      have := hbs j hj b hb'
      omega
    · have := hup j hj i hi h b hb'
      have := hbs i hi b hb
      omega
  · rintro e w' ⟨he, hb⟩
    exact ⟨he, (hlow.alloc hsz _).trans hb⟩
theorem stab_ex (l : List Lt) : ∃ S, Stab l S := by
  refine ⟨(l.zipIdx.mergeSort (fun p q => !ltP q p)).map Prod.fst, _, rfl, List.mergeSort_perm _ _, ?_⟩
  have h := List.pairwise_mergeSort (le := fun p q => !ltP q p) (fun a b c h1 h2 => by
    simp only [Bool.not_eq_true', ltP_false] at h1 h2 ⊢
    omega) (fun a b => by
    by_cases h : ltP b a = true
    · have : ltP a b = false := by rw [ltP_true] at h; rw [ltP_false]; omega
      simp [this]
    · simp [h]) l.zipIdx
  exact h.imp fun {p q} hpq => by simpa using hpq
/-- What the law asks, in words of lists alone. -/
structure LawFacts (id : Int) (l S B : List Lt) : Prop where
  sizes : S.length ≤ 400 ∧ B.length ≤ 400
  open_ : ∀ v W, LSl W W.heap.size v l → Calls Tryz.prog 8 #[v] W fun e w' => ∃ v', e = .returned v' ∧ OwnC w' W.heap.size 37 8 v' S.length (lcells S) ∧ Go.RowKit.Below W.heap.size W w'
  ahead : ∀ v W, LSl W W.heap.size v l → Calls Tryz.prog 9 #[v, .int .i64 id] W fun e w' => ∃ v', e = .returned v' ∧ OwnC w' W.heap.size 37 8 v' B.length (lcells B) ∧ Go.RowKit.Below W.heap.size W w'
  ropen : ∀ v W, LSl W W.heap.size v l → Calls Tryz.prog 13 #[v] W fun e w' => ∃ v', e = .returned v' ∧ LSl w' w'.heap.size v' S ∧ Go.RowKit.Below W.heap.size W w'
  rahead : ∀ v W, LSl W W.heap.size v l → Calls Tryz.prog 14 #[v, .int .i64 id] W fun e w' => ∃ v', e = .returned v' ∧ LSl w' w'.heap.size v' B ∧ Go.RowKit.Below W.heap.size W w'
theorem lawFacts (id : Int) (l : List Lt) (hl : l.length ≤ 400) : ∃ S B, LawFacts id l S B := by
  obtain ⟨S, hS⟩ := stab_ex (l.filter openB)
  have hSl : S.length ≤ 400 := by rw [hS.length]; exact Nat.le_trans (List.length_filter_le _ _) hl
  refine ⟨S, aheadL id S, ⟨hSl, by unfold aheadL; rw [List.length_take]; omega⟩, fun v W h => ?_, fun v W h => ?_, fun v W h => ?_, fun v W h => ?_⟩
  · refine (open_any v l W (by omega) h).mono ?_
    rintro e w' ⟨v', out, he, ho, hr, hb⟩
    obtain rfl := ho.unique hS
    exact ⟨v', he, OwnC.of hr, hb⟩
  · refine (ahead_any id v l W (by omega) (by omega) h).mono ?_
    rintro e w' ⟨v', out, he, ho, hr, hb⟩
    obtain rfl := ho.unique hS
    exact ⟨v', he, cutC hr, hb⟩
  · refine (refOpen_any v l W (by omega) h).mono ?_
    rintro e w' ⟨v', out, he, ho, hr, hb⟩
    obtain rfl := ho.unique hS
    exact ⟨v', he, hr, hb⟩
  · refine (refAhead_any v l id W (by omega) h).mono ?_
    rintro e w' ⟨v', out, he, ho, hr, hb⟩
    obtain rfl := ho.unique hS
    exact ⟨v', he, hr, hb⟩
end Go.Proofs.YtepkmgmooadbjaaGreat
end
section
/- The law RankLists; the walk. -/
namespace Go.Proofs.YtepkmgmooadbjaaGreat
open Go.ChangeShapes Go.WideShapes Go.ChangeAt Go.RowKit Go.Maps
set_option linter.unusedVariables false

theorem below_lsl {w W : World} {v : Value} {l : List Lt} (h : LSl w w.heap.size v l) (hb : Go.RowKit.Below w.heap.size w W) : LSl W w.heap.size v l := h.below hb

set_option maxRecDepth 100000 in
set_option maxHeartbeats 4000000 in
theorem lists_any (v : Value) (l : List Lt) (id : Int) (w0 : World) (hv : LSl w0 w0.heap.size v l) (hs : Sized l) (hlen : l.length ≤ 140737488355328) :
    Calls Tryz.prog 3 #[v, .int .i64 id] w0 fun e w' => e = .returned (.bool true) ∧ Go.RowKit.Below w0.heap.size w0 w' := by
  have HS : Hid (Sized l) := Lib.hid hs
  have HV0 := Lib.hid hv
  clear hs hv
  go_enter Tryz.func3, Tryz.ntmps3
  go_wp2_with (go_at_call 5; fail)
  refine (great_any v l w0 HV0.out HS.out hlen).mono ?_
  rintro e w ⟨bg, rfl, hbg, hfew⟩
  have HV := Lib.hid (HV0.out.at_ hbg)
  have HBG := Lib.hid hbg
  clear hbg HV0
  cases bg
  · have hl400 : l.length ≤ 400 := hfew rfl
    clear hfew HS hlen
    obtain ⟨S, B, hF⟩ := lawFacts id l hl400
    have F := Lib.hid hF
    obtain ⟨z1, z2⟩ := hF.sizes
    clear hF
    go_wp2_with (first
      | (go_at_call 7; ((with_reducible refine (lentl_any v l w.heap.size _ HV.out (Nat.le_refl _) (by omega)).mono ?_); rintro e w1 ⟨rfl, hb, ho⟩; have B1 := Lib.hid hb; have X1 : Hid (LentAt w1 w.heap.size l) := Lib.hid ho; have n1 := X1.out.block; clear hb ho))
      | (go_at_call 8; ((with_reducible refine (F.out.open_ _ _ X1.out.lsl).mono ?_); rintro e w2 ⟨v1, rfl, ho, hb⟩; obtain ⟨A1, c1, rfl, q1, q2, q3⟩ := own_formC ho; clear q3; have B2 := Lib.hid (below_two B1.out hb); have X2 := Lib.hid (X1.out.still (below_none hb)); have S2 := Lib.hid ho; have n2 := hb.size; clear hb ho))
      | (go_at_call 9; ((with_reducible refine (F.out.ahead _ _ X2.out.lsl).mono ?_); rintro e w3 ⟨v2, rfl, ho, hb⟩; obtain ⟨A2, c2, rfl, q4, q5, q6⟩ := own_formC ho; clear q6; have F4 := Lib.hid (Two.mk (below_two B2.out hb) ⟨_, _, n1, n2, own_stay S2.out (below_none hb), ho, fun b hb' => (S2.out.lt b hb').2⟩); have X4 := Lib.hid (X2.out.still (below_none hb)); clear hb ho B1 B2 X1 X2 S2 n1 n2))
      | (go_at_call 10; ((with_reducible refine (keptl_any v l w3.heap.size w.heap.size _ ((below_lsl HV.out F4.out.low).mono F4.out.low.size) (X4.out.lies X4.out.block) (Nat.le_refl _) (by omega)).mono ?_); rintro e w6 ⟨rfl, hb⟩; have F6 := Lib.hid (F4.out.next hb); have X6 := Lib.hid (X4.out.still (below_none hb)); clear hb F4 X4))
      | (go_at_call 11; ((with_reducible refine (overl_any l.length w.heap.size _ _ _ X6.out.row (by omega)).mono ?_); rintro e w7 ⟨rfl, hg⟩; have F7 := Lib.hid (F6.out.over hg); clear hg F6 X6))
      | (go_at_call 13; ((with_reducible refine (F.out.ropen _ _ ((below_lsl HV.out F7.out.low).mono F7.out.low.size)).mono ?_); rintro e w9 ⟨u3, rfl, hu, hb⟩; have hu2 := hu; obtain ⟨E3, d3, rfl, p5, p6, _⟩ := hu2; have F9 := Lib.hid (F7.out.next hb); have R9 := Lib.hid hu; clear hb hu F7))
      | (go_at_call 14; ((with_reducible refine (F.out.rahead _ _ ((below_lsl HV.out F10.out.low).mono F10.out.low.size)).mono ?_); rintro e w11 ⟨u4, rfl, hu, hb⟩; have hu2 := hu; obtain ⟨E4, d4, rfl, p7, p8, _⟩ := hu2; have F11 := Lib.hid (F10.out.next hb); have R11 := Lib.hid hu; clear hb hu F10))
      | (go_at_call 12; (first
          | ((with_reducible refine (same_yes S _ _ _ F9.out.s R9.out (by omega)).mono ?_); rintro e w10 ⟨rfl, hb⟩; have F10 := Lib.hid (F9.out.next hb); clear hb F9 R9)
          | ((with_reducible refine (same_yes B _ _ _ F11.out.b R11.out (by omega)).mono ?_); rintro e w12 ⟨rfl, hb⟩; have F12 := Lib.hid (F11.out.next hb); clear hb F11 R11)))
      | (go_at_call 15; ((with_reducible refine (apart2 _ rfl F12.out (by omega)).mono ?_); rintro e w16 ⟨rfl, hb⟩; have B16 := Lib.hid hb; clear hb F12))
      | (go_at_call 6; ((with_reducible refine (awake_any _).mono ?_); rintro e w17 ⟨rfl, hb⟩; have B17 := Lib.hid (below_two B16.out hb); clear hb)))
    go_ret
    exact ⟨rfl, below_two HBG.out B17.out⟩
  · go_wp2_with (go_at_call 6; ((with_reducible refine (awake_any _).mono ?_); rintro e w1 ⟨rfl, hbx⟩))
    go_ret
    exact ⟨rfl, below_two HBG.out hbx⟩
end Go.Proofs.YtepkmgmooadbjaaGreat
end
section
/- The law RankNumbers: its three rows, boxes that hold a line. No walk. Written by gen_rnum.py. -/
namespace Go.Proofs.YtepkmgmooadbjaaGreat
open Go.ChangeShapes Go.WideShapes Go.ChangeAt Go.RowKit Go.Maps
set_option linter.unusedVariables false

def intsC : Array Value := #[.int .i64 (-9223372036854775808), .int .i64 (-2), .int .i64 (-1), .int .i64 0, .int .i64 1, .int .i64 2, .int .i64 98, .int .i64 99, .int .i64 100, .int .i64 3999, .int .i64 4000, .int .i64 4001, .int .i64 9223372036854775807]
def qtysC : Array Value := #[.int .i64 (-1), .int .i64 0, .int .i64 1, .int .i64 1073741824, .int .i64 1073741825]
def codesC : Array Value := #[.string ⟨#[]⟩, .string ⟨#[65]⟩, .string ⟨#[97]⟩, .string ⟨#[65, 66, 67, 68, 69, 70, 71, 72, 73, 74, 75, 76, 77]⟩]
abbrev numW (w : World) : World := ((w.alloc (.cells intsC 3)).alloc (.cells qtysC 2)).alloc (.cells codesC 9)
/-- What the three rows hold. -/
structure Rws (n : Nat) (W : World) : Prop where
  int : ∀ j, j < 13 → ∃ x : Int, W.cell? ⟨n, j, none⟩ = some (.int .i64 x) ∧ -9223372036854775808 ≤ x ∧ x ≤ 9223372036854775807
  qty : ∀ j, j < 5 → ∃ x : Int, W.cell? ⟨n + 1, j, none⟩ = some (.int .i64 x) ∧ -9223372036854775808 ≤ x ∧ x ≤ 9223372036854775807
  txt : ∀ j, j < 4 → ∃ s : List UInt8, W.cell? ⟨n + 2, j, none⟩ = some (.string ⟨s.toArray⟩) ∧ s.length ≤ 13
theorem Rws.below {n : Nat} {W W' : World} (h : Rws n W) (hb : Go.RowKit.Below (n + 3) W W') : Rws n W' := by
  have c : ∀ (g j : Nat), g < n + 3 → W'.cell? ⟨g, j, none⟩ = W.cell? ⟨g, j, none⟩ := fun g j hg => hb.cell (p := ⟨g, j, none⟩) hg
  exact ⟨fun j hj => by rw [c n j (by omega)]; exact h.int j hj, fun j hj => by rw [c (n + 1) j (by omega)]; exact h.qty j hj, fun j hj => by rw [c (n + 2) j (by omega)]; exact h.txt j hj⟩
theorem rows_start (w : World) : Rws w.heap.size (numW w) ∧ Go.RowKit.Below w.heap.size w (numW w) ∧ (numW w).heap.size = w.heap.size + 3 := by
  have h1 : (numW w).heap[w.heap.size]? = some (.cells intsC 3) := by
    simp only [numW]
    rw [Below.heap_alloc _ _ _ (by simp only [World.size_alloc]; omega), Below.heap_alloc _ _ _ (by simp only [World.size_alloc]; omega)]
    exact heap_alloc_new w _
  have h2 : (numW w).heap[w.heap.size + 1]? = some (.cells qtysC 2) := by
    simp only [numW]
    rw [Below.heap_alloc _ _ _ (by simp only [World.size_alloc]; omega)]
    have := heap_alloc_new (w.alloc (.cells intsC 3)) (.cells qtysC 2)
    simpa only [World.size_alloc] using this
  have h3 : (numW w).heap[w.heap.size + 2]? = some (.cells codesC 9) := by
    have := heap_alloc_new ((w.alloc (.cells intsC 3)).alloc (.cells qtysC 2)) (.cells codesC 9)
    simpa only [World.size_alloc] using this
  refine ⟨⟨fun j hj => ?_, fun j hj => ?_, fun j hj => ?_⟩, ?_, by simp only [numW, World.size_alloc]⟩
  · rw [cell_of_row _ _ _ _ _ _ h1]
    match j, hj with
    | 0, _ => exact ⟨_, rfl, by omega, by omega⟩
    | 1, _ => exact ⟨_, rfl, by omega, by omega⟩
    | 2, _ => exact ⟨_, rfl, by omega, by omega⟩
    | 3, _ => exact ⟨_, rfl, by omega, by omega⟩
    | 4, _ => exact ⟨_, rfl, by omega, by omega⟩
    | 5, _ => exact ⟨_, rfl, by omega, by omega⟩
    | 6, _ => exact ⟨_, rfl, by omega, by omega⟩
    | 7, _ => exact ⟨_, rfl, by omega, by omega⟩
    | 8, _ => exact ⟨_, rfl, by omega, by omega⟩
    | 9, _ => exact ⟨_, rfl, by omega, by omega⟩
    | 10, _ => exact ⟨_, rfl, by omega, by omega⟩
    | 11, _ => exact ⟨_, rfl, by omega, by omega⟩
    | 12, _ => exact ⟨_, rfl, by omega, by omega⟩
  · rw [cell_of_row _ _ _ _ _ _ h2]
    match j, hj with
    | 0, _ => exact ⟨_, rfl, by omega, by omega⟩
    | 1, _ => exact ⟨_, rfl, by omega, by omega⟩
    | 2, _ => exact ⟨_, rfl, by omega, by omega⟩
    | 3, _ => exact ⟨_, rfl, by omega, by omega⟩
    | 4, _ => exact ⟨_, rfl, by omega, by omega⟩
  · rw [cell_of_row _ _ _ _ _ _ h3]
    match j, hj with
    | 0, _ => exact ⟨[], rfl, by simp⟩
    | 1, _ => exact ⟨[65], rfl, by simp⟩
    | 2, _ => exact ⟨[97], rfl, by simp⟩
    | 3, _ => exact ⟨[65, 66, 67, 68, 69, 70, 71, 72, 73, 74, 75, 76, 77], rfl, by simp⟩
  · exact (((Below.refl _ w).alloc (Nat.le_refl _) _).alloc (by simp only [World.size_alloc]; omega) _).alloc (by simp only [World.size_alloc]; omega) _
theorem tmod_nat (a b : Nat) : Int.tmod (a : Int) (b : Int) = ((a % b : Nat) : Int) := (Int.ofNat_tmod a b).symm
/-- A block whose first cells hold a line. -/
def Bx (W : World) (g : Nat) (x : Lt) : Prop := g < W.heap.size ∧ W.rangeAt g 0 (encL x)
theorem Bx.below {W W' : World} {g B : Nat} {x : Lt} (h : Bx W g x) (hg : g < B) (hb : Go.RowKit.Below B W W') : Bx W' g x :=
  ⟨Nat.lt_of_lt_of_le h.1 hb.size, fun j v hv => (hb.cell (p := ⟨g, 0 + j, none⟩) hg).trans (h.2 j v hv)⟩
theorem Bx.next {W W' : World} {g : Nat} {x : Lt} (h : Bx W g x) (hb : Go.RowKit.Below W.heap.size W W') : Bx W' g x := h.below h.1 hb
theorem Bx.cells {W : World} {g : Nat} {x : Lt} (h : Bx W g x) : W.cell? ⟨g, 0, none⟩ = some (.int .i64 x.id) ∧ W.cell? ⟨g, 1, none⟩ = some (.string ⟨x.item.toArray⟩) ∧ W.cell? ⟨g, 2, none⟩ = some (.int .i64 x.qty) ∧
    W.cell? ⟨g, 3, none⟩ = some (.int .i64 x.asked) ∧ W.cell? ⟨g, 4, none⟩ = some (.int .i64 x.rank) ∧ W.cell? ⟨g, 5, none⟩ = some (.int .u8 x.state) ∧ W.cell? ⟨g, 6, none⟩ = some (.int .i64 x.day) ∧ W.cell? ⟨g, 7, none⟩ = some (.string ⟨x.code.toArray⟩) :=
  ⟨h.2 0 _ rfl, h.2 1 _ rfl, h.2 2 _ rfl, h.2 3 _ rfl, h.2 4 _ rfl, h.2 5 _ rfl, h.2 6 _ rfl, h.2 7 _ rfl⟩
theorem Bx.grown {W W' : World} {g : Nat} {x : Lt} {row : Option Nat} (h : Bx W g x) (hg : W.grownBy W' row) (hne : row ≠ some g) : Bx W' g x := by
  have hb := hg.block g h.1 (fun e => hne e.symm)
  refine ⟨Nat.lt_of_lt_of_le h.1 hg.size, fun j v hv => ?_⟩
  have := h.2 j v hv
  simp only [World.cell?] at this ⊢
  rw [hb]
  exact this
theorem Below.setN {B : Nat} {a : World} {g : Nat} (hB : B ≤ g) : ∀ (vs : List Value) {w : World} (h : Go.RowKit.Below B a w) (o : Nat), Go.RowKit.Below B a (w.setCells g o vs)
  | [], w, h, o => h
  | v :: r, w, h, o => by rw [World.setCells]; exact Below.setN hB r (h.setCell (p := ⟨g, o, none⟩) hB v) (o + 1)
theorem size_setN {g : Nat} : ∀ (vs : List Value) (w : World) (o : Nat), (w.setCells g o vs).heap.size = w.heap.size
  | [], w, o => rfl
  | v :: r, w, o => by rw [World.setCells, size_setN r]; simp [World.setCell]
abbrev zeroO : Obj := .cells #[.int .i64 0, .string ⟨#[]⟩, .int .i64 0, .int .i64 0, .int .i64 0, .int .u8 0, .int .i64 0, .string ⟨#[]⟩] 37
theorem there_new (w : World) : (w.alloc zeroO).there w.heap.size 0 8 := fun j hj => by
  have h := heap_alloc_new w zeroO
  refine ⟨?_, frozen_of_row _ _ _ _ _ h⟩
  rw [Nat.zero_add, cell_of_row _ _ _ _ _ _ h]
  match j, hj with
  | 0, _ => rfl
  | 1, _ => rfl
  | 2, _ => rfl
  | 3, _ => rfl
  | 4, _ => rfl
  | 5, _ => rfl
  | 6, _ => rfl
  | 7, _ => rfl
theorem Bx.stored {w : World} {g : Nat} (x : Lt) (hg : g < w.heap.size) (ht : w.there g 0 8) : Bx (w.setCells g 0 (encL x)) g x :=
  ⟨by rw [size_setN]; exact hg, World.rangeAt_setCells_same w g 0 (encL x) ht⟩
theorem enc_all (x : Lt) : (encL x).toArray.all (·.oneCell') = true := all_oneCell_toArray (encL_one x)
theorem lsl_lies {w : World} {B : Nat} {A : Option Addr} {c : Nat} {l : List Lt} (h : LSl w B (.slice A l.length c) l) : Lies w B A (lcells l) := by
  obtain ⟨A', c', he, _, _, _, hl⟩ := h
  cases he
  exact hl
theorem there_below {W W' : World} {g : Nat} (h : W.there g 0 8) (hg : g < W.heap.size) (hb : Go.RowKit.Below W.heap.size W W') : W'.there g 0 8 := fun j hj =>
  ⟨by rw [hb.cell (p := ⟨g, 0 + j, none⟩) hg]; exact (h j hj).1, by rw [hb.frozen (p := ⟨g, 0 + j, none⟩) hg]; exact (h j hj).2⟩
theorem there_newD (w : World) : (w.alloc zeroO).drew.there w.heap.size 0 8 := (World.there_drew _ _ _ _).2 (there_new w)
/-- What four tells, as a row of its own. -/
def FourOwn (w : World) (e : Ending) (w' : World) : Prop := ∃ g, e = .returned (.slice (some ⟨g, 0, none⟩) 4 4) ∧ w'.ownsRow w.heap.size 37 8 (.slice (some ⟨g, 0, none⟩) 4 4) 4 (lcells exL) ∧ Go.RowKit.Below w.heap.size w w'
set_option maxHeartbeats 1000000 in
theorem four_own (w : World) : Calls Tryz.prog 18 #[] w (FourOwn w) := by
  go_enter Tryz.func18, Tryz.ntmps18
  go_wp2_with (go_at_call 16; (first
    | ((with_reducible refine (line_any 1 5 1 _).mono ?_); rintro e w1 ⟨rfl, hb1⟩; have HB1 := Lib.hid hb1; clear hb1)
    | ((with_reducible refine (line_any 2 3 3 _).mono ?_); rintro e w2 ⟨rfl, hb2⟩; have HB2 := Lib.hid (below_two HB1.out hb2); clear hb2)
    | ((with_reducible refine (line_any 3 3 1 _).mono ?_); rintro e w3 ⟨rfl, hb3⟩; have HB3 := Lib.hid (below_two HB2.out hb3); clear hb3)
    | ((with_reducible refine (line_any 4 5 1 _).mono ?_); rintro e w4 ⟨rfl, hb4⟩; have HB4 := Lib.hid (below_two HB3.out hb4); clear hb4)))
  go_ret
  exact ⟨_, rfl, ⟨rfl, .inr ⟨w4.heap.size, 4, _, rfl, HB4.out.size, heap_alloc_new w4 exObj, Nat.le_refl _, by decide, rfl, rfl⟩⟩, below_two HB4.out (below_alloc1 _ _)⟩
theorem ex_sized : Sized (exL ++ exL) := by
  intro x hx
  have h : x ∈ exL := by simpa using hx
  simp only [exL, List.mem_cons, List.not_mem_nil, or_false] at h
  rcases h with rfl | rfl | rfl | rfl <;> (refine ⟨?_, ?_, ?_, ?_, ?_, ?_, ?_, ?_, ?_, ?_, ?_, ?_, ?_, ?_⟩ <;> decide)
theorem line_q (i r st : Int) (w : World) : Calls Tryz.prog 16 #[.int .i64 i, .int .i64 r, .int .u8 st] w fun e w' => e = .returned (aggL ⟨i, [65], 1, 0, r, st, -1, []⟩) ∧ Go.RowKit.Below w.heap.size w w' := line_any i r st w
end Go.Proofs.YtepkmgmooadbjaaGreat
end
