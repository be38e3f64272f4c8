/- What Join answers where it can and where it can't, of lists that were just put side by side. -/
import Derived.Test.YtfppiigmibjbnaaGreatGreat
namespace Go.Proofs.YtfppiigmibjbnaaGreat
open Go.ChangeShapes Go.WideShapes Go.ChangeAt Go.RowKit Go.Maps
set_option linter.unusedVariables false

/-! ### what is joined of any parts is there -/
def insKey (x : List UInt8) : List (List UInt8) → List (List UInt8)
  | [] => [x]
  | y :: l => if x < y then x :: y :: l else if x = y then y :: l else y :: insKey x l
theorem mem_insKey (x : List UInt8) : ∀ (l : List (List UInt8)) (z : List UInt8), z ∈ insKey x l ↔ z = x ∨ z ∈ l
  | [], z => by simp [insKey]
  | y :: l, z => by
    unfold insKey
    split
    · simp
    · split
      · rename_i h; subst h; simp
      · simp only [List.mem_cons, mem_insKey x l z]
        constructor
        · rintro (h | h | h) <;> simp [h]
        · rintro (h | h | h) <;> simp [h]
theorem pw_insKey (x : List UInt8) : ∀ (l : List (List UInt8)), l.Pairwise (· < ·) → (insKey x l).Pairwise (· < ·)
  | [], _ => by simp [insKey]
  | y :: l, h => by
    have h' := List.pairwise_cons.1 h
    unfold insKey
    split
    · rename_i hxy
      refine List.pairwise_cons.2 ⟨fun z hz => ?_, h⟩
      rcases List.mem_cons.1 hz with rfl | hz
      · exact hxy
      · exact lt_trans_ hxy (h'.1 z hz)
    · split
      · exact h
      · rename_i h1 h2
        refine List.pairwise_cons.2 ⟨fun z hz => ?_, pw_insKey x l h'.2⟩
        rcases (mem_insKey x l z).1 hz with rfl | hz
        · by_cases h3 : y < z
          · exact h3
          · exact absurd (List.le_antisymm (List.not_lt.1 h3) (List.not_lt.1 h1)) h2
        · exact h'.1 z hz
def keysOf : List Pt → List (List UInt8)
  | [] => []
  | p :: l => insKey p.1 (keysOf l)
theorem mem_keysOf (z : List UInt8) : ∀ l : List Pt, z ∈ keysOf l ↔ z ∈ l.map (·.1)
  | [] => by simp [keysOf]
  | p :: l => by simp only [keysOf, mem_insKey, mem_keysOf z l, List.map_cons, List.mem_cons]
theorem pw_keysOf : ∀ l : List Pt, (keysOf l).Pairwise (· < ·)
  | [] => by simp [keysOf]
  | p :: l => pw_insKey _ _ (pw_keysOf l)
def joined (l : List Pt) : List Pt := (keysOf l).map fun it => (it, tot it l)
theorem isJoin_joined (l : List Pt) : IsJoin l (joined l) := by
  refine ⟨List.pairwise_map.2 (pw_keysOf l), fun it q => ?_⟩
  simp only [joined, List.mem_map, Prod.mk.injEq]
  constructor
  · rintro ⟨x, hx, rfl, rfl⟩
    exact ⟨by simpa using (mem_keysOf _ l).1 hx, rfl⟩
  · rintro ⟨hx, rfl⟩
    exact ⟨it, (mem_keysOf it l).2 (by simpa using hx), rfl, rfl⟩

/-! ### lists side by side -/
theorem rows_of (w : World) (vs : List Value) (ls : List (List Pt)) (t : TypeId) (hl : vs.length = ls.length) (h : ∀ (i : Nat) (v : Value) (l : List Pt), vs[i]? = some v → ls[i]? = some l → PSl w w.heap.size v l) :
    PRows (w.alloc (.cells vs.toArray t)) (w.alloc (.cells vs.toArray t)).heap.size (some ⟨w.heap.size, 0, none⟩) ls :=
  ⟨vs, hl, (Lies.fresh w vs.toArray t vs (by simp)).mono (by simp), fun i v l hv hll => ((h i v l hv hll).alloc_ (Nat.le_refl _) _).mono (by simp)⟩
theorem rows1 (w : World) (v : Value) (l : List Pt) (t : TypeId) (h : PSl w w.heap.size v l) : PRows (w.alloc (.cells #[v] t)) (w.alloc (.cells #[v] t)).heap.size (some ⟨w.heap.size, 0, none⟩) [l] :=
  rows_of w [v] [l] t rfl fun i v' l' hv hl => by
    match i, hv, hl with
    | 0, hv, hl => cases hv; cases hl; exact h
    | i + 1, hv, hl => simp at hl
theorem rows3 (w : World) (v1 v2 v3 : Value) (l1 l2 l3 : List Pt) (t : TypeId) (h1 : PSl w w.heap.size v1 l1) (h2 : PSl w w.heap.size v2 l2) (h3 : PSl w w.heap.size v3 l3) :
    PRows (w.alloc (.cells #[v1, v2, v3] t)) (w.alloc (.cells #[v1, v2, v3] t)).heap.size (some ⟨w.heap.size, 0, none⟩) [l1, l2, l3] :=
  rows_of w [v1, v2, v3] [l1, l2, l3] t rfl fun i v' l' hv hl => by
    match i, hv, hl with
    | 0, hv, hl => cases hv; cases hl; exact h1
    | 1, hv, hl => cases hv; cases hl; exact h2
    | 2, hv, hl => cases hv; cases hl; exact h3
    | i + 3, hv, hl => simp at hl

def JoinYes (out : List Pt) (w : World) (e : Ending) (w' : World) : Prop := ∃ v, e = .returned (.tuple #[v, .bool true]) ∧ PSl w' w'.heap.size v out ∧ Below w.heap.size w w'
theorem join_yes {A : Option Addr} {c n : Nat} {ls : List (List Pt)} {w : World} (out : List Pt) (hn : ls.length = n) (hr : PRows w w.heap.size A ls) (hs : Sized ls.flatten) (hl : ls.flatten.length ≤ 1099511627776) (hls : ls.length ≤ 1099511627776)
    (hok : JoinOk ls.flatten) (hj : IsJoin ls.flatten out) : Calls Tryz.prog 8 #[.slice A n c] w (JoinYes out w) := by
  subst hn
  refine (join_any (H := Unit) A c ls w hr hs hl hls).mono ?_
  rintro e w' ⟨hb, ⟨_, v, out', rfl, hj', _, ho⟩ | ⟨hno, _⟩⟩
  · obtain rfl := hj.unique hj'
    exact ⟨v, rfl, PSl.own ho, hb⟩
  · exact absurd hok hno
theorem join_no {A : Option Addr} {c n : Nat} {ls : List (List Pt)} {w : World} (hn : ls.length = n) (hr : PRows w w.heap.size A ls) (hs : Sized ls.flatten) (hl : ls.flatten.length ≤ 1099511627776) (hls : ls.length ≤ 1099511627776)
    (hok : ¬ JoinOk ls.flatten) : Calls Tryz.prog 8 #[.slice A n c] w fun e w' => e = .returned (.tuple #[.slice none 0 0, .bool false]) ∧ Below w.heap.size w w' := by
  subst hn
  refine (join_any (H := Unit) A c ls w hr hs hl hls).mono ?_
  rintro e w' ⟨hb, ⟨h, _⟩ | ⟨_, rfl⟩⟩
  · exact absurd h hok
  · exact ⟨rfl, hb⟩
/-- Whether the parts can be joined at all. -/
def JoinBool (l : List Pt) (w : World) (e : Ending) (w' : World) : Prop := ∃ (v : Value) (b : Bool), e = .returned (.tuple #[v, .bool b]) ∧ (JoinOk l → b = true) ∧ Below w.heap.size w w'
theorem join_bool {A : Option Addr} {c n : Nat} {ls : List (List Pt)} {w : World} (hn : ls.length = n) (hr : PRows w w.heap.size A ls) (hs : Sized ls.flatten) (hl : ls.flatten.length ≤ 1099511627776) (hls : ls.length ≤ 1099511627776) :
    Calls Tryz.prog 8 #[.slice A n c] w (JoinBool ls.flatten w) := by
  subst hn
  refine (join_any (H := Unit) A c ls w hr hs hl hls).mono ?_
  rintro e w' ⟨hb, ⟨h, v, out', rfl, _⟩ | ⟨h, rfl⟩⟩
  · exact ⟨_, _, rfl, fun _ => rfl, hb⟩
  · exact ⟨_, _, rfl, fun h' => absurd h' h, hb⟩

theorem flat1 (l : List Pt) : [l].flatten = l := by simp
theorem join1_no {W : World} {v : Value} {l : List Pt} (g : Nat) (hg : W.heap.size = g) (hv : PSl W W.heap.size v l) (hs : Sized l) (hl : l.length ≤ 1099511627776) (hno : ¬ JoinOk l) :
    Calls Tryz.prog 8 #[.slice (some ⟨g, 0, none⟩) 1 1] (W.alloc (.cells #[v] 22)) fun e w' => e = .returned (.tuple #[.slice none 0 0, .bool false]) ∧ Below W.heap.size W w' := by
  subst hg
  refine (join_no (n := 1) (c := 1) (ls := [l]) rfl (rows1 W v l 22 hv) (by rw [flat1]; exact hs) (by rw [flat1]; exact hl) (by simp) (by rw [flat1]; exact hno)).mono ?_
  rintro e w' ⟨he, hb⟩
  exact ⟨he, ((Below.refl _ W).alloc (Nat.le_refl _) _).trans (hb.mono (by simp))⟩
theorem join1_yes {W : World} {v : Value} {l : List Pt} (out : List Pt) (g : Nat) (hg : W.heap.size = g) (hv : PSl W W.heap.size v l) (hs : Sized l) (hl : l.length ≤ 1099511627776) (hok : JoinOk l) (hj : IsJoin l out) :
    Calls Tryz.prog 8 #[.slice (some ⟨g, 0, none⟩) 1 1] (W.alloc (.cells #[v] 22)) (JoinYes out W) := by
  subst hg
  refine (join_yes (n := 1) (c := 1) (ls := [l]) out rfl (rows1 W v l 22 hv) (by rw [flat1]; exact hs) (by rw [flat1]; exact hl) (by simp) (by rw [flat1]; exact hok) (by rw [flat1]; exact hj)).mono ?_
  rintro e w' ⟨v', he, hp, hb⟩
  exact ⟨v', he, hp, ((Below.refl _ W).alloc (Nat.le_refl _) _).trans (hb.mono (by simp))⟩
theorem join1_bool {W : World} {v : Value} {l : List Pt} (g : Nat) (hg : W.heap.size = g) (hv : PSl W W.heap.size v l) (hs : Sized l) (hl : l.length ≤ 1099511627776) :
    Calls Tryz.prog 8 #[.slice (some ⟨g, 0, none⟩) 1 1] (W.alloc (.cells #[v] 22)) (JoinBool l W) := by
  subst hg
  refine (join_bool (n := 1) (c := 1) (ls := [l]) rfl (rows1 W v l 22 hv) (by rw [flat1]; exact hs) (by rw [flat1]; exact hl) (by simp)).mono ?_
  rintro e w' ⟨v', b, he, hp, hb⟩
  rw [flat1] at hp
  exact ⟨v', b, he, hp, ((Below.refl _ W).alloc (Nat.le_refl _) _).trans (hb.mono (by simp))⟩
theorem join3_no {W : World} {v1 v2 v3 : Value} (l1 l2 l3 : List Pt) (g : Nat) (hg : W.heap.size = g) (h1 : PSl W W.heap.size v1 l1) (h2 : PSl W W.heap.size v2 l2) (h3 : PSl W W.heap.size v3 l3) (hs : Sized (l1 ++ (l2 ++ l3))) (hl : (l1 ++ (l2 ++ l3)).length ≤ 1099511627776) (hno : ¬ JoinOk (l1 ++ (l2 ++ l3))) :
    Calls Tryz.prog 8 #[.slice (some ⟨g, 0, none⟩) 3 3] (W.alloc (.cells #[v1, v2, v3] 22)) fun e w' => e = .returned (.tuple #[.slice none 0 0, .bool false]) ∧ Below W.heap.size W w' := by
  subst hg
  have e : [l1, l2, l3].flatten = l1 ++ (l2 ++ l3) := by simp
  refine (join_no (n := 3) (c := 3) (ls := [l1, l2, l3]) rfl (rows3 W v1 v2 v3 l1 l2 l3 22 h1 h2 h3) (by rw [e]; exact hs) (by rw [e]; exact hl) (by simp) (by rw [e]; exact hno)).mono ?_
  rintro e w' ⟨he, hb⟩
  exact ⟨he, ((Below.refl _ W).alloc (Nat.le_refl _) _).trans (hb.mono (by simp))⟩
theorem join3_yes {W : World} {v1 v2 v3 : Value} (l1 l2 l3 out : List Pt) (g : Nat) (hg : W.heap.size = g) (h1 : PSl W W.heap.size v1 l1) (h2 : PSl W W.heap.size v2 l2) (h3 : PSl W W.heap.size v3 l3) (hs : Sized (l1 ++ (l2 ++ l3))) (hl : (l1 ++ (l2 ++ l3)).length ≤ 1099511627776) (hok : JoinOk (l1 ++ (l2 ++ l3))) (hj : IsJoin (l1 ++ (l2 ++ l3)) out) :
    Calls Tryz.prog 8 #[.slice (some ⟨g, 0, none⟩) 3 3] (W.alloc (.cells #[v1, v2, v3] 22)) (JoinYes out W) := by
  subst hg
  have e : [l1, l2, l3].flatten = l1 ++ (l2 ++ l3) := by simp
  refine (join_yes (n := 3) (c := 3) (ls := [l1, l2, l3]) out rfl (rows3 W v1 v2 v3 l1 l2 l3 22 h1 h2 h3) (by rw [e]; exact hs) (by rw [e]; exact hl) (by simp) (by rw [e]; exact hok) (by rw [e]; exact hj)).mono ?_
  rintro e w' ⟨v', he, hp, hb⟩
  exact ⟨v', he, hp, ((Below.refl _ W).alloc (Nat.le_refl _) _).trans (hb.mono (by simp))⟩

theorem drew_alloc (W : World) (o : Obj) : (W.alloc o).drew = W.drew.alloc o := rfl
theorem join3_no_d {W : World} {v1 v2 v3 : Value} (l1 l2 l3 : List Pt) (g : Nat) (hg : W.heap.size = g) (h1 : PSl W W.heap.size v1 l1) (h2 : PSl W W.heap.size v2 l2) (h3 : PSl W W.heap.size v3 l3) (hs : Sized (l1 ++ (l2 ++ l3))) (hl : (l1 ++ (l2 ++ l3)).length ≤ 1099511627776) (hno : ¬ JoinOk (l1 ++ (l2 ++ l3))) :
    Calls Tryz.prog 8 #[.slice (some ⟨g, 0, none⟩) 3 3] (W.alloc (.cells #[v1, v2, v3] 22)).drew fun e w' => e = .returned (.tuple #[.slice none 0 0, .bool false]) ∧ Below W.heap.size W w' := by
  rw [drew_alloc]
  exact (join3_no (W := W.drew) l1 l2 l3 g hg h1 h2 h3 hs hl hno).mono fun e w' ⟨he, hb⟩ => ⟨he, (Below.refl _ W).drew.trans hb⟩
theorem join3_yes_d {W : World} {v1 v2 v3 : Value} (l1 l2 l3 out : List Pt) (g : Nat) (hg : W.heap.size = g) (h1 : PSl W W.heap.size v1 l1) (h2 : PSl W W.heap.size v2 l2) (h3 : PSl W W.heap.size v3 l3) (hs : Sized (l1 ++ (l2 ++ l3))) (hl : (l1 ++ (l2 ++ l3)).length ≤ 1099511627776) (hok : JoinOk (l1 ++ (l2 ++ l3))) (hj : IsJoin (l1 ++ (l2 ++ l3)) out) :
    Calls Tryz.prog 8 #[.slice (some ⟨g, 0, none⟩) 3 3] (W.alloc (.cells #[v1, v2, v3] 22)).drew (JoinYes out W) := by
  rw [drew_alloc]
  exact (join3_yes (W := W.drew) l1 l2 l3 out g hg h1 h2 h3 hs hl hok hj).mono fun e w' ⟨v', he, hp, hb⟩ => ⟨v', he, hp, (Below.refl _ W).drew.trans hb⟩

/-- A cut at its end, and at its beginning. -/
theorem PSl.from_ {w : World} {B : Nat} {A : Option Addr} {n c k : Nat} {l : List Pt} (h : PSl w B (.slice A n c) l) (hk : k ≤ l.length) : PSl w B (.slice (if c = k then A else A.map (·.add (k * 2))) (n - k) (c - k)) (l.drop k) := by
  obtain ⟨A', c', hv, h1, h2, h3, h4⟩ := h
  injection hv with e1 e2 e3
  subst e1 e2 e3
  refine ⟨_, c - k, by rw [List.length_drop], by rw [List.length_drop]; omega, by omega, fun hA => ?_, ?_⟩
  · split at hA
    · rename_i hck; omega
    · cases A with
      | none => have := h3 rfl; omega
      | some ad => cases hA
  · split
    · rename_i hck
      have : l.drop k = [] := List.drop_eq_nil_of_le (by omega)
      rw [this]
      exact Lies.none
    · rw [← pcells_drop l k hk]
      exact h4.drop_ (k * 2)
theorem PSl.to_ {w : World} {B : Nat} {A : Option Addr} {n c k : Nat} {l : List Pt} (h : PSl w B (.slice A n c) l) (hk : k ≤ l.length) : PSl w B (.slice A k c) (l.take k) := by
  obtain ⟨A', c', hv, h1, h2, h3, h4⟩ := h
  injection hv with e1 e2 e3
  subst e1 e2 e3
  refine ⟨A, c, by rw [List.length_take]; congr 1; omega, by rw [List.length_take]; omega, h2, h3, ?_⟩
  rw [← pcells_take l k hk]
  exact h4.take_ (k * 2)

theorem elemParts : Tryz.prog.elem 22 = 38 := by kernel_rfl
theorem underParts : Tryz.prog.underlying 22 = some (.slice (Tryz.prog.elem 22)) := by kernel_rfl
/-- 'l[k:]' and 'l[:k]', as equations for the walk. -/
theorem cut_from (A : Option Addr) (c : Nat) (l : List Pt) (k : Nat) (hk : k ≤ l.length) : ∃ (A1 : Option Addr) (c1 : Nat),
    (∀ w, (Instr.slice 22 (.slice A l.length c) (some (.int .i64 (k : Int))) none none).run Tryz.prog w = .ok (.slice A1 (l.length - k) c1) w) ∧
    ∀ (W : World) (B : Nat), PSl W B (.slice A l.length c) l → PSl W B (.slice A1 (l.length - k) c1) (l.drop k) := by
  refine ⟨_, _, fun w => ?_, fun W B h => h.from_ hk⟩
  rw [run_slice_l w 22 A l.length c underParts .i64 (k : Int) (by omega) (by omega), elemParts, Tryz.sizeOf38]
  rfl
theorem cut_to (A : Option Addr) (c : Nat) (l : List Pt) (k : Nat) (hk : k ≤ c) (hkl : k ≤ l.length) : ∃ (A1 : Option Addr) (c1 : Nat),
    (∀ w, (Instr.slice 22 (.slice A l.length c) none (some (.int .i64 (k : Int))) none).run Tryz.prog w = .ok (.slice A1 k c1) w) ∧
    ∀ (W : World) (B : Nat), PSl W B (.slice A l.length c) l → PSl W B (.slice A1 k c1) (l.take k) := by
  refine ⟨A, c, fun w => ?_, fun W B h => h.to_ hkl⟩
  rw [run_slice_h w 22 A l.length c underParts .i64 (k : Int) (by omega) (by omega), elemParts, Tryz.sizeOf38]
  have e : (if c = 0 then A else A.map (·.add (0 * 2))) = A := by
    split
    · rfl
    · cases A <;> simp [Addr.add]
  show Result.ok (Value.slice (if c = 0 then A else A.map (·.add (0 * 2))) (k - 0) (c - 0)) w = _
  rw [e]
  rfl
end Go.Proofs.YtfppiigmibjbnaaGreat
