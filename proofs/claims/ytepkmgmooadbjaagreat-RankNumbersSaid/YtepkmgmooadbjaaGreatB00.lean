/- Texts of this proof, one behind the other. -/
import Derived.Test.YtepkmgmooadbjaaGreatProg
import Derived.WalkKit
import Derived.ProofKit
import Derived.Lib.Hide
import Derived.Lib.OthersKept
import Derived.Below
import Derived.Laws.OwnMore
import Derived.Deep.Draws
section
/- Codes, in plain words. No walk. -/
namespace Go.Proofs.YtepkmgmooadbjaaGreat
set_option linter.unusedVariables false
set_option linter.unusedSimpArgs false

/-! ### codes -/
def upB (c : UInt8) : Bool := decide (65 ≤ c.toNat) && decide (c.toNat ≤ 90)
def inB (c : UInt8) : Bool := (decide (48 ≤ c.toNat) && decide (c.toNat ≤ 57)) || decide (c.toNat = 45)
def okAt (k : Nat) (c : UInt8) : Bool := upB c || (decide (k ≠ 0) && inB c)
/-- Each byte, from place k on, may stand there. -/
def allOk : Nat → List UInt8 → Bool
  | _, [] => true
  | k, c :: l => okAt k c && allOk (k + 1) l
def rightL (l : List UInt8) : Bool := decide (1 ≤ l.length) && decide (l.length ≤ 12) && allOk 0 l

theorem allOk_append : ∀ (l m : List UInt8) (k : Nat), allOk k (l ++ m) = (allOk k l && allOk (k + l.length) m)
  | [], m, k => by simp [allOk]
  | c :: l, m, k => by
    simp only [List.cons_append, allOk, allOk_append l m (k + 1), List.length_cons]
    rw [show k + 1 + l.length = k + (l.length + 1) by omega, Bool.and_assoc]
theorem allOk_take {l : List UInt8} {k : Nat} (n : Nat) (h : allOk k l = true) : allOk k (l.take n) = true := by
  have e := allOk_append (l.take n) (l.drop n) k
  rw [List.take_append_drop, h] at e
  have := e.symm
  rw [Bool.and_eq_true] at this
  exact this.1
theorem allOk_get : ∀ {l : List UInt8} {k : Nat}, allOk k l = true → ∀ {j : Nat} {c : UInt8}, l[j]? = some c → okAt (k + j) c = true
  | [], k, _, j, c, hc => by simp at hc
  | d :: l, k, h, 0, c, hc => by
    simp at hc; subst hc
    rw [allOk, Bool.and_eq_true] at h
    exact h.1
  | d :: l, k, h, j + 1, c, hc => by
    rw [allOk, Bool.and_eq_true] at h
    have := allOk_get h.2 (j := j) (c := c) (by simpa using hc)
    rwa [show k + 1 + j = k + (j + 1) by omega] at this
theorem allOk_no {l : List UInt8} {k j : Nat} {c : UInt8} (hc : l[j]? = some c) (h : okAt (k + j) c = false) : allOk k l = false := by
  cases e : allOk k l with
  | false => rfl
  | true => rw [allOk_get e hc] at h; cases h
theorem allOk_step {l : List UInt8} {j : Nat} {c : UInt8} (h : allOk 0 (l.take j) = true) (hc : l[j]? = some c) (ho : okAt j c = true) : allOk 0 (l.take (j + 1)) = true := by
  rw [List.take_add_one, hc]
  have hj : j < l.length := (List.getElem?_eq_some_iff.1 hc).1
  simp only [Option.toList]
  rw [allOk_append, h, List.length_take, Nat.min_eq_left (by omega)]
  simp [allOk, ho]
/-- The same from any place behind the first one. -/
theorem allOk_shift : ∀ (l : List UInt8) (k j : Nat), allOk (k + 1) l = true → allOk (j + 1) l = true
  | [], _, _, _ => rfl
  | c :: l, k, j, h => by
    rw [allOk, Bool.and_eq_true] at h ⊢
    refine ⟨?_, allOk_shift l (k + 1) (j + 1) h.2⟩
    have := h.1
    simpa [okAt] using this
theorem allOk_zero {l : List UInt8} {k : Nat} (h : allOk 0 l = true) : allOk (k + 1) l = true := by
  cases l with
  | nil => rfl
  | cons c l =>
    rw [allOk, Bool.and_eq_true] at h ⊢
    refine ⟨?_, allOk_shift l 0 (k + 1) h.2⟩
    have h1 := h.1
    simp [okAt] at h1 ⊢
    exact .inl h1
theorem rightL_parts {l : List UInt8} (h : rightL l = true) : 1 ≤ l.length ∧ l.length ≤ 12 ∧ allOk 0 l = true := by
  simp only [rightL, Bool.and_eq_true, decide_eq_true_eq] at h
  exact ⟨h.1.1, h.1.2, h.2⟩
theorem rightL_mk {l : List UInt8} (h1 : 1 ≤ l.length) (h2 : l.length ≤ 12) (h3 : allOk 0 l = true) : rightL l = true := by
  simp [rightL, h1, h2, h3]
theorem rightL_short {l : List UInt8} (h : l.length < 1) : rightL l = false := by
  have : decide (1 ≤ l.length) = false := by simpa using h
  simp [rightL, this]
theorem rightL_long {l : List UInt8} (h : 12 < l.length) : rightL l = false := by
  have : decide (l.length ≤ 12) = false := by simpa using h
  simp [rightL, this]
theorem rightL_no {l : List UInt8} {j : Nat} {c : UInt8} (hc : l[j]? = some c) (h : okAt j c = false) : rightL l = false := by
  rw [rightL, allOk_no (k := 0) hc (by rwa [Nat.zero_add]), Bool.and_false]
/-- What a code begins with is one. -/
theorem rightL_take {l : List UInt8} (h : rightL l = true) {k : Nat} (h1 : 1 ≤ k) : rightL (l.take k) = true := by
  obtain ⟨a, b, c⟩ := rightL_parts h
  exact rightL_mk (by rw [List.length_take]; omega) (by rw [List.length_take]; omega) (allOk_take k c)
/-- Two codes put together. -/
theorem rightL_app {a b : List UInt8} (ha : rightL a = true) (hb : rightL b = true) : rightL (a ++ b) = decide (a.length + b.length ≤ 12) := by
  obtain ⟨a1, a2, a3⟩ := rightL_parts ha
  obtain ⟨b1, b2, b3⟩ := rightL_parts hb
  have e : allOk 0 (a ++ b) = true := by
    rw [allOk_append, a3, Nat.zero_add, show a.length = (a.length - 1) + 1 by omega, allOk_zero b3]
    rfl
  simp only [rightL, e, List.length_append, Bool.and_true]
  rw [show decide (1 ≤ a.length + b.length) = true from decide_eq_true (by omega), Bool.true_and]

end Go.Proofs.YtepkmgmooadbjaaGreat
end
section
/- The contracts of code.Right, letter, inner and of the reference's Right. -/
namespace Go.Proofs.YtepkmgmooadbjaaGreat
open Go.ChangeShapes Go.WideShapes Go.ChangeAt Go.RowKit
set_option linter.unusedVariables false

theorem ret_bool {a b : Bool} (h : a = b) : Ending.returned (.bool a) = .returned (.bool b) := by rw [h]


theorem letter_yes (r : Int) (w : World) (h0 : 65 ≤ r) (h1 : r ≤ 90) : Calls Tryz.prog 63 #[.int .i32 r] w fun e w' => e = .returned (.bool true) ∧ w = w' := by
  go_enter Tryz.func63, Tryz.ntmps63
  go_wp2
  go_ret
  exact ⟨rfl, rfl⟩
theorem letter_no (r : Int) (w : World) (h : ¬ (65 ≤ r ∧ r ≤ 90)) : Calls Tryz.prog 63 #[.int .i32 r] w fun e w' => e = .returned (.bool false) ∧ w = w' := by
  by_cases h0 : 65 ≤ r
  · have h1 : decide (r ≤ 90) = false := by simp; omega
    clear h
    go_enter Tryz.func63, Tryz.ntmps63
    go_wp2
    go_ret
    exact ⟨rfl, rfl⟩
  · have h1 : decide (65 ≤ r) = false := by simpa using h0
    clear h
    go_enter Tryz.func63, Tryz.ntmps63
    go_wp2
    go_ret
    exact ⟨rfl, rfl⟩
theorem inner_yes (r : Int) (w : World) (h : (48 ≤ r ∧ r ≤ 57) ∨ r = 45) : Calls Tryz.prog 64 #[.int .i32 r] w fun e w' => e = .returned (.bool true) ∧ w = w' := by
  rcases h with ⟨h0, h1⟩ | rfl
  · go_enter Tryz.func64, Tryz.ntmps64
    go_wp2
    go_ret
    exact ⟨rfl, rfl⟩
  · go_enter Tryz.func64, Tryz.ntmps64
    go_wp2
    go_ret
    exact ⟨rfl, rfl⟩
theorem inner_no (r : Int) (w : World) (h : ¬ ((48 ≤ r ∧ r ≤ 57) ∨ r = 45)) : Calls Tryz.prog 64 #[.int .i32 r] w fun e w' => e = .returned (.bool false) ∧ w = w' := by
  have h45 : (r == 45) = false := by simp; omega
  by_cases h0 : 48 ≤ r
  · have h1 : decide (r ≤ 57) = false := by simp; omega
    clear h
    go_enter Tryz.func64, Tryz.ntmps64
    go_wp2
    go_ret
    exact ⟨rfl, rfl⟩
  · have h1 : decide (48 ≤ r) = false := by simpa using h0
    clear h
    go_enter Tryz.func64, Tryz.ntmps64
    go_wp2
    go_ret
    exact ⟨rfl, rfl⟩

theorem size_list (s : ByteArray) : s.data.toList.length = s.size := by rw [Array.length_toList]; rfl
theorem get_list (s : ByteArray) (k : Nat) (h : k < s.size) : s.data.toList[k]? = some s[k] := by
  rw [List.getElem?_eq_getElem (by rw [size_list]; exact h)]; rfl
theorem below_iter (w : World) (s : ByteArray) (pos : Nat) : Below w.heap.size w (w.iter s pos) := (Below.refl _ _).alloc (Nat.le_refl _) _

set_option maxHeartbeats 1000000 in
theorem right_any (s : ByteArray) (w : World) :
    Calls Tryz.prog 31 #[.string s] w fun e w' => e = .returned (.bool (rightL s.data.toList)) ∧ Below w.heap.size w w' := by
  by_cases hs1 : 1 ≤ s.size
  · by_cases hs2 : s.size ≤ 12
    · go_enter Tryz.func31, Tryz.ntmps31
      go_wp2_with fail
      go_loopw [] (fun wr => ∃ pos : Nat, pos ≤ s.size ∧ wr = w.iter s pos ∧ Hid (allOk 0 (s.data.toList.take pos) = true)) (fun wr => s.size - wr.iterPos w.heap.size)
      case atStart => exact ⟨0, Nat.zero_le _, rfl, Lib.hid rfl⟩
      case round =>
        obtain ⟨pos, hpos, rfl, HA⟩ := hrel
        by_cases hp : pos < s.size
        · by_cases ha : (s[pos]'hp).toNat < 128
          · have hnx := fun ty => run_next_ascii (P := Tryz.prog) w s pos ty hp ha
            have hc := get_list s pos hp
            by_cases hu : 65 ≤ (s[pos]'hp).toNat ∧ (s[pos]'hp).toNat ≤ 90
            · have hok : okAt pos s[pos] = true := by simp [okAt, upB, hu]
              have hst := allOk_step HA.out hc hok
              have HST := Lib.hid hst
              clear hst hok hc
              go_wp2_with (go_at_call 63; ((with_reducible refine (letter_yes _ _ (by omega) (by omega)).mono ?_); rintro e w' ⟨rfl, rfl⟩))
              go_roundw
              case rel => exact ⟨pos + 1, by omega, rfl, HST⟩
              case measure => simp only [World.iterPos_iter]; omega
            · by_cases hz : pos = 0
              · subst hz
                have hok : okAt 0 s[0] = false := by simp [okAt, upB]; omega
                have hno := rightL_no hc hok
                have HNO := Lib.hid hno
                clear hno hok hc
                go_wp2_with (go_at_call 63; ((with_reducible refine (letter_no _ _ (by omega)).mono ?_); rintro e w' ⟨rfl, rfl⟩))
                go_ret
                exact ⟨ret_bool HNO.out.symm, below_iter _ _ _⟩
              · have hz1 : ((pos : Int) == 0) = false := by simp; omega
                by_cases hi : (48 ≤ (s[pos]'hp).toNat ∧ (s[pos]'hp).toNat ≤ 57) ∨ (s[pos]'hp).toNat = 45
                · have hok : okAt pos s[pos] = true := by simp [okAt, inB, hz]; right; omega
                  have hst := allOk_step HA.out hc hok
                  have HST := Lib.hid hst
                  have HI := Lib.hid hi
                  have HZ := Lib.hid hz
                  clear hst hok hc hi hz
                  go_wp2_with (first
                    | (go_at_call 63; ((with_reducible refine (letter_no _ _ (by omega)).mono ?_); rintro e w' ⟨rfl, rfl⟩))
                    | (go_at_call 64; ((with_reducible refine (inner_yes _ _ (by have := HI.out; omega)).mono ?_); rintro e w' ⟨rfl, rfl⟩)))
                  go_roundw
                  case rel => exact ⟨pos + 1, by omega, rfl, HST⟩
                  case measure => simp only [World.iterPos_iter]; omega
                · have hok : okAt pos s[pos] = false := by simp [okAt, upB, inB]; omega
                  have hno := rightL_no hc hok
                  have HNO := Lib.hid hno
                  have HI := Lib.hid hi
                  have HZ := Lib.hid hz
                  clear hno hok hc hi hz
                  go_wp2_with (first
                    | (go_at_call 63; ((with_reducible refine (letter_no _ _ (by omega)).mono ?_); rintro e w' ⟨rfl, rfl⟩))
                    | (go_at_call 64; ((with_reducible refine (inner_no _ _ (by have := HI.out; omega)).mono ?_); rintro e w' ⟨rfl, rfl⟩)))
                  go_ret
                  exact ⟨ret_bool HNO.out.symm, below_iter _ _ _⟩
          · have hnx := fun ty => run_next_any (P := Tryz.prog) w s pos ty hp
            have hc := get_list s pos hp
            obtain ⟨hd1, hd2⟩ := decode_high s pos hp (by omega)
            have hd3 := decode_le s pos
            have hok : okAt pos s[pos] = false := by simp [okAt, upB, inB]; omega
            have hno := rightL_no hc hok
            have HNO := Lib.hid hno
            clear hno hok hc
            generalize (Utf8.decode s pos).1 = r at hnx hd1 hd3
            generalize (Utf8.decode s pos).2 = n at hnx hd2
            by_cases hz : pos = 0
            · subst hz
              go_wp2_with (go_at_call 63; ((with_reducible refine (letter_no _ _ (by omega)).mono ?_); rintro e w' ⟨rfl, rfl⟩))
              go_ret
              exact ⟨ret_bool HNO.out.symm, below_iter _ _ _⟩
            · have hz1 : ((pos : Int) == 0) = false := by simp; omega
              have HZ := Lib.hid hz
              clear hz
              go_wp2_with (first
                | (go_at_call 63; ((with_reducible refine (letter_no _ _ (by omega)).mono ?_); rintro e w' ⟨rfl, rfl⟩))
                | (go_at_call 64; ((with_reducible refine (inner_no _ _ (by omega)).mono ?_); rintro e w' ⟨rfl, rfl⟩)))
              go_ret
              exact ⟨ret_bool HNO.out.symm, below_iter _ _ _⟩
        · have hnx := fun ty => run_next_end (P := Tryz.prog) w s pos ty hp
          have hall : rightL s.data.toList = true := rightL_mk (by rw [size_list]; exact hs1) (by rw [size_list]; exact hs2) (by have := HA.out; rwa [List.take_of_length_le (by rw [size_list]; omega)] at this)
          have HALL := Lib.hid hall
          clear hall
          go_wp2
          go_ret
          exact ⟨ret_bool HALL.out.symm, below_iter _ _ _⟩
    · have hno : rightL s.data.toList = false := rightL_long (by rw [size_list]; omega)
      have HNO := Lib.hid hno
      have hd : decide (12 < s.size) = true := decide_eq_true (by omega)
      clear hno
      go_enter Tryz.func31, Tryz.ntmps31
      go_wp2_with fail
      go_ret
      exact ⟨ret_bool HNO.out.symm, Below.refl _ _⟩
  · have hno : rightL s.data.toList = false := rightL_short (by rw [size_list]; omega)
    have HNO := Lib.hid hno
    have hd : decide (s.size < 1) = true := decide_eq_true (by omega)
    clear hno
    go_enter Tryz.func31, Tryz.ntmps31
    go_wp2_with fail
    go_ret
    exact ⟨ret_bool HNO.out.symm, Below.refl _ _⟩
end Go.Proofs.YtepkmgmooadbjaaGreat
end
section
/- Words for memory: lines as cells, lists of lines that lie somewhere. No walk. -/
namespace Go.Proofs.YtepkmgmooadbjaaGreat
open Go.RowKit
set_option linter.unusedVariables false

theorem addr_block (a : Addr) (n : Nat) : (a.add n).block = a.block := by unfold Addr.add; split <;> rfl
theorem addr_add (a : Addr) (i j : Nat) : (a.add i).add j = a.add (i + j) := by
  by_cases hi : i = 0
  · subst hi; simp [Addr.add]
  · by_cases hj : j = 0
    · subst hj; simp [Addr.add]
    · unfold Addr.add; simp [hi, hj, Nat.add_assoc]
theorem addr0 (g k : Nat) : (⟨g, 0, none⟩ : Addr).add k = ⟨g, k, none⟩ := by unfold Addr.add; split <;> simp_all

/-- From A on lie the cells xs, below block B. (Of no cells nothing is asked.) -/
def Lies (w : World) (B : Nat) (A : Option Addr) (xs : List Value) : Prop :=
  xs ≠ [] → ∃ ad, A = some ad ∧ ad.block < B ∧ ∀ j u, xs[j]? = some u → w.cell? (ad.add j) = some u

section
variable {w w' : World} {B B' : Nat} {A : Option Addr} {xs : List Value}
theorem Lies.none : Lies w B A [] := fun h => absurd rfl h
theorem Lies.keep (h : Lies w B A xs) (hk : ∀ p : Addr, p.block < B → w'.cell? p = w.cell? p) : Lies w' B A xs := fun hne => by
  obtain ⟨ad, hA, hb, hc⟩ := h hne
  exact ⟨ad, hA, hb, fun j u hu => (hk _ (by rw [addr_block]; exact hb)).trans (hc j u hu)⟩
theorem Lies.mono (h : Lies w B A xs) (hB : B ≤ B') : Lies w B' A xs := fun hne => by
  obtain ⟨ad, hA, hb, hc⟩ := h hne
  exact ⟨ad, hA, Nat.lt_of_lt_of_le hb hB, hc⟩
theorem Lies.below (h : Lies w B A xs) (hb : Below B w w') : Lies w' B A xs := h.keep fun _ hp => hb.cell hp
theorem Lies.get (h : Lies w B A xs) {j : Nat} {u : Value} (hj : xs[j]? = some u) : ∃ ad, A = some ad ∧ ad.block < B ∧ w.cell? (ad.add j) = some u := by
  obtain ⟨ad, hA, hb, hc⟩ := h (by rintro rfl; simp at hj)
  exact ⟨ad, hA, hb, hc j u hj⟩
theorem Lies.take_ (h : Lies w B A xs) (k : Nat) : Lies w B A (xs.take k) := fun hne => by
  obtain ⟨ad, rfl, hb, hc⟩ := h (by rintro rfl; simp at hne)
  exact ⟨ad, rfl, hb, fun j u hu => hc j u (by
    rw [List.getElem?_take] at hu
    split at hu
    · exact hu
    · cases hu)⟩
/-- What the call owns lies. -/
theorem Lies.own {base e size n c : Nat} (h : w.ownsRow base e size (.slice A n c) n xs) : Lies w w.heap.size A xs := fun hne => by
  have hlt := h.lt
  have hcells := h.cells (g := (Value.slice A n c).ownBlock.getD 0)
  rcases h.2 with ⟨hv, rfl⟩ | ⟨g, cap, cur, hv, _, hh, _⟩
  · exact absurd (List.eq_nil_of_length_eq_zero (by simpa using h.1)) hne
  · injection hv with hA
    subst hA
    exact ⟨_, rfl, (hlt g rfl).2, h.cells (g := g) rfl⟩
end

theorem own_form {w : World} {base e size n : Nat} {v : Value} {xs : List Value} (h : w.ownsRow base e size v n xs) : ∃ A c, v = .slice A n c ∧ n ≤ c ∧ c ≤ maxLen ∧ (A = none → c = 0) := by
  rcases h.2 with ⟨hv, rfl⟩ | ⟨g, cap, cur, hv, _, _, h1, h2, _⟩
  · exact ⟨none, 0, hv, Nat.le_refl _, by simp [maxLen], fun _ => rfl⟩
  · exact ⟨_, _, hv, h1, h2, fun h => by cases h⟩

/-! ### lines -/
structure Lt where
  id : Int
  item : List UInt8
  qty : Int
  asked : Int
  rank : Int
  state : Int
  day : Int
  code : List UInt8
theorem Lt.ext_ {a b : Lt} (h1 : a.id = b.id) (h2 : a.item = b.item) (h3 : a.qty = b.qty) (h4 : a.asked = b.asked) (h5 : a.rank = b.rank) (h6 : a.state = b.state) (h7 : a.day = b.day) (h8 : a.code = b.code) : a = b := by
  cases a; cases b; simp_all
instance : DecidableEq Lt := fun a b =>
  if h : a.id = b.id ∧ a.item = b.item ∧ a.qty = b.qty ∧ a.asked = b.asked ∧ a.rank = b.rank ∧ a.state = b.state ∧ a.day = b.day ∧ a.code = b.code then isTrue (Lt.ext_ h.1 h.2.1 h.2.2.1 h.2.2.2.1 h.2.2.2.2.1 h.2.2.2.2.2.1 h.2.2.2.2.2.2.1 h.2.2.2.2.2.2.2)
  else isFalse (fun e => h (by subst e; exact ⟨rfl, rfl, rfl, rfl, rfl, rfl, rfl, rfl⟩))
instance : Inhabited Lt := ⟨⟨0, [], 0, 0, 0, 0, 0, []⟩⟩

abbrev strV (s : List UInt8) : Value := .string ⟨s.toArray⟩
def encL (x : Lt) : List Value := [.int .i64 x.id, strV x.item, .int .i64 x.qty, .int .i64 x.asked, .int .i64 x.rank, .int .u8 x.state, .int .i64 x.day, strV x.code]
theorem encL_length (x : Lt) : (encL x).length = 8 := rfl
theorem encL_one (x : Lt) : ∀ v ∈ encL x, v.oneCell' = true := fun v hv => by
  simp only [encL, List.mem_cons, List.not_mem_nil, or_false] at hv
  rcases hv with rfl | rfl | rfl | rfl | rfl | rfl | rfl | rfl <;> rfl
/-- A line as it is handed by value. -/
abbrev aggL (x : Lt) : Value := .agg #[.int .i64 x.id, strV x.item, .int .i64 x.qty, .int .i64 x.asked, .int .i64 x.rank, .int .u8 x.state, .int .i64 x.day, strV x.code]

def lcells : List Lt → List Value
  | [] => []
  | x :: l => encL x ++ lcells l
theorem lcells_length : ∀ l : List Lt, (lcells l).length = l.length * 8
  | [] => rfl
  | x :: l => by simp [lcells, encL_length, lcells_length l]; omega
theorem lcells_append : ∀ l m : List Lt, lcells (l ++ m) = lcells l ++ lcells m
  | [], m => rfl
  | x :: l, m => by simp [lcells, lcells_append l m]
theorem lcells_get : ∀ (l : List Lt) (k : Nat) (x : Lt), l[k]? = some x → ∀ c, c < 8 → (lcells l)[k * 8 + c]? = (encL x)[c]?
  | [], k, x, h, c, hc => by simp at h
  | y :: l, 0, x, h, c, hc => by
    simp at h; subst h
    simp only [lcells, Nat.zero_mul, Nat.zero_add]
    rw [List.getElem?_append_left (by simpa [encL_length] using hc)]
  | y :: l, k + 1, x, h, c, hc => by
    have := lcells_get l k x (by simpa using h) c hc
    rw [show (k + 1) * 8 + c = (encL y).length + (k * 8 + c) by rw [encL_length]; omega]
    simp only [lcells]
    rw [List.getElem?_append_right (by omega), Nat.add_sub_cancel_left]
    exact this
theorem lcells_one : ∀ (l : List Lt), ∀ u ∈ lcells l, u.oneCell' = true
  | [], u, h => by simp [lcells] at h
  | x :: l, u, h => by
    simp only [lcells, List.mem_append] at h
    rcases h with h | h
    · exact encL_one x u h
    · exact lcells_one l u h
theorem lcells_take (l : List Lt) (k : Nat) (hk : k ≤ l.length) : (lcells l).take (k * 8) = lcells (l.take k) := by
  have h := lcells_append (l.take k) (l.drop k)
  rw [List.take_append_drop] at h
  rw [h, List.take_append_of_le_length (by rw [lcells_length, List.length_take]; omega), List.take_of_length_le (by rw [lcells_length, List.length_take]; omega)]

/-- A slice value that reads as lines. -/
def LSl (w : World) (B : Nat) (v : Value) (l : List Lt) : Prop := ∃ A c, v = .slice A l.length c ∧ l.length ≤ c ∧ c ≤ maxLen ∧ (A = none → c = 0) ∧ Lies w B A (lcells l)
theorem LSl.below {w w' : World} {B : Nat} {v : Value} {l : List Lt} (h : LSl w B v l) (hb : Below B w w') : LSl w' B v l := by
  obtain ⟨A, c, h1, h2, h3, hz, h4⟩ := h
  exact ⟨A, c, h1, h2, h3, hz, h4.below hb⟩
theorem LSl.mono {w : World} {B B' : Nat} {v : Value} {l : List Lt} (h : LSl w B v l) (hB : B ≤ B') : LSl w B' v l := by
  obtain ⟨A, c, h1, h2, h3, hz, h4⟩ := h
  exact ⟨A, c, h1, h2, h3, hz, h4.mono hB⟩
theorem LSl.own {w : World} {base e : Nat} {v : Value} {l : List Lt} (h : w.ownsRow base e 8 v l.length (lcells l)) : LSl w w.heap.size v l := by
  obtain ⟨A, c, rfl, h1, h2, hz⟩ := own_form h
  exact ⟨A, c, rfl, h1, h2, hz, Lies.own h⟩
theorem LSl.nil {w : World} {B : Nat} : LSl w B (.slice none 0 0) [] := ⟨none, 0, rfl, Nat.le_refl _, by simp [maxLen], fun _ => rfl, Lies.none⟩
theorem LSl.at_ {w W : World} {v : Value} {l : List Lt} (h : LSl w w.heap.size v l) (hb : Below w.heap.size w W) : LSl W W.heap.size v l := (h.below hb).mono hb.size

/-- The eight cells of a line, at p and behind it. -/
def Six (w : World) (p : Addr) (x : Lt) : Prop :=
  w.cell? p = some (.int .i64 x.id) ∧ w.cell? ⟨p.block, p.off + 1, none⟩ = some (strV x.item) ∧ w.cell? ⟨p.block, p.off + 2, none⟩ = some (.int .i64 x.qty) ∧ w.cell? ⟨p.block, p.off + 3, none⟩ = some (.int .i64 x.asked) ∧ w.cell? ⟨p.block, p.off + 4, none⟩ = some (.int .i64 x.rank) ∧ w.cell? ⟨p.block, p.off + 5, none⟩ = some (.int .u8 x.state) ∧ w.cell? ⟨p.block, p.off + 6, none⟩ = some (.int .i64 x.day) ∧ w.cell? ⟨p.block, p.off + 7, none⟩ = some (strV x.code)
theorem addr_up (p : Addr) (c : Nat) (hc : c ≠ 0) : p.add c = ⟨p.block, p.off + c, none⟩ := by unfold Addr.add; rw [if_neg hc]
theorem Lies.six {w : World} {B : Nat} {A : Option Addr} {l : List Lt} (h : Lies w B A (lcells l)) {k : Nat} {x : Lt} (hk : l[k]? = some x) :
    ∃ ad, A = some ad ∧ ad.block < B ∧ Six w (ad.add (k * 8)) x := by
  have hlt := (List.getElem?_eq_some_iff.1 hk).1
  obtain ⟨ad, hA, hb, hc⟩ := h (by intro e; have := lcells_length l; rw [e] at this; simp at this; omega)
  have g : ∀ c u, c < 8 → (encL x)[c]? = some u → w.cell? ((ad.add (k * 8)).add c) = some u := fun c u hc6 hu => by
    rw [addr_add]
    exact hc _ u (by rw [lcells_get l k x hk c hc6]; exact hu)
  refine ⟨ad, hA, hb, ?_, ?_, ?_, ?_, ?_, ?_, ?_, ?_⟩
  · have := g 0 _ (by omega) rfl; simpa [Addr.add] using this
  · have := g 1 _ (by omega) rfl; rwa [addr_up _ _ (by omega)] at this
  · have := g 2 _ (by omega) rfl; rwa [addr_up _ _ (by omega)] at this
  · have := g 3 _ (by omega) rfl; rwa [addr_up _ _ (by omega)] at this
  · have := g 4 _ (by omega) rfl; rwa [addr_up _ _ (by omega)] at this
  · have := g 5 _ (by omega) rfl; rwa [addr_up _ _ (by omega)] at this
  · have := g 6 _ (by omega) rfl; rwa [addr_up _ _ (by omega)] at this
  · have := g 7 _ (by omega) rfl; rwa [addr_up _ _ (by omega)] at this
theorem Six.below {w w' : World} {B : Nat} {p : Addr} {x : Lt} (h : Six w p x) (hp : p.block < B) (hb : Below B w w') : Six w' p x := by
  obtain ⟨a, b, c, d, e, f, g, i⟩ := h
  exact ⟨(hb.cell hp).trans a, (hb.cell (p := ⟨p.block, p.off + 1, none⟩) hp).trans b, (hb.cell (p := ⟨p.block, p.off + 2, none⟩) hp).trans c, (hb.cell (p := ⟨p.block, p.off + 3, none⟩) hp).trans d, (hb.cell (p := ⟨p.block, p.off + 4, none⟩) hp).trans e, (hb.cell (p := ⟨p.block, p.off + 5, none⟩) hp).trans f, (hb.cell (p := ⟨p.block, p.off + 6, none⟩) hp).trans g, (hb.cell (p := ⟨p.block, p.off + 7, none⟩) hp).trans i⟩

/-- A line whose fields a program can hold. -/
def Lt.Fits (x : Lt) : Prop := -9223372036854775808 ≤ x.id ∧ x.id ≤ 9223372036854775807 ∧ x.item.length ≤ maxLen ∧ -9223372036854775808 ≤ x.qty ∧ x.qty ≤ 9223372036854775807 ∧ -9223372036854775808 ≤ x.asked ∧ x.asked ≤ 9223372036854775807 ∧ -9223372036854775808 ≤ x.rank ∧ x.rank ≤ 9223372036854775807 ∧ 0 ≤ x.state ∧ x.state ≤ 255 ∧ -9223372036854775808 ≤ x.day ∧ x.day ≤ 9223372036854775807 ∧ x.code.length ≤ maxLen
def Sized (l : List Lt) : Prop := ∀ x ∈ l, x.Fits

theorem below_draws {B : Nat} {a w : World} (h : Below B a w) (n : Nat) : Below B a (w.drewN n) := ⟨h.os, h.tape, h.output, h.size, h.block⟩
theorem fresh_cell (w : World) (cs : Array Value) (t : TypeId) (j : Nat) : (w.alloc (.cells cs t)).cell? ((⟨w.heap.size, 0, none⟩ : Addr).add j) = cs[j]? := by
  have e : (⟨w.heap.size, 0, none⟩ : Addr).add j = ⟨w.heap.size, j, none⟩ := addr0 _ _
  rw [e, cell_of_row _ _ _ _ _ _ (heap_alloc_new w _)]
/-- What is made lies. -/
theorem Lies.fresh (w : World) (cs : Array Value) (t : TypeId) (xs : List Value) (h : cs.toList = xs) : Lies (w.alloc (.cells cs t)) (w.heap.size + 1) (some ⟨w.heap.size, 0, Option.none⟩) xs := fun _ =>
  ⟨_, rfl, Nat.lt_succ_self _, fun j u hu => by rw [fresh_cell, ← hu, ← h, Array.getElem?_toList]⟩
theorem Lies.alloc_ {w : World} {B : Nat} {A : Option Addr} {xs : List Value} (h : Lies w B A xs) (hB : B ≤ w.heap.size) (o : Obj) : Lies (w.alloc o) B A xs := h.below ((Below.refl _ _).alloc hB o)
theorem LSl.alloc_ {w : World} {B : Nat} {v : Value} {l : List Lt} (h : LSl w B v l) (hB : B ≤ w.heap.size) (o : Obj) : LSl (w.alloc o) B v l := h.below ((Below.refl _ _).alloc hB o)
end Go.Proofs.YtepkmgmooadbjaaGreat
end
section
/- The contract of the reference's Right. -/
namespace Go.Proofs.YtepkmgmooadbjaaGreat
open Go.ChangeShapes Go.WideShapes Go.ChangeAt Go.RowKit
set_option linter.unusedVariables false

set_option maxHeartbeats 2000000 in
theorem rright_any (s : ByteArray) (w : World) :
    Calls Tryz.prog 62 #[.string s] w fun e w' => e = .returned (.bool (rightL s.data.toList)) ∧ w = w' := by
  by_cases hs1 : 1 ≤ s.size
  · by_cases hs2 : s.size ≤ 12
    · go_enter Tryz.func62, Tryz.ntmps62
      go_wp2_with fail
      go_loop [3] (fun i => ∃ pos : Nat, pos ≤ s.size ∧ i = .int .i64 pos ∧ Hid (allOk 0 (s.data.toList.take pos) = true)) (fun i => s.size - (intOf i).toNat)
      case atStart => exact ⟨0, Nat.zero_le _, rfl, Lib.hid rfl⟩
      case round =>
        obtain ⟨pos, hpos, rfl, HA⟩ := hrel
        by_cases hp : pos < s.size
        · have hc := get_list s pos hp
          by_cases hu : 65 ≤ (s[pos]'hp).toNat ∧ (s[pos]'hp).toNat ≤ 90
          · have hok : okAt pos s[pos] = true := by simp [okAt, upB, hu]
            have hst := allOk_step HA.out hc hok
            have HST := Lib.hid hst
            have hd1 : decide ((48 : Int) ≤ ((s[pos]'hp).toNat : Int)) = true := decide_eq_true (by omega)
            have hd2 : decide (((s[pos]'hp).toNat : Int) ≤ 57) = false := decide_eq_false (by omega)
            have hd3 : (((s[pos]'hp).toNat : Int) == 45) = false := by simp; omega
            clear hst hok hc
            go_wp2
            go_round
            case rel => exact ⟨pos + 1, by omega, by go_num, HST⟩
            case measure => simp [intOf]; omega
          · by_cases hB : 90 < (s[pos]'hp).toNat
            · by_cases hz : pos = 0
              · subst hz
                have hok : okAt 0 s[0] = false := by simp [okAt, upB]; omega
                have hno := rightL_no hc hok
                have HNO := Lib.hid hno
                have hd0 : decide ((65 : Int) ≤ ((s[0]'hp).toNat : Int)) = true := decide_eq_true (by omega)
                have hd1 : decide (((s[0]'hp).toNat : Int) ≤ 90) = false := decide_eq_false (by omega)
                have hd2 : decide ((48 : Int) ≤ ((s[0]'hp).toNat : Int)) = true := decide_eq_true (by omega)
                have hd3 : decide (((s[0]'hp).toNat : Int) ≤ 57) = false := decide_eq_false (by omega)
                have hd4 : (((s[0]'hp).toNat : Int) == 45) = false := by simp; omega
                clear hno hok hc
                go_wp2
                go_ret
                exact ⟨ret_bool HNO.out.symm, rfl⟩
              · have hz1 : ((pos : Int) == 0) = false := by simp; omega
                have hok : okAt pos s[pos] = false := by simp [okAt, upB, inB]; omega
                have hno := rightL_no hc hok
                have HNO := Lib.hid hno
                have hd0 : decide ((65 : Int) ≤ ((s[pos]'hp).toNat : Int)) = true := decide_eq_true (by omega)
                have hd1 : decide (((s[pos]'hp).toNat : Int) ≤ 90) = false := decide_eq_false (by omega)
                have hd2 : decide ((48 : Int) ≤ ((s[pos]'hp).toNat : Int)) = true := decide_eq_true (by omega)
                have hd3 : decide (((s[pos]'hp).toNat : Int) ≤ 57) = false := decide_eq_false (by omega)
                have hd4 : (((s[pos]'hp).toNat : Int) == 45) = false := by simp; omega
                have HZ := Lib.hid hz
                clear hno hok hc hz
                go_wp2
                go_ret
                exact ⟨ret_bool HNO.out.symm, rfl⟩
            · by_cases hC : 57 < (s[pos]'hp).toNat
              · by_cases hz : pos = 0
                · subst hz
                  have hok : okAt 0 s[0] = false := by simp [okAt, upB]; omega
                  have hno := rightL_no hc hok
                  have HNO := Lib.hid hno
                  have hd0 : decide ((65 : Int) ≤ ((s[0]'hp).toNat : Int)) = false := decide_eq_false (by omega)
                  have hd1 : decide ((48 : Int) ≤ ((s[0]'hp).toNat : Int)) = true := decide_eq_true (by omega)
                  have hd2 : decide (((s[0]'hp).toNat : Int) ≤ 57) = false := decide_eq_false (by omega)
                  have hd3 : (((s[0]'hp).toNat : Int) == 45) = false := by simp; omega
                  clear hno hok hc
                  go_wp2
                  go_ret
                  exact ⟨ret_bool HNO.out.symm, rfl⟩
                · have hz1 : ((pos : Int) == 0) = false := by simp; omega
                  have hok : okAt pos s[pos] = false := by simp [okAt, upB, inB]; omega
                  have hno := rightL_no hc hok
                  have HNO := Lib.hid hno
                  have hd0 : decide ((65 : Int) ≤ ((s[pos]'hp).toNat : Int)) = false := decide_eq_false (by omega)
                  have hd1 : decide ((48 : Int) ≤ ((s[pos]'hp).toNat : Int)) = true := decide_eq_true (by omega)
                  have hd2 : decide (((s[pos]'hp).toNat : Int) ≤ 57) = false := decide_eq_false (by omega)
                  have hd3 : (((s[pos]'hp).toNat : Int) == 45) = false := by simp; omega
                  have HZ := Lib.hid hz
                  clear hno hok hc hz
                  go_wp2
                  go_ret
                  exact ⟨ret_bool HNO.out.symm, rfl⟩
              · by_cases hD : 48 ≤ (s[pos]'hp).toNat
                · by_cases hz : pos = 0
                  · subst hz
                    have hok : okAt 0 s[0] = false := by simp [okAt, upB]; omega
                    have hno := rightL_no hc hok
                    have HNO := Lib.hid hno
                    have hd0 : decide ((65 : Int) ≤ ((s[0]'hp).toNat : Int)) = false := decide_eq_false (by omega)
                    have hd1 : decide ((48 : Int) ≤ ((s[0]'hp).toNat : Int)) = true := decide_eq_true (by omega)
                    have hd2 : decide (((s[0]'hp).toNat : Int) ≤ 57) = true := decide_eq_true (by omega)
                    clear hno hok hc
                    go_wp2
                    go_ret
                    exact ⟨ret_bool HNO.out.symm, rfl⟩
                  · have hz1 : ((pos : Int) == 0) = false := by simp; omega
                    have hok : okAt pos s[pos] = true := by simp [okAt, inB, hz]; right; omega
                    have hst := allOk_step HA.out hc hok
                    have HST := Lib.hid hst
                    have hd0 : decide ((65 : Int) ≤ ((s[pos]'hp).toNat : Int)) = false := decide_eq_false (by omega)
                    have hd1 : decide ((48 : Int) ≤ ((s[pos]'hp).toNat : Int)) = true := decide_eq_true (by omega)
                    have hd2 : decide (((s[pos]'hp).toNat : Int) ≤ 57) = true := decide_eq_true (by omega)
                    have HZ := Lib.hid hz
                    clear hst hok hc hz
                    go_wp2
                    go_round
                    case rel => exact ⟨pos + 1, by omega, by go_num, HST⟩
                    case measure => simp [intOf]; omega
                · by_cases hF : (s[pos]'hp).toNat = 45
                  · by_cases hz : pos = 0
                    · subst hz
                      have hok : okAt 0 s[0] = false := by simp [okAt, upB]; omega
                      have hno := rightL_no hc hok
                      have HNO := Lib.hid hno
                      have hd0 : decide ((65 : Int) ≤ ((s[0]'hp).toNat : Int)) = false := decide_eq_false (by omega)
                      have hd1 : decide ((48 : Int) ≤ ((s[0]'hp).toNat : Int)) = false := decide_eq_false (by omega)
                      have hd2 : (((s[0]'hp).toNat : Int) == 45) = true := by simp; omega
                      clear hno hok hc
                      go_wp2
                      go_ret
                      exact ⟨ret_bool HNO.out.symm, rfl⟩
                    · have hz1 : ((pos : Int) == 0) = false := by simp; omega
                      have hok : okAt pos s[pos] = true := by simp [okAt, inB, hz]; right; omega
                      have hst := allOk_step HA.out hc hok
                      have HST := Lib.hid hst
                      have hd0 : decide ((65 : Int) ≤ ((s[pos]'hp).toNat : Int)) = false := decide_eq_false (by omega)
                      have hd1 : decide ((48 : Int) ≤ ((s[pos]'hp).toNat : Int)) = false := decide_eq_false (by omega)
                      have hd2 : (((s[pos]'hp).toNat : Int) == 45) = true := by simp; omega
                      have HZ := Lib.hid hz
                      clear hst hok hc hz
                      go_wp2
                      go_round
                      case rel => exact ⟨pos + 1, by omega, by go_num, HST⟩
                      case measure => simp [intOf]; omega
                  · by_cases hz : pos = 0
                    · subst hz
                      have hok : okAt 0 s[0] = false := by simp [okAt, upB]; omega
                      have hno := rightL_no hc hok
                      have HNO := Lib.hid hno
                      have hd0 : decide ((65 : Int) ≤ ((s[0]'hp).toNat : Int)) = false := decide_eq_false (by omega)
                      have hd1 : decide ((48 : Int) ≤ ((s[0]'hp).toNat : Int)) = false := decide_eq_false (by omega)
                      have hd2 : (((s[0]'hp).toNat : Int) == 45) = false := by simp; omega
                      clear hno hok hc
                      go_wp2
                      go_ret
                      exact ⟨ret_bool HNO.out.symm, rfl⟩
                    · have hz1 : ((pos : Int) == 0) = false := by simp; omega
                      have hok : okAt pos s[pos] = false := by simp [okAt, upB, inB]; omega
                      have hno := rightL_no hc hok
                      have HNO := Lib.hid hno
                      have hd0 : decide ((65 : Int) ≤ ((s[pos]'hp).toNat : Int)) = false := decide_eq_false (by omega)
                      have hd1 : decide ((48 : Int) ≤ ((s[pos]'hp).toNat : Int)) = false := decide_eq_false (by omega)
                      have hd2 : (((s[pos]'hp).toNat : Int) == 45) = false := by simp; omega
                      have HZ := Lib.hid hz
                      clear hno hok hc hz
                      go_wp2
                      go_ret
                      exact ⟨ret_bool HNO.out.symm, rfl⟩
        · have hall : rightL s.data.toList = true := rightL_mk (by rw [size_list]; exact hs1) (by rw [size_list]; exact hs2) (by have := HA.out; rwa [List.take_of_length_le (by rw [size_list]; omega)] at this)
          have HALL := Lib.hid hall
          clear hall
          go_wp2
          go_ret
          exact ⟨ret_bool HALL.out.symm, rfl⟩
    · have hno : rightL s.data.toList = false := rightL_long (by rw [size_list]; omega)
      have HNO := Lib.hid hno
      have hd : decide (12 < s.size) = true := decide_eq_true (by omega)
      clear hno
      go_enter Tryz.func62, Tryz.ntmps62
      go_wp2_with fail
      go_ret
      exact ⟨ret_bool HNO.out.symm, rfl⟩
  · have hno : rightL s.data.toList = false := rightL_short (by rw [size_list]; omega)
    have HNO := Lib.hid hno
    have hd : decide (s.size < 1) = true := decide_eq_true (by omega)
    clear hno
    go_enter Tryz.func62, Tryz.ntmps62
    go_wp2_with fail
    go_ret
    exact ⟨ret_bool HNO.out.symm, rfl⟩
end Go.Proofs.YtepkmgmooadbjaaGreat
end
section
/- rank.Right and what it calls, the reference's: part of the contracts. Written by gen_rsc.py. -/
namespace Go.Proofs.YtepkmgmooadbjaaGreat
open Go.ChangeShapes Go.WideShapes Go.ChangeAt Go.RowKit
set_option linter.unusedVariables false

def dayB (d : Int) : Bool := decide (0 ≤ d ∧ d ≤ 4000)
def qtyB (q : Int) : Bool := decide (1 ≤ q ∧ q ≤ 1073741824)
def rankB (r : Int) : Bool := decide (0 ≤ r ∧ r ≤ 99)
def confB (x : Lt) : Bool := dayB x.day && rightL x.code
def backB (x : Lt) : Bool := decide (x.day = -1) && decide (x.code = [])
def standsB (x : Lt) : Bool := if x.state = 1 then confB x || backB x else if x.state = 2 then confB x else if x.state = 3 then backB x else false
def lrightB (x : Lt) : Bool := decide (1 ≤ x.id) && (rightL x.item && (qtyB x.qty && (dayB x.asked && (rankB x.rank && standsB x))))
theorem below_alloc1 (w : World) (o : Obj) : Below w.heap.size w (w.alloc o) := (Below.refl _ _).alloc (Nat.le_refl _) _
theorem below_alloc2 {w w1 : World} (o : Obj) (h : Below (w.alloc o).heap.size (w.alloc o) w1) : Below w.heap.size w w1 := (below_alloc1 w o).trans (h.mono (by simp))
theorem below_two {w w1 w2 : World} (h1 : Below w.heap.size w w1) (h2 : Below w1.heap.size w1 w2) : Below w.heap.size w w2 := h1.trans (h2.mono h1.size)
theorem str_size {s : List UInt8} (h : s.length ≤ maxLen) : (⟨s.toArray⟩ : ByteArray).size = s.length := by simp [ByteArray.size]
theorem bcell {W w1 : World} (hb : Below W.heap.size W w1) : (∀ b o, b < W.heap.size → w1.cell? ⟨b, o, none⟩ = W.cell? ⟨b, o, none⟩) ∧ (∀ b o, b < W.heap.size → w1.frozen? ⟨b, o, none⟩ = W.frozen? ⟨b, o, none⟩) :=
  ⟨fun b o h => hb.cell (p := ⟨b, o, none⟩) h, fun b o h => hb.frozen (p := ⟨b, o, none⟩) h⟩
theorem cright_yes (s : List UInt8) (w : World) (h : rightL s = true) : Calls Tryz.prog 31 #[strV s] w fun e w' => e = .returned (.bool true) ∧ Below w.heap.size w w' := by
  have := right_any ⟨s.toArray⟩ w; rw [show (⟨s.toArray⟩ : ByteArray).data.toList = s from rfl, h] at this; exact this
theorem cright_no (s : List UInt8) (w : World) (h : rightL s = false) : Calls Tryz.prog 31 #[strV s] w fun e w' => e = .returned (.bool false) ∧ Below w.heap.size w w' := by
  have := right_any ⟨s.toArray⟩ w; rw [show (⟨s.toArray⟩ : ByteArray).data.toList = s from rfl, h] at this; exact this
theorem crref_yes (s : List UInt8) (w : World) (h : rightL s = true) : Calls Tryz.prog 62 #[strV s] w fun e w' => e = .returned (.bool true) ∧ w = w' := by
  have := rright_any ⟨s.toArray⟩ w; rw [show (⟨s.toArray⟩ : ByteArray).data.toList = s from rfl, h] at this; exact this
theorem crref_no (s : List UInt8) (w : World) (h : rightL s = false) : Calls Tryz.prog 62 #[strV s] w fun e w' => e = .returned (.bool false) ∧ w = w' := by
  have := rright_any ⟨s.toArray⟩ w; rw [show (⟨s.toArray⟩ : ByteArray).data.toList = s from rfl, h] at this; exact this

theorem isDay_q (d : Int) (w : World) : Calls Tryz.prog 32 #[.int .i64 d] w fun e w' => e = .returned (.bool (dayB d)) ∧ w = w' := by
  by_cases h0 : 0 ≤ d
  · by_cases h1 : d ≤ 4000
    · have d0 : decide (0 ≤ d) = true := decide_eq_true h0
      have d1 : decide (d ≤ 4000) = true := decide_eq_true h1
      rw [show dayB d = true by unfold dayB; simp; omega]
      go_enter Tryz.func32, Tryz.ntmps32
      go_wp2
      go_ret
      exact ⟨rfl, rfl⟩
    · have d0 : decide (0 ≤ d) = true := decide_eq_true h0
      have d1 : decide (d ≤ 4000) = false := decide_eq_false h1
      rw [show dayB d = false by unfold dayB; simp; omega]
      go_enter Tryz.func32, Tryz.ntmps32
      go_wp2
      go_ret
      exact ⟨rfl, rfl⟩
  · have d0 : decide (0 ≤ d) = false := decide_eq_false h0
    rw [show dayB d = false by unfold dayB; simp; omega]
    go_enter Tryz.func32, Tryz.ntmps32
    go_wp2
    go_ret
    exact ⟨rfl, rfl⟩
theorem isDay_yes (d : Int) (w : World) (h : dayB d = true) : Calls Tryz.prog 32 #[.int .i64 d] w fun e w' => e = .returned (.bool true) ∧ w = w' := by
  have := isDay_q d w; rwa [h] at this
theorem isDay_no (d : Int) (w : World) (h : dayB d = false) : Calls Tryz.prog 32 #[.int .i64 d] w fun e w' => e = .returned (.bool false) ∧ w = w' := by
  have := isDay_q d w; rwa [h] at this

theorem conf_any (x : Lt) (w : World) : Calls Tryz.prog 65 #[aggL x] w fun e w' => e = .returned (.bool (confB x)) ∧ Below w.heap.size w w' := by
  unfold confB
  cases h0 : dayB x.day
  · have H0 := Lib.hid h0
    clear h0
    rw [Bool.false_and]
    go_enter Tryz.func65, Tryz.ntmps65
    go_wp2_with (go_at_call 32; ((with_reducible refine (isDay_no x.day _ H0.out).mono ?_); rintro e w1 ⟨rfl, rfl⟩))
    go_ret
    exact ⟨rfl, below_alloc1 _ _⟩
  · have H0 := Lib.hid h0
    clear h0
    rw [Bool.true_and]
    cases h1 : rightL x.code
    all_goals
      have H1 := Lib.hid h1
      clear h1
      go_enter Tryz.func65, Tryz.ntmps65
      go_wp2_with (first
        | (go_at_call 32; ((with_reducible refine (isDay_yes x.day _ H0.out).mono ?_); rintro e w1 ⟨rfl, rfl⟩))
        | (go_at_call 31; (first | ((with_reducible refine (cright_yes x.code _ H1.out).mono ?_); rintro e w1 ⟨rfl, hb1⟩) | ((with_reducible refine (cright_no x.code _ H1.out).mono ?_); rintro e w1 ⟨rfl, hb1⟩))))
      go_ret
      exact ⟨rfl, below_alloc2 _ hb1⟩
theorem back_any (x : Lt) (w : World) : Calls Tryz.prog 66 #[aggL x] w fun e w' => e = .returned (.bool (backB x)) ∧ Below w.heap.size w w' := by
  unfold backB
  obtain ⟨id, item, qty, asked, rank, state, day, code⟩ := x
  dsimp only [aggL, strV]
  by_cases h0 : day = -1
  · subst h0
    by_cases h1 : code = []
    · subst h1
      go_enter Tryz.func66, Tryz.ntmps66
      go_wp2
      go_ret
      exact ⟨rfl, below_alloc1 _ _⟩
    · have hc : (code == []) = false := beq_eq_false_iff_ne.2 h1
      have hc2 : decide (code = []) = false := decide_eq_false h1
      rw [hc2]
      clear hc2 h1
      go_enter Tryz.func66, Tryz.ntmps66
      go_wp2
      go_ret
      exact ⟨ret_bool (by simp_all), below_alloc1 _ _⟩
  · have hd : (day == -1) = false := beq_eq_false_iff_ne.2 h0
    rw [decide_eq_false h0, Bool.false_and]
    clear h0
    go_enter Tryz.func66, Tryz.ntmps66
    go_wp2
    go_ret
    exact ⟨rfl, below_alloc1 _ _⟩
theorem conf_yes (x : Lt) (w : World) (h : confB x = true) : Calls Tryz.prog 65 #[aggL x] w fun e w' => e = .returned (.bool true) ∧ Below w.heap.size w w' := by
  have := conf_any x w; rwa [h] at this
theorem conf_no (x : Lt) (w : World) (h : confB x = false) : Calls Tryz.prog 65 #[aggL x] w fun e w' => e = .returned (.bool false) ∧ Below w.heap.size w w' := by
  have := conf_any x w; rwa [h] at this
theorem back_yes (x : Lt) (w : World) (h : backB x = true) : Calls Tryz.prog 66 #[aggL x] w fun e w' => e = .returned (.bool true) ∧ Below w.heap.size w w' := by
  have := back_any x w; rwa [h] at this
theorem back_no (x : Lt) (w : World) (h : backB x = false) : Calls Tryz.prog 66 #[aggL x] w fun e w' => e = .returned (.bool false) ∧ Below w.heap.size w w' := by
  have := back_any x w; rwa [h] at this
end Go.Proofs.YtepkmgmooadbjaaGreat
end
section
/- rank.Right and what it calls, the reference's: part of the contracts. Written by gen_rsc.py. -/
namespace Go.Proofs.YtepkmgmooadbjaaGreat
open Go.ChangeShapes Go.WideShapes Go.ChangeAt Go.RowKit
set_option linter.unusedVariables false

set_option maxHeartbeats 2000000 in
theorem stands_any (x : Lt) (w : World) : Calls Tryz.prog 33 #[aggL x] w fun e w' => e = .returned (.bool (standsB x)) ∧ Below w.heap.size w w' := by
  unfold standsB
  by_cases s1 : x.state = 1
  · rw [if_pos s1]
    have t1 : (x.state == 1) = true := by simp [s1]
    clear s1
    cases h0 : confB x
    · have H0 := Lib.hid h0
      clear h0
      rw [Bool.false_or]
      cases h1 : backB x
      · have H1 := Lib.hid h1
        clear h1
        go_enter Tryz.func33, Tryz.ntmps33
        go_wp2_with (first | (go_at_call 65; ((with_reducible refine (conf_no x _ H0.out).mono ?_); rintro e w1 ⟨rfl, hb1⟩; obtain ⟨hc1, hf1⟩ := bcell hb1; have hz1 : w.heap.size < w1.heap.size := by (have := hb1.size; simp only [World.size_alloc] at this; omega))) | (go_at_call 66; ((with_reducible refine (back_no x _ H1.out).mono ?_); rintro e w2 ⟨rfl, hb2⟩)))
        go_ret
        exact ⟨rfl, below_alloc2 _ (below_two hb1 hb2)⟩
      · have H1 := Lib.hid h1
        clear h1
        go_enter Tryz.func33, Tryz.ntmps33
        go_wp2_with (first | (go_at_call 65; ((with_reducible refine (conf_no x _ H0.out).mono ?_); rintro e w1 ⟨rfl, hb1⟩; obtain ⟨hc1, hf1⟩ := bcell hb1; have hz1 : w.heap.size < w1.heap.size := by (have := hb1.size; simp only [World.size_alloc] at this; omega))) | (go_at_call 66; ((with_reducible refine (back_yes x _ H1.out).mono ?_); rintro e w2 ⟨rfl, hb2⟩)))
        go_ret
        exact ⟨rfl, below_alloc2 _ (below_two hb1 hb2)⟩
    · have H0 := Lib.hid h0
      clear h0
      rw [Bool.true_or]
      go_enter Tryz.func33, Tryz.ntmps33
      go_wp2_with ((go_at_call 65; ((with_reducible refine (conf_yes x _ H0.out).mono ?_); rintro e w1 ⟨rfl, hb1⟩; obtain ⟨hc1, hf1⟩ := bcell hb1; have hz1 : w.heap.size < w1.heap.size := by (have := hb1.size; simp only [World.size_alloc] at this; omega))))
      go_ret
      exact ⟨rfl, below_alloc2 _ hb1⟩
  · rw [if_neg s1]
    have t1 : (x.state == 1) = false := by simpa using s1
    clear s1
    by_cases s2 : x.state = 2
    · rw [if_pos s2]
      have t2 : (x.state == 2) = true := by simp [s2]
      clear s2
      cases h0 : confB x
      · have H0 := Lib.hid h0
        clear h0
        go_enter Tryz.func33, Tryz.ntmps33
        go_wp2_with ((go_at_call 65; ((with_reducible refine (conf_no x _ H0.out).mono ?_); rintro e w1 ⟨rfl, hb1⟩; obtain ⟨hc1, hf1⟩ := bcell hb1; have hz1 : w.heap.size < w1.heap.size := by (have := hb1.size; simp only [World.size_alloc] at this; omega))))
        go_ret
        exact ⟨rfl, below_alloc2 _ hb1⟩
      · have H0 := Lib.hid h0
        clear h0
        go_enter Tryz.func33, Tryz.ntmps33
        go_wp2_with ((go_at_call 65; ((with_reducible refine (conf_yes x _ H0.out).mono ?_); rintro e w1 ⟨rfl, hb1⟩; obtain ⟨hc1, hf1⟩ := bcell hb1; have hz1 : w.heap.size < w1.heap.size := by (have := hb1.size; simp only [World.size_alloc] at this; omega))))
        go_ret
        exact ⟨rfl, below_alloc2 _ hb1⟩
    · rw [if_neg s2]
      have t2 : (x.state == 2) = false := by simpa using s2
      clear s2
      by_cases s3 : x.state = 3
      · rw [if_pos s3]
        have t3 : (x.state == 3) = true := by simp [s3]
        clear s3
        cases h0 : backB x
        · have H0 := Lib.hid h0
          clear h0
          go_enter Tryz.func33, Tryz.ntmps33
          go_wp2_with ((go_at_call 66; ((with_reducible refine (back_no x _ H0.out).mono ?_); rintro e w1 ⟨rfl, hb1⟩)))
          go_ret
          exact ⟨rfl, below_alloc2 _ hb1⟩
        · have H0 := Lib.hid h0
          clear h0
          go_enter Tryz.func33, Tryz.ntmps33
          go_wp2_with ((go_at_call 66; ((with_reducible refine (back_yes x _ H0.out).mono ?_); rintro e w1 ⟨rfl, hb1⟩)))
          go_ret
          exact ⟨rfl, below_alloc2 _ hb1⟩
      · rw [if_neg s3]
        have t3 : (x.state == 3) = false := by simpa using s3
        clear s3
        go_enter Tryz.func33, Tryz.ntmps33
        go_wp2
        go_ret
        exact ⟨rfl, below_alloc1 _ _⟩
theorem stands_yes (x : Lt) (w : World) (h : standsB x = true) : Calls Tryz.prog 33 #[aggL x] w fun e w' => e = .returned (.bool true) ∧ Below w.heap.size w w' := by
  have := stands_any x w; rwa [h] at this
theorem stands_no (x : Lt) (w : World) (h : standsB x = false) : Calls Tryz.prog 33 #[aggL x] w fun e w' => e = .returned (.bool false) ∧ Below w.heap.size w w' := by
  have := stands_any x w; rwa [h] at this
end Go.Proofs.YtepkmgmooadbjaaGreat
end
section
/- rank.Right and what it calls, the reference's: part of the contracts. Written by gen_rsc.py. -/
namespace Go.Proofs.YtepkmgmooadbjaaGreat
open Go.ChangeShapes Go.WideShapes Go.ChangeAt Go.RowKit
set_option linter.unusedVariables false

set_option maxHeartbeats 2000000 in
theorem lright_any (x : Lt) (w : World) : Calls Tryz.prog 19 #[aggL x] w fun e w' => e = .returned (.bool (lrightB x)) ∧ Below w.heap.size w w' := by
  by_cases h0 : 1 ≤ x.id
  ·
    by_cases h1 : rightL x.item = true
    ·
      by_cases h2 : 1 ≤ x.qty
      ·
        by_cases h3 : x.qty ≤ 1073741824
        ·
          by_cases h4 : dayB x.asked = true
          ·
            by_cases h5 : 0 ≤ x.rank
            ·
              by_cases h6 : x.rank ≤ 99
              ·
                by_cases h7 : standsB x = true
                ·
                  have d0 : decide (1 ≤ x.id) = true := decide_eq_true h0
                  have H1 : Hid (rightL x.item = true) := Lib.hid (by simpa using h1)
                  have d2 : decide (1 ≤ x.qty) = true := decide_eq_true h2
                  have d3 : decide (x.qty ≤ 1073741824) = true := decide_eq_true h3
                  have H4 : Hid (dayB x.asked = true) := Lib.hid (by simpa using h4)
                  have d5 : decide (0 ≤ x.rank) = true := decide_eq_true h5
                  have d6 : decide (x.rank ≤ 99) = true := decide_eq_true h6
                  have H7 : Hid (standsB x = true) := Lib.hid (by simpa using h7)
                  have hv : lrightB x = true := by unfold lrightB qtyB rankB; simp [d0, H1.out, H4.out, H7.out]; try omega
                  rw [hv]
                  clear hv h1 h4 h7
                  go_enter Tryz.func19, Tryz.ntmps19
                  go_wp2_with (first | (go_at_call 31; ((with_reducible refine (cright_yes x.item _ H1.out).mono ?_); rintro e w1 ⟨rfl, hb1⟩; obtain ⟨hc1, hf1⟩ := bcell hb1; have hz1 : w.heap.size < w1.heap.size := by (have := hb1.size; simp only [World.size_alloc] at this; omega))) | (go_at_call 32; ((with_reducible refine (isDay_yes x.asked _ H4.out).mono ?_); rintro e w2 ⟨rfl, rfl⟩)) | (go_at_call 33; ((with_reducible refine (stands_yes x _ H7.out).mono ?_); rintro e w3 ⟨rfl, hb3⟩)))
                  go_ret
                  exact ⟨rfl, below_alloc2 _ (below_two hb1 hb3)⟩
                ·
                  have d0 : decide (1 ≤ x.id) = true := decide_eq_true h0
                  have H1 : Hid (rightL x.item = true) := Lib.hid (by simpa using h1)
                  have d2 : decide (1 ≤ x.qty) = true := decide_eq_true h2
                  have d3 : decide (x.qty ≤ 1073741824) = true := decide_eq_true h3
                  have H4 : Hid (dayB x.asked = true) := Lib.hid (by simpa using h4)
                  have d5 : decide (0 ≤ x.rank) = true := decide_eq_true h5
                  have d6 : decide (x.rank ≤ 99) = true := decide_eq_true h6
                  have H7 : Hid (standsB x = false) := Lib.hid (by simpa using h7)
                  have hv : lrightB x = false := by unfold lrightB qtyB rankB; simp [d0, H1.out, H4.out, H7.out]; try omega
                  rw [hv]
                  clear hv h1 h4 h7
                  go_enter Tryz.func19, Tryz.ntmps19
                  go_wp2_with (first | (go_at_call 31; ((with_reducible refine (cright_yes x.item _ H1.out).mono ?_); rintro e w1 ⟨rfl, hb1⟩; obtain ⟨hc1, hf1⟩ := bcell hb1; have hz1 : w.heap.size < w1.heap.size := by (have := hb1.size; simp only [World.size_alloc] at this; omega))) | (go_at_call 32; ((with_reducible refine (isDay_yes x.asked _ H4.out).mono ?_); rintro e w2 ⟨rfl, rfl⟩)) | (go_at_call 33; ((with_reducible refine (stands_no x _ H7.out).mono ?_); rintro e w3 ⟨rfl, hb3⟩)))
                  go_ret
                  exact ⟨rfl, below_alloc2 _ (below_two hb1 hb3)⟩
              ·
                have d0 : decide (1 ≤ x.id) = true := decide_eq_true h0
                have H1 : Hid (rightL x.item = true) := Lib.hid (by simpa using h1)
                have d2 : decide (1 ≤ x.qty) = true := decide_eq_true h2
                have d3 : decide (x.qty ≤ 1073741824) = true := decide_eq_true h3
                have H4 : Hid (dayB x.asked = true) := Lib.hid (by simpa using h4)
                have d5 : decide (0 ≤ x.rank) = true := decide_eq_true h5
                have d6 : decide (x.rank ≤ 99) = false := decide_eq_false h6
                have hv : lrightB x = false := by unfold lrightB qtyB rankB; simp [d0, H1.out, H4.out]; try omega
                rw [hv]
                clear hv h1 h4
                go_enter Tryz.func19, Tryz.ntmps19
                go_wp2_with (first | (go_at_call 31; ((with_reducible refine (cright_yes x.item _ H1.out).mono ?_); rintro e w1 ⟨rfl, hb1⟩; obtain ⟨hc1, hf1⟩ := bcell hb1; have hz1 : w.heap.size < w1.heap.size := by (have := hb1.size; simp only [World.size_alloc] at this; omega))) | (go_at_call 32; ((with_reducible refine (isDay_yes x.asked _ H4.out).mono ?_); rintro e w2 ⟨rfl, rfl⟩)))
                go_ret
                exact ⟨rfl, below_alloc2 _ hb1⟩
            ·
              have d0 : decide (1 ≤ x.id) = true := decide_eq_true h0
              have H1 : Hid (rightL x.item = true) := Lib.hid (by simpa using h1)
              have d2 : decide (1 ≤ x.qty) = true := decide_eq_true h2
              have d3 : decide (x.qty ≤ 1073741824) = true := decide_eq_true h3
              have H4 : Hid (dayB x.asked = true) := Lib.hid (by simpa using h4)
              have d5 : decide (0 ≤ x.rank) = false := decide_eq_false h5
              have hv : lrightB x = false := by unfold lrightB qtyB rankB; simp [d0, H1.out, H4.out]; try omega
              rw [hv]
              clear hv h1 h4
              go_enter Tryz.func19, Tryz.ntmps19
              go_wp2_with (first | (go_at_call 31; ((with_reducible refine (cright_yes x.item _ H1.out).mono ?_); rintro e w1 ⟨rfl, hb1⟩; obtain ⟨hc1, hf1⟩ := bcell hb1; have hz1 : w.heap.size < w1.heap.size := by (have := hb1.size; simp only [World.size_alloc] at this; omega))) | (go_at_call 32; ((with_reducible refine (isDay_yes x.asked _ H4.out).mono ?_); rintro e w2 ⟨rfl, rfl⟩)))
              go_ret
              exact ⟨rfl, below_alloc2 _ hb1⟩
          ·
            have d0 : decide (1 ≤ x.id) = true := decide_eq_true h0
            have H1 : Hid (rightL x.item = true) := Lib.hid (by simpa using h1)
            have d2 : decide (1 ≤ x.qty) = true := decide_eq_true h2
            have d3 : decide (x.qty ≤ 1073741824) = true := decide_eq_true h3
            have H4 : Hid (dayB x.asked = false) := Lib.hid (by simpa using h4)
            have hv : lrightB x = false := by unfold lrightB qtyB rankB; simp [d0, H1.out, H4.out]; try omega
            rw [hv]
            clear hv h1 h4
            go_enter Tryz.func19, Tryz.ntmps19
            go_wp2_with (first | (go_at_call 31; ((with_reducible refine (cright_yes x.item _ H1.out).mono ?_); rintro e w1 ⟨rfl, hb1⟩; obtain ⟨hc1, hf1⟩ := bcell hb1; have hz1 : w.heap.size < w1.heap.size := by (have := hb1.size; simp only [World.size_alloc] at this; omega))) | (go_at_call 32; ((with_reducible refine (isDay_no x.asked _ H4.out).mono ?_); rintro e w2 ⟨rfl, rfl⟩)))
            go_ret
            exact ⟨rfl, below_alloc2 _ hb1⟩
        ·
          have d0 : decide (1 ≤ x.id) = true := decide_eq_true h0
          have H1 : Hid (rightL x.item = true) := Lib.hid (by simpa using h1)
          have d2 : decide (1 ≤ x.qty) = true := decide_eq_true h2
          have d3 : decide (x.qty ≤ 1073741824) = false := decide_eq_false h3
          have hv : lrightB x = false := by unfold lrightB qtyB rankB; simp [d0, H1.out]; try omega
          rw [hv]
          clear hv h1
          go_enter Tryz.func19, Tryz.ntmps19
          go_wp2_with (first | (go_at_call 31; ((with_reducible refine (cright_yes x.item _ H1.out).mono ?_); rintro e w1 ⟨rfl, hb1⟩; obtain ⟨hc1, hf1⟩ := bcell hb1; have hz1 : w.heap.size < w1.heap.size := by (have := hb1.size; simp only [World.size_alloc] at this; omega))))
          go_ret
          exact ⟨rfl, below_alloc2 _ hb1⟩
      ·
        have d0 : decide (1 ≤ x.id) = true := decide_eq_true h0
        have H1 : Hid (rightL x.item = true) := Lib.hid (by simpa using h1)
        have d2 : decide (1 ≤ x.qty) = false := decide_eq_false h2
        have hv : lrightB x = false := by unfold lrightB qtyB rankB; simp [d0, H1.out]; try omega
        rw [hv]
        clear hv h1
        go_enter Tryz.func19, Tryz.ntmps19
        go_wp2_with (first | (go_at_call 31; ((with_reducible refine (cright_yes x.item _ H1.out).mono ?_); rintro e w1 ⟨rfl, hb1⟩; obtain ⟨hc1, hf1⟩ := bcell hb1; have hz1 : w.heap.size < w1.heap.size := by (have := hb1.size; simp only [World.size_alloc] at this; omega))))
        go_ret
        exact ⟨rfl, below_alloc2 _ hb1⟩
    ·
      have d0 : decide (1 ≤ x.id) = true := decide_eq_true h0
      have H1 : Hid (rightL x.item = false) := Lib.hid (by simpa using h1)
      have hv : lrightB x = false := by unfold lrightB qtyB rankB; simp [d0, H1.out]; try omega
      rw [hv]
      clear hv h1
      go_enter Tryz.func19, Tryz.ntmps19
      go_wp2_with (first | (go_at_call 31; ((with_reducible refine (cright_no x.item _ H1.out).mono ?_); rintro e w1 ⟨rfl, hb1⟩; obtain ⟨hc1, hf1⟩ := bcell hb1; have hz1 : w.heap.size < w1.heap.size := by (have := hb1.size; simp only [World.size_alloc] at this; omega))))
      go_ret
      exact ⟨rfl, below_alloc2 _ hb1⟩
  ·
    have d0 : decide (1 ≤ x.id) = false := decide_eq_false h0
    have hv : lrightB x = false := by unfold lrightB qtyB rankB; simp [d0]; try omega
    rw [hv]
    clear hv
    go_enter Tryz.func19, Tryz.ntmps19
    go_wp2
    go_ret
    exact ⟨rfl, below_alloc1 _ _⟩
end Go.Proofs.YtepkmgmooadbjaaGreat
end
