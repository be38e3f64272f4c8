/- Texts of this proof, one behind the other. -/
import Derived.Test.YtddnfikjfmfhfaaProg
import Derived.WalkKit
import Derived.ProofKit
import Derived.Lib.Hide
import Derived.Lib.OthersKept
import Derived.Below
import Derived.Laws.OwnMore
import Derived.Deep.Draws
import Derived.Maps.OwnSet
section
/- Codes, in plain words. No walk. -/
namespace Go.Proofs.Ytddnfikjfmfhfaa
set_option linter.unusedVariables false
set_option linter.unusedSimpArgs false

/-! ### codes -/
def upB (c : UInt8) : Bool := decide (65 ≤ c.toNat) && decide (c.toNat ≤ 90)
def inB (c : UInt8) : Bool := (decide (48 ≤ c.toNat) && decide (c.toNat ≤ 57)) || decide (c.toNat = 45)
def okAt (k : Nat) (c : UInt8) : Bool := upB c || (decide (k ≠ 0) && inB c)
/-- Each byte, from place k on, may stand there. -/
def allOk : Nat → List UInt8 → Bool
  | _, [] => true
  | k, c :: l => okAt k c && allOk (k + 1) l
def rightL (l : List UInt8) : Bool := decide (1 ≤ l.length) && decide (l.length ≤ 12) && allOk 0 l

theorem allOk_append : ∀ (l m : List UInt8) (k : Nat), allOk k (l ++ m) = (allOk k l && allOk (k + l.length) m)
  | [], m, k => by simp [allOk]
  | c :: l, m, k => by
    simp only [List.cons_append, allOk, allOk_append l m (k + 1), List.length_cons]
    rw [show k + 1 + l.length = k + (l.length + 1) by omega, Bool.and_assoc]
theorem allOk_take {l : List UInt8} {k : Nat} (n : Nat) (h : allOk k l = true) : allOk k (l.take n) = true := by
  have e := allOk_append (l.take n) (l.drop n) k
  rw [List.take_append_drop, h] at e
  have := e.symm
  rw [Bool.and_eq_true] at this
  exact this.1
theorem allOk_get : ∀ {l : List UInt8} {k : Nat}, allOk k l = true → ∀ {j : Nat} {c : UInt8}, l[j]? = some c → okAt (k + j) c = true
  | [], k, _, j, c, hc => by simp at hc
  | d :: l, k, h, 0, c, hc => by
    simp at hc; subst hc
    rw [allOk, Bool.and_eq_true] at h
    exact h.1
  | d :: l, k, h, j + 1, c, hc => by
    rw [allOk, Bool.and_eq_true] at h
    have := allOk_get h.2 (j := j) (c := c) (by simpa using hc)
    rwa [show k + 1 + j = k + (j + 1) by omega] at this
theorem allOk_no {l : List UInt8} {k j : Nat} {c : UInt8} (hc : l[j]? = some c) (h : okAt (k + j) c = false) : allOk k l = false := by
  cases e : allOk k l with
  | false => rfl
  | true => rw [allOk_get e hc] at h; cases h
theorem allOk_step {l : List UInt8} {j : Nat} {c : UInt8} (h : allOk 0 (l.take j) = true) (hc : l[j]? = some c) (ho : okAt j c = true) : allOk 0 (l.take (j + 1)) = true := by
  rw [List.take_add_one, hc]
  have hj : j < l.length := (List.getElem?_eq_some_iff.1 hc).1
  simp only [Option.toList]
  rw [allOk_append, h, List.length_take, Nat.min_eq_left (by omega)]
  simp [allOk, ho]
/-- The same from any place behind the first one. -/
theorem allOk_shift : ∀ (l : List UInt8) (k j : Nat), allOk (k + 1) l = true → allOk (j + 1) l = true
  | [], _, _, _ => rfl
  | c :: l, k, j, h => by
    rw [allOk, Bool.and_eq_true] at h ⊢
    refine ⟨?_, allOk_shift l (k + 1) (j + 1) h.2⟩
    have := h.1
    simpa [okAt] using this
theorem allOk_zero {l : List UInt8} {k : Nat} (h : allOk 0 l = true) : allOk (k + 1) l = true := by
  cases l with
  | nil => rfl
  | cons c l =>
    rw [allOk, Bool.and_eq_true] at h ⊢
    refine ⟨?_, allOk_shift l 0 (k + 1) h.2⟩
    have h1 := h.1
    simp [okAt] at h1 ⊢
    exact .inl h1
theorem rightL_parts {l : List UInt8} (h : rightL l = true) : 1 ≤ l.length ∧ l.length ≤ 12 ∧ allOk 0 l = true := by
  simp only [rightL, Bool.and_eq_true, decide_eq_true_eq] at h
  exact ⟨h.1.1, h.1.2, h.2⟩
theorem rightL_mk {l : List UInt8} (h1 : 1 ≤ l.length) (h2 : l.length ≤ 12) (h3 : allOk 0 l = true) : rightL l = true := by
  simp [rightL, h1, h2, h3]
theorem rightL_short {l : List UInt8} (h : l.length < 1) : rightL l = false := by
  have : decide (1 ≤ l.length) = false := by simpa using h
  simp [rightL, this]
theorem rightL_long {l : List UInt8} (h : 12 < l.length) : rightL l = false := by
  have : decide (l.length ≤ 12) = false := by simpa using h
  simp [rightL, this]
theorem rightL_no {l : List UInt8} {j : Nat} {c : UInt8} (hc : l[j]? = some c) (h : okAt j c = false) : rightL l = false := by
  rw [rightL, allOk_no (k := 0) hc (by rwa [Nat.zero_add]), Bool.and_false]
/-- What a code begins with is one. -/
theorem rightL_take {l : List UInt8} (h : rightL l = true) {k : Nat} (h1 : 1 ≤ k) : rightL (l.take k) = true := by
  obtain ⟨a, b, c⟩ := rightL_parts h
  exact rightL_mk (by rw [List.length_take]; omega) (by rw [List.length_take]; omega) (allOk_take k c)
/-- Two codes put together. -/
theorem rightL_app {a b : List UInt8} (ha : rightL a = true) (hb : rightL b = true) : rightL (a ++ b) = decide (a.length + b.length ≤ 12) := by
  obtain ⟨a1, a2, a3⟩ := rightL_parts ha
  obtain ⟨b1, b2, b3⟩ := rightL_parts hb
  have e : allOk 0 (a ++ b) = true := by
    rw [allOk_append, a3, Nat.zero_add, show a.length = (a.length - 1) + 1 by omega, allOk_zero b3]
    rfl
  simp only [rightL, e, List.length_append, Bool.and_true]
  rw [show decide (1 ≤ a.length + b.length) = true from decide_eq_true (by omega), Bool.true_and]

end Go.Proofs.Ytddnfikjfmfhfaa
end
section
/- The contracts of code.Right, letter, inner and of the reference's Right. -/
namespace Go.Proofs.Ytddnfikjfmfhfaa
open Go.ChangeShapes Go.WideShapes Go.ChangeAt Go.RowKit
set_option linter.unusedVariables false

theorem ret_bool {a b : Bool} (h : a = b) : Ending.returned (.bool a) = .returned (.bool b) := by rw [h]


theorem letter_yes (r : Int) (w : World) (h0 : 65 ≤ r) (h1 : r ≤ 90) : Calls Try.prog 79 #[.int .i32 r] w fun e w' => e = .returned (.bool true) ∧ w = w' := by
  go_enter Try.func79, Try.ntmps79
  go_wp2
  go_ret
  exact ⟨rfl, rfl⟩
theorem letter_no (r : Int) (w : World) (h : ¬ (65 ≤ r ∧ r ≤ 90)) : Calls Try.prog 79 #[.int .i32 r] w fun e w' => e = .returned (.bool false) ∧ w = w' := by
  by_cases h0 : 65 ≤ r
  · have h1 : decide (r ≤ 90) = false := by simp; omega
    clear h
    go_enter Try.func79, Try.ntmps79
    go_wp2
    go_ret
    exact ⟨rfl, rfl⟩
  · have h1 : decide (65 ≤ r) = false := by simpa using h0
    clear h
    go_enter Try.func79, Try.ntmps79
    go_wp2
    go_ret
    exact ⟨rfl, rfl⟩
theorem inner_yes (r : Int) (w : World) (h : (48 ≤ r ∧ r ≤ 57) ∨ r = 45) : Calls Try.prog 80 #[.int .i32 r] w fun e w' => e = .returned (.bool true) ∧ w = w' := by
  rcases h with ⟨h0, h1⟩ | rfl
  · go_enter Try.func80, Try.ntmps80
    go_wp2
    go_ret
    exact ⟨rfl, rfl⟩
  · go_enter Try.func80, Try.ntmps80
    go_wp2
    go_ret
    exact ⟨rfl, rfl⟩
theorem inner_no (r : Int) (w : World) (h : ¬ ((48 ≤ r ∧ r ≤ 57) ∨ r = 45)) : Calls Try.prog 80 #[.int .i32 r] w fun e w' => e = .returned (.bool false) ∧ w = w' := by
  have h45 : (r == 45) = false := by simp; omega
  by_cases h0 : 48 ≤ r
  · have h1 : decide (r ≤ 57) = false := by simp; omega
    clear h
    go_enter Try.func80, Try.ntmps80
    go_wp2
    go_ret
    exact ⟨rfl, rfl⟩
  · have h1 : decide (48 ≤ r) = false := by simpa using h0
    clear h
    go_enter Try.func80, Try.ntmps80
    go_wp2
    go_ret
    exact ⟨rfl, rfl⟩

theorem size_list (s : ByteArray) : s.data.toList.length = s.size := by rw [Array.length_toList]; rfl
theorem get_list (s : ByteArray) (k : Nat) (h : k < s.size) : s.data.toList[k]? = some s[k] := by
  rw [List.getElem?_eq_getElem (by rw [size_list]; exact h)]; rfl
theorem below_iter (w : World) (s : ByteArray) (pos : Nat) : Below w.heap.size w (w.iter s pos) := (Below.refl _ _).alloc (Nat.le_refl _) _

set_option maxHeartbeats 1000000 in
theorem right_any (s : ByteArray) (w : World) :
    Calls Try.prog 68 #[.string s] w fun e w' => e = .returned (.bool (rightL s.data.toList)) ∧ Below w.heap.size w w' := by
  by_cases hs1 : 1 ≤ s.size
  · by_cases hs2 : s.size ≤ 12
    · go_enter Try.func68, Try.ntmps68
      go_wp2_with fail
      go_loopw [] (fun wr => ∃ pos : Nat, pos ≤ s.size ∧ wr = w.iter s pos ∧ Hid (allOk 0 (s.data.toList.take pos) = true)) (fun wr => s.size - wr.iterPos w.heap.size)
      case atStart => exact ⟨0, Nat.zero_le _, rfl, Lib.hid rfl⟩
      case round =>
        obtain ⟨pos, hpos, rfl, HA⟩ := hrel
        by_cases hp : pos < s.size
        · by_cases ha : (s[pos]'hp).toNat < 128
          · have hnx := fun ty => run_next_ascii (P := Try.prog) w s pos ty hp ha
            have hc := get_list s pos hp
            by_cases hu : 65 ≤ (s[pos]'hp).toNat ∧ (s[pos]'hp).toNat ≤ 90
            · have hok : okAt pos s[pos] = true := by simp [okAt, upB, hu]
              have hst := allOk_step HA.out hc hok
              have HST := Lib.hid hst
              clear hst hok hc
              go_wp2_with (go_at_call 79; ((with_reducible refine (letter_yes _ _ (by omega) (by omega)).mono ?_); rintro e w' ⟨rfl, rfl⟩))
              go_roundw
              case rel => exact ⟨pos + 1, by omega, rfl, HST⟩
              case measure => simp only [World.iterPos_iter]; omega
            · by_cases hz : pos = 0
              · subst hz
                have hok : okAt 0 s[0] = false := by simp [okAt, upB]; omega
                have hno := rightL_no hc hok
                have HNO := Lib.hid hno
                clear hno hok hc
                go_wp2_with (go_at_call 79; ((with_reducible refine (letter_no _ _ (by omega)).mono ?_); rintro e w' ⟨rfl, rfl⟩))
                go_ret
                exact ⟨ret_bool HNO.out.symm, below_iter _ _ _⟩
              · have hz1 : ((pos : Int) == 0) = false := by simp; omega
                by_cases hi : (48 ≤ (s[pos]'hp).toNat ∧ (s[pos]'hp).toNat ≤ 57) ∨ (s[pos]'hp).toNat = 45
                · have hok : okAt pos s[pos] = true := by simp [okAt, inB, hz]; right; omega
                  have hst := allOk_step HA.out hc hok
                  have HST := Lib.hid hst
                  have HI := Lib.hid hi
                  have HZ := Lib.hid hz
                  clear hst hok hc hi hz
                  go_wp2_with (first
                    | (go_at_call 79; ((with_reducible refine (letter_no _ _ (by omega)).mono ?_); rintro e w' ⟨rfl, rfl⟩))
                    | (go_at_call 80; ((with_reducible refine (inner_yes _ _ (by have := HI.out; omega)).mono ?_); rintro e w' ⟨rfl, rfl⟩)))
                  go_roundw
                  case rel => exact ⟨pos + 1, by omega, rfl, HST⟩
                  case measure => simp only [World.iterPos_iter]; omega
                · have hok : okAt pos s[pos] = false := by simp [okAt, upB, inB]; omega
                  have hno := rightL_no hc hok
                  have HNO := Lib.hid hno
                  have HI := Lib.hid hi
                  have HZ := Lib.hid hz
                  clear hno hok hc hi hz
                  go_wp2_with (first
                    | (go_at_call 79; ((with_reducible refine (letter_no _ _ (by omega)).mono ?_); rintro e w' ⟨rfl, rfl⟩))
                    | (go_at_call 80; ((with_reducible refine (inner_no _ _ (by have := HI.out; omega)).mono ?_); rintro e w' ⟨rfl, rfl⟩)))
                  go_ret
                  exact ⟨ret_bool HNO.out.symm, below_iter _ _ _⟩
          · have hnx := fun ty => run_next_any (P := Try.prog) w s pos ty hp
            have hc := get_list s pos hp
            obtain ⟨hd1, hd2⟩ := decode_high s pos hp (by omega)
            have hd3 := decode_le s pos
            have hok : okAt pos s[pos] = false := by simp [okAt, upB, inB]; omega
            have hno := rightL_no hc hok
            have HNO := Lib.hid hno
            clear hno hok hc
            generalize (Utf8.decode s pos).1 = r at hnx hd1 hd3
            generalize (Utf8.decode s pos).2 = n at hnx hd2
            by_cases hz : pos = 0
            · subst hz
              go_wp2_with (go_at_call 79; ((with_reducible refine (letter_no _ _ (by omega)).mono ?_); rintro e w' ⟨rfl, rfl⟩))
              go_ret
              exact ⟨ret_bool HNO.out.symm, below_iter _ _ _⟩
            · have hz1 : ((pos : Int) == 0) = false := by simp; omega
              have HZ := Lib.hid hz
              clear hz
              go_wp2_with (first
                | (go_at_call 79; ((with_reducible refine (letter_no _ _ (by omega)).mono ?_); rintro e w' ⟨rfl, rfl⟩))
                | (go_at_call 80; ((with_reducible refine (inner_no _ _ (by omega)).mono ?_); rintro e w' ⟨rfl, rfl⟩)))
              go_ret
              exact ⟨ret_bool HNO.out.symm, below_iter _ _ _⟩
        · have hnx := fun ty => run_next_end (P := Try.prog) w s pos ty hp
          have hall : rightL s.data.toList = true := rightL_mk (by rw [size_list]; exact hs1) (by rw [size_list]; exact hs2) (by have := HA.out; rwa [List.take_of_length_le (by rw [size_list]; omega)] at this)
          have HALL := Lib.hid hall
          clear hall
          go_wp2
          go_ret
          exact ⟨ret_bool HALL.out.symm, below_iter _ _ _⟩
    · have hno : rightL s.data.toList = false := rightL_long (by rw [size_list]; omega)
      have HNO := Lib.hid hno
      have hd : decide (12 < s.size) = true := decide_eq_true (by omega)
      clear hno
      go_enter Try.func68, Try.ntmps68
      go_wp2_with fail
      go_ret
      exact ⟨ret_bool HNO.out.symm, Below.refl _ _⟩
  · have hno : rightL s.data.toList = false := rightL_short (by rw [size_list]; omega)
    have HNO := Lib.hid hno
    have hd : decide (s.size < 1) = true := decide_eq_true (by omega)
    clear hno
    go_enter Try.func68, Try.ntmps68
    go_wp2_with fail
    go_ret
    exact ⟨ret_bool HNO.out.symm, Below.refl _ _⟩
end Go.Proofs.Ytddnfikjfmfhfaa
end
section
/- Words for memory: lots as cells, lists of lots that lie somewhere. No walk. -/
namespace Go.Proofs.Ytddnfikjfmfhfaa
open Go.RowKit
set_option linter.unusedVariables false

theorem addr_block (a : Addr) (n : Nat) : (a.add n).block = a.block := by unfold Addr.add; split <;> rfl
theorem addr_add (a : Addr) (i j : Nat) : (a.add i).add j = a.add (i + j) := by
  by_cases hi : i = 0
  · subst hi; simp [Addr.add]
  · by_cases hj : j = 0
    · subst hj; simp [Addr.add]
    · unfold Addr.add; simp [hi, hj, Nat.add_assoc]
theorem addr0 (g k : Nat) : (⟨g, 0, none⟩ : Addr).add k = ⟨g, k, none⟩ := by unfold Addr.add; split <;> simp_all

/-- From A on lie the cells xs, below block B. (Of no cells nothing is asked.) -/
def Lies (w : World) (B : Nat) (A : Option Addr) (xs : List Value) : Prop :=
  xs ≠ [] → ∃ ad, A = some ad ∧ ad.block < B ∧ ∀ j u, xs[j]? = some u → w.cell? (ad.add j) = some u

section
variable {w w' : World} {B B' : Nat} {A : Option Addr} {xs : List Value}
theorem Lies.none : Lies w B A [] := fun h => absurd rfl h
theorem Lies.keep (h : Lies w B A xs) (hk : ∀ p : Addr, p.block < B → w'.cell? p = w.cell? p) : Lies w' B A xs := fun hne => by
  obtain ⟨ad, hA, hb, hc⟩ := h hne
  exact ⟨ad, hA, hb, fun j u hu => (hk _ (by rw [addr_block]; exact hb)).trans (hc j u hu)⟩
theorem Lies.mono (h : Lies w B A xs) (hB : B ≤ B') : Lies w B' A xs := fun hne => by
  obtain ⟨ad, hA, hb, hc⟩ := h hne
  exact ⟨ad, hA, Nat.lt_of_lt_of_le hb hB, hc⟩
theorem Lies.below (h : Lies w B A xs) (hb : Below B w w') : Lies w' B A xs := h.keep fun _ hp => hb.cell hp
theorem Lies.get (h : Lies w B A xs) {j : Nat} {u : Value} (hj : xs[j]? = some u) : ∃ ad, A = some ad ∧ ad.block < B ∧ w.cell? (ad.add j) = some u := by
  obtain ⟨ad, hA, hb, hc⟩ := h (by rintro rfl; simp at hj)
  exact ⟨ad, hA, hb, hc j u hj⟩
theorem Lies.take_ (h : Lies w B A xs) (k : Nat) : Lies w B A (xs.take k) := fun hne => by
  obtain ⟨ad, rfl, hb, hc⟩ := h (by rintro rfl; simp at hne)
  exact ⟨ad, rfl, hb, fun j u hu => hc j u (by
    rw [List.getElem?_take] at hu
    split at hu
    · exact hu
    · cases hu)⟩
/-- What the call owns lies. -/
theorem Lies.own {base e size n c : Nat} (h : w.ownsRow base e size (.slice A n c) n xs) : Lies w w.heap.size A xs := fun hne => by
  have hlt := h.lt
  have hcells := h.cells (g := (Value.slice A n c).ownBlock.getD 0)
  rcases h.2 with ⟨hv, rfl⟩ | ⟨g, cap, cur, hv, _, hh, _⟩
  · exact absurd (List.eq_nil_of_length_eq_zero (by simpa using h.1)) hne
  · injection hv with hA
    subst hA
    exact ⟨_, rfl, (hlt g rfl).2, h.cells (g := g) rfl⟩
end

theorem own_form {w : World} {base e size n : Nat} {v : Value} {xs : List Value} (h : w.ownsRow base e size v n xs) : ∃ A c, v = .slice A n c ∧ n ≤ c ∧ c ≤ maxLen ∧ (A = none → c = 0) := by
  rcases h.2 with ⟨hv, rfl⟩ | ⟨g, cap, cur, hv, _, _, h1, h2, _⟩
  · exact ⟨none, 0, hv, Nat.le_refl _, by simp [maxLen], fun _ => rfl⟩
  · exact ⟨_, _, hv, h1, h2, fun h => by cases h⟩

/-! ### lots -/
structure Lt where
  id : Int
  item : List UInt8
  fr : Int
  un : Int
  qty : Int
  arr : Bool
theorem Lt.ext_ {a b : Lt} (h1 : a.id = b.id) (h2 : a.item = b.item) (h3 : a.fr = b.fr) (h4 : a.un = b.un) (h5 : a.qty = b.qty) (h6 : a.arr = b.arr) : a = b := by
  cases a; cases b; simp_all
instance : DecidableEq Lt := fun a b =>
  if h : a.id = b.id ∧ a.item = b.item ∧ a.fr = b.fr ∧ a.un = b.un ∧ a.qty = b.qty ∧ a.arr = b.arr then isTrue (Lt.ext_ h.1 h.2.1 h.2.2.1 h.2.2.2.1 h.2.2.2.2.1 h.2.2.2.2.2)
  else isFalse (fun e => h (by subst e; exact ⟨rfl, rfl, rfl, rfl, rfl, rfl⟩))
instance : Inhabited Lt := ⟨⟨0, [], 0, 0, 0, false⟩⟩

abbrev strV (s : List UInt8) : Value := .string ⟨s.toArray⟩
def encL (x : Lt) : List Value := [.int .i64 x.id, strV x.item, .int .i64 x.fr, .int .i64 x.un, .int .i64 x.qty, .bool x.arr]
theorem encL_length (x : Lt) : (encL x).length = 6 := rfl
theorem encL_one (x : Lt) : ∀ v ∈ encL x, v.oneCell' = true := fun v hv => by
  simp only [encL, List.mem_cons, List.not_mem_nil, or_false] at hv
  rcases hv with rfl | rfl | rfl | rfl | rfl | rfl <;> rfl
/-- A lot as it is handed by value. -/
abbrev aggL (x : Lt) : Value := .agg #[.int .i64 x.id, strV x.item, .int .i64 x.fr, .int .i64 x.un, .int .i64 x.qty, .bool x.arr]

def lcells : List Lt → List Value
  | [] => []
  | x :: l => encL x ++ lcells l
theorem lcells_length : ∀ l : List Lt, (lcells l).length = l.length * 6
  | [] => rfl
  | x :: l => by simp [lcells, encL_length, lcells_length l]; omega
theorem lcells_append : ∀ l m : List Lt, lcells (l ++ m) = lcells l ++ lcells m
  | [], m => rfl
  | x :: l, m => by simp [lcells, lcells_append l m]
theorem lcells_get : ∀ (l : List Lt) (k : Nat) (x : Lt), l[k]? = some x → ∀ c, c < 6 → (lcells l)[k * 6 + c]? = (encL x)[c]?
  | [], k, x, h, c, hc => by simp at h
  | y :: l, 0, x, h, c, hc => by
    simp at h; subst h
    simp only [lcells, Nat.zero_mul, Nat.zero_add]
    rw [List.getElem?_append_left (by simpa [encL_length] using hc)]
  | y :: l, k + 1, x, h, c, hc => by
    have := lcells_get l k x (by simpa using h) c hc
    rw [show (k + 1) * 6 + c = (encL y).length + (k * 6 + c) by rw [encL_length]; omega]
    simp only [lcells]
    rw [List.getElem?_append_right (by omega), Nat.add_sub_cancel_left]
    exact this
theorem lcells_one : ∀ (l : List Lt), ∀ u ∈ lcells l, u.oneCell' = true
  | [], u, h => by simp [lcells] at h
  | x :: l, u, h => by
    simp only [lcells, List.mem_append] at h
    rcases h with h | h
    · exact encL_one x u h
    · exact lcells_one l u h
theorem lcells_take (l : List Lt) (k : Nat) (hk : k ≤ l.length) : (lcells l).take (k * 6) = lcells (l.take k) := by
  have h := lcells_append (l.take k) (l.drop k)
  rw [List.take_append_drop] at h
  rw [h, List.take_append_of_le_length (by rw [lcells_length, List.length_take]; omega), List.take_of_length_le (by rw [lcells_length, List.length_take]; omega)]

/-- A slice value that reads as lots. -/
def LSl (w : World) (B : Nat) (v : Value) (l : List Lt) : Prop := ∃ A c, v = .slice A l.length c ∧ l.length ≤ c ∧ c ≤ maxLen ∧ (A = none → c = 0) ∧ Lies w B A (lcells l)
theorem LSl.below {w w' : World} {B : Nat} {v : Value} {l : List Lt} (h : LSl w B v l) (hb : Below B w w') : LSl w' B v l := by
  obtain ⟨A, c, h1, h2, h3, hz, h4⟩ := h
  exact ⟨A, c, h1, h2, h3, hz, h4.below hb⟩
theorem LSl.mono {w : World} {B B' : Nat} {v : Value} {l : List Lt} (h : LSl w B v l) (hB : B ≤ B') : LSl w B' v l := by
  obtain ⟨A, c, h1, h2, h3, hz, h4⟩ := h
  exact ⟨A, c, h1, h2, h3, hz, h4.mono hB⟩
theorem LSl.own {w : World} {base e : Nat} {v : Value} {l : List Lt} (h : w.ownsRow base e 6 v l.length (lcells l)) : LSl w w.heap.size v l := by
  obtain ⟨A, c, rfl, h1, h2, hz⟩ := own_form h
  exact ⟨A, c, rfl, h1, h2, hz, Lies.own h⟩
theorem LSl.nil {w : World} {B : Nat} : LSl w B (.slice none 0 0) [] := ⟨none, 0, rfl, Nat.le_refl _, by simp [maxLen], fun _ => rfl, Lies.none⟩
theorem LSl.at_ {w W : World} {v : Value} {l : List Lt} (h : LSl w w.heap.size v l) (hb : Below w.heap.size w W) : LSl W W.heap.size v l := (h.below hb).mono hb.size

/-- The six cells of a lot, at p and behind it. -/
def Six (w : World) (p : Addr) (x : Lt) : Prop :=
  w.cell? p = some (.int .i64 x.id) ∧ w.cell? ⟨p.block, p.off + 1, none⟩ = some (strV x.item) ∧ w.cell? ⟨p.block, p.off + 2, none⟩ = some (.int .i64 x.fr) ∧
  w.cell? ⟨p.block, p.off + 3, none⟩ = some (.int .i64 x.un) ∧ w.cell? ⟨p.block, p.off + 4, none⟩ = some (.int .i64 x.qty) ∧ w.cell? ⟨p.block, p.off + 5, none⟩ = some (.bool x.arr)
theorem addr_up (p : Addr) (c : Nat) (hc : c ≠ 0) : p.add c = ⟨p.block, p.off + c, none⟩ := by unfold Addr.add; rw [if_neg hc]
theorem Lies.six {w : World} {B : Nat} {A : Option Addr} {l : List Lt} (h : Lies w B A (lcells l)) {k : Nat} {x : Lt} (hk : l[k]? = some x) :
    ∃ ad, A = some ad ∧ ad.block < B ∧ Six w (ad.add (k * 6)) x := by
  have hlt := (List.getElem?_eq_some_iff.1 hk).1
  obtain ⟨ad, hA, hb, hc⟩ := h (by intro e; have := lcells_length l; rw [e] at this; simp at this; omega)
  have g : ∀ c u, c < 6 → (encL x)[c]? = some u → w.cell? ((ad.add (k * 6)).add c) = some u := fun c u hc6 hu => by
    rw [addr_add]
    exact hc _ u (by rw [lcells_get l k x hk c hc6]; exact hu)
  refine ⟨ad, hA, hb, ?_, ?_, ?_, ?_, ?_, ?_⟩
  · have := g 0 _ (by omega) rfl; simpa [Addr.add] using this
  · have := g 1 _ (by omega) rfl; rwa [addr_up _ _ (by omega)] at this
  · have := g 2 _ (by omega) rfl; rwa [addr_up _ _ (by omega)] at this
  · have := g 3 _ (by omega) rfl; rwa [addr_up _ _ (by omega)] at this
  · have := g 4 _ (by omega) rfl; rwa [addr_up _ _ (by omega)] at this
  · have := g 5 _ (by omega) rfl; rwa [addr_up _ _ (by omega)] at this
theorem Six.below {w w' : World} {B : Nat} {p : Addr} {x : Lt} (h : Six w p x) (hp : p.block < B) (hb : Below B w w') : Six w' p x := by
  obtain ⟨a, b, c, d, e, f⟩ := h
  exact ⟨(hb.cell hp).trans a, (hb.cell (p := ⟨p.block, p.off + 1, none⟩) hp).trans b, (hb.cell (p := ⟨p.block, p.off + 2, none⟩) hp).trans c, (hb.cell (p := ⟨p.block, p.off + 3, none⟩) hp).trans d, (hb.cell (p := ⟨p.block, p.off + 4, none⟩) hp).trans e, (hb.cell (p := ⟨p.block, p.off + 5, none⟩) hp).trans f⟩

/-- A lot whose fields a program can hold. -/
def Lt.Fits (x : Lt) : Prop := -9223372036854775808 ≤ x.id ∧ x.id ≤ 9223372036854775807 ∧ x.item.length ≤ maxLen ∧ -9223372036854775808 ≤ x.fr ∧ x.fr ≤ 9223372036854775807 ∧ -9223372036854775808 ≤ x.un ∧ x.un ≤ 9223372036854775807 ∧ -9223372036854775808 ≤ x.qty ∧ x.qty ≤ 9223372036854775807
def Sized (l : List Lt) : Prop := ∀ x ∈ l, x.Fits

theorem below_draws {B : Nat} {a w : World} (h : Below B a w) (n : Nat) : Below B a (w.drewN n) := ⟨h.os, h.tape, h.output, h.size, h.block⟩
theorem fresh_cell (w : World) (cs : Array Value) (t : TypeId) (j : Nat) : (w.alloc (.cells cs t)).cell? ((⟨w.heap.size, 0, none⟩ : Addr).add j) = cs[j]? := by
  have e : (⟨w.heap.size, 0, none⟩ : Addr).add j = ⟨w.heap.size, j, none⟩ := addr0 _ _
  rw [e, cell_of_row _ _ _ _ _ _ (heap_alloc_new w _)]
/-- What is made lies. -/
theorem Lies.fresh (w : World) (cs : Array Value) (t : TypeId) (xs : List Value) (h : cs.toList = xs) : Lies (w.alloc (.cells cs t)) (w.heap.size + 1) (some ⟨w.heap.size, 0, Option.none⟩) xs := fun _ =>
  ⟨_, rfl, Nat.lt_succ_self _, fun j u hu => by rw [fresh_cell, ← hu, ← h, Array.getElem?_toList]⟩
theorem Lies.alloc_ {w : World} {B : Nat} {A : Option Addr} {xs : List Value} (h : Lies w B A xs) (hB : B ≤ w.heap.size) (o : Obj) : Lies (w.alloc o) B A xs := h.below ((Below.refl _ _).alloc hB o)
theorem LSl.alloc_ {w : World} {B : Nat} {v : Value} {l : List Lt} (h : LSl w B v l) (hB : B ≤ w.heap.size) (o : Obj) : LSl (w.alloc o) B v l := h.below ((Below.refl _ _).alloc hB o)
end Go.Proofs.Ytddnfikjfmfhfaa
end
section
/- Maps whose elements are taken as they stand: what is looked up, what is put. No walk. -/
namespace Go.Proofs.Ytddnfikjfmfhfaa
open Go.ChangeShapes Go.WideShapes Go.ChangeAt Go.RowKit Go.Maps
set_option linter.unusedVariables false

def rawE (v : Value) : Option (DataW Value × List MemPlace) := some (.held v, [])
def updK {κ : Type} [DecidableEq κ] (f : κ → Value) (x : κ) (v : Value) (y : κ) : Value := if y = x then v else f y
theorem updK_same {κ : Type} [DecidableEq κ] (f : κ → Value) (x : κ) (v : Value) : updK f x v x = v := by simp [updK]
theorem updK_other {κ : Type} [DecidableEq κ] (f : κ → Value) (x : κ) (v : Value) (y : κ) (h : y ≠ x) : updK f x v y = f y := by simp [updK, h]

/-- Block b is a map that says f, and z where it has no key; S: the keys that it has. -/
def MapOf {κ : Type} (kl : κ → Lit) (P : Program) (k : TypeId) (z : Value) (w : World) (b n : Nat) (f : κ → Value) (S : κ → Prop) : Prop :=
  ∃ D : DataW Value, w.ownsMap P k rawE b n D ∧ (∀ x, D.atKey (kl x) (.held z) = .held (f x)) ∧ ∀ x, Maps.has D (kl x) = true ↔ S x

/-- Keys that are told apart. -/
structure KeyLits {κ : Type} (kl : κ → Lit) : Prop where
  inj : ∀ x y, kl x = kl y → x = y
  key : ∀ x, WideAt.IsKeyLit (kl x)
theorem strKeyLits : KeyLits (fun s : List UInt8 => Lit.string s) := ⟨fun x y h => by simpa using h, fun x => by simp [WideAt.IsKeyLit]⟩
theorem intKeyLits : KeyLits (fun n : Int => Lit.int .i64 n) := ⟨fun x y h => by simpa using h, fun x => by simp [WideAt.IsKeyLit]⟩

section
variable {κ : Type} {kl : κ → Lit} {P : Program} {k : TypeId} {z : Value} {w w' : World} {b n : Nat} {f : κ → Value} {S : κ → Prop}
theorem mapOf_made (kl : κ → Lit) (P : Program) (k : TypeId) (z : Value) (w : World) : MapOf kl P k z (w.alloc (.map #[] 0)) w.heap.size 0 (fun _ => z) (fun _ => False) :=
  ⟨_, World.ownsMap_made _ _ _ _, fun _ => rfl, fun x => by simp [Maps.has]⟩
theorem MapOf.kept {row : Option Nat} (h : MapOf kl P k z w b n f S) (hg : w.grownBy w' row) (hne : some b ≠ row) : MapOf kl P k z w' b n f S := by
  obtain ⟨D, h1, h2⟩ := h
  exact ⟨D, h1.kept hg hne, h2⟩
theorem MapOf.alloc (h : MapOf kl P k z w b n f S) (o : Obj) : MapOf kl P k z (w.alloc o) b n f S := h.kept (World.grownBy_alloc w o none) (by simp)
theorem MapOf.below (h : MapOf kl P k z w b n f S) (hb : Below w.heap.size w w') : MapOf kl P k z w' b n f S :=
  h.kept (row := none) ⟨hb.os, hb.tape, hb.output, hb.size, fun i hi _ => hb.block i hi⟩ (by simp)
theorem MapOf.lt (h : MapOf kl P k z w b n f S) : b < w.heap.size := by obtain ⟨D, h1, _⟩ := h; exact h1.lt
theorem MapOf.mono {n' : Nat} (h : MapOf kl P k z w b n f S) (hn : n ≤ n') : MapOf kl P k z w b n' f S := by obtain ⟨D, h1, h2⟩ := h; exact ⟨D, h1.mono hn, h2⟩
theorem MapOf.cell (h : MapOf kl P k z w b n f S) {a : Addr} (ha : b ≠ a.block) (u : Value) : MapOf kl P k z (w.setCell a u) b n f S := by
  obtain ⟨D, h1, h2⟩ := h
  exact ⟨D, h1.setCell ha u, h2⟩
theorem MapOf.look {t e : TypeId} (h : MapOf kl P k z w b n f S) (K : Keyed P k) (ht : P.underlying t = some (.map k e)) (hz : (zeroValue e).run P w = .ok z w) {key : Value} {x : κ} (hkey : keyOf P k key = some (kl x)) :
    (Instr.lookup t (.map (some b)) key false).run P w = .ok (f x) w := by
  obtain ⟨D, h1, h2, _⟩ := h
  obtain ⟨v, ps, hr, hv⟩ := h1.lookup (zp := []) K ht hz (by rfl : rawE z = some (.held z, [])) hkey
  rw [h2] at hv
  simp only [rawE, Option.some.injEq, Prod.mk.injEq, DataW.held.injEq] at hv
  rw [hr, hv.1]
theorem ownsMap_lower {R : Value → Option (DataW Value × List MemPlace)} {n' : Nat} {D : DataW Value} (h : w.ownsMap P k R b n' D) (hs : Maps.size D ≤ n) : w.ownsMap P k R b n D := by
  obtain ⟨es, clock, hb, F, _, rfl⟩ := h
  exact ⟨es, clock, hb, F, by simpa [Maps.size, length_sorted] using hs, rfl⟩
theorem MapOf.put [DecidableEq κ] {t e : TypeId} (h : MapOf kl P k z w b n f S) (L : KeyLits kl) (K : Keyed P k) (ht : P.underlying t = some (.map k e)) (hn : n < maxLen) {key val : Value} {x : κ} (hkey : keyOf P k key = some (kl x)) :
    ∃ w', (Instr.mapUpdate t (.map (some b)) key val).run P w = .ok () w' ∧ MapOf kl P k z w' b (n + 1) (updK f x val) (fun y => y = x ∨ S y) ∧ w.grownBy w' (some b) := by
  obtain ⟨D, h1, h2, h3⟩ := h
  obtain ⟨w', hr, h4, hg⟩ := h1.update K ht hn hkey (by rfl : rawE val = some (.held val, []))
  refine ⟨w', hr, ⟨_, h4, fun y => ?_, fun y => ?_⟩, hg⟩
  · by_cases e : y = x
    · subst e; rw [updK_same, atKey_put_same h1.isMap (L.key _)]
    · rw [updK_other _ _ _ _ e, atKey_put_other (fun e' => e (L.inj _ _ e')), h2]
  · by_cases e : y = x
    · subst e; rw [has_put_same h1.isMap (L.key _)]; simp
    · rw [has_put_other (fun e' => e (L.inj _ _ e')), h3]; simp [e]
/-- .. at a key that is there already: no more room is taken. -/
theorem MapOf.put_old [DecidableEq κ] {t e : TypeId} (h : MapOf kl P k z w b n f S) (L : KeyLits kl) (K : Keyed P k) (ht : P.underlying t = some (.map k e)) (hn : n < maxLen) {key val : Value} {x : κ} (hx : S x) (hkey : keyOf P k key = some (kl x)) :
    ∃ w', (Instr.mapUpdate t (.map (some b)) key val).run P w = .ok () w' ∧ MapOf kl P k z w' b n (updK f x val) S ∧ w.grownBy w' (some b) := by
  obtain ⟨D, h1, h2, h3⟩ := h
  obtain ⟨w', hr, h4, hg⟩ := h1.update K ht hn hkey (by rfl : rawE val = some (.held val, []))
  have hsz : Maps.size (D.put (kl x) (.held val)) ≤ n := by
    rw [size_put (h1.tidy K), (h3 x).2 hx]
    exact h1.size_le
  refine ⟨w', hr, ⟨_, ownsMap_lower h4 hsz, fun y => ?_, fun y => ?_⟩, hg⟩
  · by_cases e : y = x
    · subst e; rw [updK_same, atKey_put_same h1.isMap (L.key _)]
    · rw [updK_other _ _ _ _ e, atKey_put_other (fun e' => e (L.inj _ _ e')), h2]
  · by_cases e : y = x
    · subst e; rw [has_put_same h1.isMap (L.key _)]; simp [hx]
    · rw [has_put_other (fun e' => e (L.inj _ _ e')), h3]
end

/-- The store at the operation, for the walk. -/
theorem wpList_put {κ : Type} [DecidableEq κ] {kl : κ → Lit} {P : Program} (w : World) {ops : Array Oper} {rest : List Oper} {o : Oper} {a : Act} {Q : Exit → Act → World → Prop}
    (hg : o.guard = none) (m x v : Operand) (t : TypeId) (hop : o.op = Op.mapUpdate t m x v) (k e : TypeId) (L : KeyLits kl) (K : Keyed P k) (ht : P.underlying t = some (.map k e)) (z : Value) (b n : Nat) (f : κ → Value) (S : κ → Prop)
    (hm : a.eval m = .map (some b)) (hown : MapOf kl P k z w b n f S) (hn : n < maxLen) (key val : Value) (y : κ) (hx : a.eval x = key) (hv : a.eval v = val) (hkey : keyOf P k key = some (kl y))
    (hK : ∀ w', MapOf kl P k z w' b (n + 1) (updK f y val) (fun u => u = y ∨ S u) → w.grownBy w' (some b) → wpList P ops Q rest (a.put o.dst undef) w') :
    wpList P ops Q (o :: rest) a w := by
  refine wpList_plain hg fun K' hK' => ?_
  obtain ⟨w', hrun, r1, r2⟩ := hown.put L K ht hn (val := val) hkey
  unfold Oper.wp
  simp [execOp, hop, hm, hx, hv, hrun, Result.andThen]
  exact hK' _ _ (hK w' r1 r2)
theorem wpList_put_old {κ : Type} [DecidableEq κ] {kl : κ → Lit} {P : Program} (w : World) {ops : Array Oper} {rest : List Oper} {o : Oper} {a : Act} {Q : Exit → Act → World → Prop}
    (hg : o.guard = none) (m x v : Operand) (t : TypeId) (hop : o.op = Op.mapUpdate t m x v) (k e : TypeId) (L : KeyLits kl) (K : Keyed P k) (ht : P.underlying t = some (.map k e)) (z : Value) (b n : Nat) (f : κ → Value) (S : κ → Prop)
    (hm : a.eval m = .map (some b)) (hown : MapOf kl P k z w b n f S) (hn : n < maxLen) (key val : Value) (y : κ) (hy : S y) (hx : a.eval x = key) (hv : a.eval v = val) (hkey : keyOf P k key = some (kl y))
    (hK : ∀ w', MapOf kl P k z w' b n (updK f y val) S → w.grownBy w' (some b) → wpList P ops Q rest (a.put o.dst undef) w') :
    wpList P ops Q (o :: rest) a w := by
  refine wpList_plain hg fun K' hK' => ?_
  obtain ⟨w', hrun, r1, r2⟩ := hown.put_old L K ht hn (val := val) hy hkey
  unfold Oper.wp
  simp [execOp, hop, hm, hx, hv, hrun, Result.andThen]
  exact hK' _ _ (hK w' r1 r2)
/-- The store at a step of a region that draws its order. -/
theorem step_put {κ : Type} [DecidableEq κ] {kl : κ → Lit} {P : Program} {w : World} {ops : Array Oper} {o : Oper} {a : Act} {K' : Act → World → Prop} {Q : Exit → Act → World → Prop} {E : Prop}
    (hg : o.guard = none) (m x v : Operand) (t : TypeId) (hop : o.op = Op.mapUpdate t m x v) (k e : TypeId) (L : KeyLits kl) (K : Keyed P k) (ht : P.underlying t = some (.map k e)) (z : Value) (b n : Nat) (f : κ → Value) (S : κ → Prop)
    (hm : a.eval m = .map (some b)) (hown : MapOf kl P k z w b n f S) (hn : n < maxLen) (key val : Value) (y : κ) (hx : a.eval x = key) (hv : a.eval v = val) (hkey : keyOf P k key = some (kl y))
    (hK : ∀ w', MapOf kl P k z w' b (n + 1) (updK f y val) (fun u => u = y ∨ S u) → w.grownBy w' (some b) → K' (a.put o.dst undef) w') :
    if Region.wanted o (yielded ops a.tmps) = true then Oper.wp P o a w K' Q else E := by
  have hw : Region.wanted o (yielded ops a.tmps) = true := by simp [Region.wanted, hg]
  rw [if_pos hw]
  obtain ⟨w', hrun, r1, r2⟩ := hown.put L K ht hn (val := val) hkey
  unfold Oper.wp
  simp [execOp, hop, hm, hx, hv, hrun, Result.andThen]
  exact hK w' r1 r2
theorem step_put_old {κ : Type} [DecidableEq κ] {kl : κ → Lit} {P : Program} {w : World} {ops : Array Oper} {o : Oper} {a : Act} {K' : Act → World → Prop} {Q : Exit → Act → World → Prop} {E : Prop}
    (hg : o.guard = none) (m x v : Operand) (t : TypeId) (hop : o.op = Op.mapUpdate t m x v) (k e : TypeId) (L : KeyLits kl) (K : Keyed P k) (ht : P.underlying t = some (.map k e)) (z : Value) (b n : Nat) (f : κ → Value) (S : κ → Prop)
    (hm : a.eval m = .map (some b)) (hown : MapOf kl P k z w b n f S) (hn : n < maxLen) (key val : Value) (y : κ) (hy : S y) (hx : a.eval x = key) (hv : a.eval v = val) (hkey : keyOf P k key = some (kl y))
    (hK : ∀ w', MapOf kl P k z w' b n (updK f y val) S → w.grownBy w' (some b) → K' (a.put o.dst undef) w') :
    if Region.wanted o (yielded ops a.tmps) = true then Oper.wp P o a w K' Q else E := by
  have hw : Region.wanted o (yielded ops a.tmps) = true := by simp [Region.wanted, hg]
  rw [if_pos hw]
  obtain ⟨w', hrun, r1, r2⟩ := hown.put_old L K ht hn (val := val) hy hkey
  unfold Oper.wp
  simp [execOp, hop, hm, hx, hv, hrun, Result.andThen]
  exact hK w' r1 r2

theorem skeyed : Keyed Try.prog 9 := string_keyed Try.underlying9
theorem ikeyed : Keyed Try.prog 3 := int_keyed Try.underlying3
theorem skey_of (s : List UInt8) (h : s.length ≤ maxLen) : keyOf Try.prog 9 (.string ⟨s.toArray⟩) = some (.string s) := Go.WideMaps.keyOf_string_mk Try.underlying9 (by simpa [ByteArray.size] using h)
theorem ikey_of (n : Int) (h1 : -9223372036854775808 ≤ n) (h2 : n ≤ 9223372036854775807) : keyOf Try.prog 3 (.int .i64 n) = some (.int .i64 n) := keyOf_int_mk Try.underlying3 (WalkArith.wf_i64 ⟨h1, h2⟩)
end Go.Proofs.Ytddnfikjfmfhfaa
end
section
/- The contract of the reference's Right. -/
namespace Go.Proofs.Ytddnfikjfmfhfaa
open Go.ChangeShapes Go.WideShapes Go.ChangeAt Go.RowKit
set_option linter.unusedVariables false

set_option maxHeartbeats 2000000 in
theorem rright_any (s : ByteArray) (w : World) :
    Calls Try.prog 64 #[.string s] w fun e w' => e = .returned (.bool (rightL s.data.toList)) ∧ w = w' := by
  by_cases hs1 : 1 ≤ s.size
  · by_cases hs2 : s.size ≤ 12
    · go_enter Try.func64, Try.ntmps64
      go_wp2_with fail
      go_loop [3] (fun i => ∃ pos : Nat, pos ≤ s.size ∧ i = .int .i64 pos ∧ Hid (allOk 0 (s.data.toList.take pos) = true)) (fun i => s.size - (intOf i).toNat)
      case atStart => exact ⟨0, Nat.zero_le _, rfl, Lib.hid rfl⟩
      case round =>
        obtain ⟨pos, hpos, rfl, HA⟩ := hrel
        by_cases hp : pos < s.size
        · have hc := get_list s pos hp
          by_cases hu : 65 ≤ (s[pos]'hp).toNat ∧ (s[pos]'hp).toNat ≤ 90
          · have hok : okAt pos s[pos] = true := by simp [okAt, upB, hu]
            have hst := allOk_step HA.out hc hok
            have HST := Lib.hid hst
            have hd1 : decide ((48 : Int) ≤ ((s[pos]'hp).toNat : Int)) = true := decide_eq_true (by omega)
            have hd2 : decide (((s[pos]'hp).toNat : Int) ≤ 57) = false := decide_eq_false (by omega)
            have hd3 : (((s[pos]'hp).toNat : Int) == 45) = false := by simp; omega
            clear hst hok hc
            go_wp2
            go_round
            case rel => exact ⟨pos + 1, by omega, by go_num, HST⟩
            case measure => simp [intOf]; omega
          · by_cases hB : 90 < (s[pos]'hp).toNat
            · by_cases hz : pos = 0
              · subst hz
                have hok : okAt 0 s[0] = false := by simp [okAt, upB]; omega
                have hno := rightL_no hc hok
                have HNO := Lib.hid hno
                have hd0 : decide ((65 : Int) ≤ ((s[0]'hp).toNat : Int)) = true := decide_eq_true (by omega)
                have hd1 : decide (((s[0]'hp).toNat : Int) ≤ 90) = false := decide_eq_false (by omega)
                have hd2 : decide ((48 : Int) ≤ ((s[0]'hp).toNat : Int)) = true := decide_eq_true (by omega)
                have hd3 : decide (((s[0]'hp).toNat : Int) ≤ 57) = false := decide_eq_false (by omega)
                have hd4 : (((s[0]'hp).toNat : Int) == 45) = false := by simp; omega
                clear hno hok hc
                go_wp2
                go_ret
                exact ⟨ret_bool HNO.out.symm, rfl⟩
              · have hz1 : ((pos : Int) == 0) = false := by simp; omega
                have hok : okAt pos s[pos] = false := by simp [okAt, upB, inB]; omega
                have hno := rightL_no hc hok
                have HNO := Lib.hid hno
                have hd0 : decide ((65 : Int) ≤ ((s[pos]'hp).toNat : Int)) = true := decide_eq_true (by omega)
                have hd1 : decide (((s[pos]'hp).toNat : Int) ≤ 90) = false := decide_eq_false (by omega)
                have hd2 : decide ((48 : Int) ≤ ((s[pos]'hp).toNat : Int)) = true := decide_eq_true (by omega)
                have hd3 : decide (((s[pos]'hp).toNat : Int) ≤ 57) = false := decide_eq_false (by omega)
                have hd4 : (((s[pos]'hp).toNat : Int) == 45) = false := by simp; omega
                have HZ := Lib.hid hz
                clear hno hok hc hz
                go_wp2
                go_ret
                exact ⟨ret_bool HNO.out.symm, rfl⟩
            · by_cases hC : 57 < (s[pos]'hp).toNat
              · by_cases hz : pos = 0
                · subst hz
                  have hok : okAt 0 s[0] = false := by simp [okAt, upB]; omega
                  have hno := rightL_no hc hok
                  have HNO := Lib.hid hno
                  have hd0 : decide ((65 : Int) ≤ ((s[0]'hp).toNat : Int)) = false := decide_eq_false (by omega)
                  have hd1 : decide ((48 : Int) ≤ ((s[0]'hp).toNat : Int)) = true := decide_eq_true (by omega)
                  have hd2 : decide (((s[0]'hp).toNat : Int) ≤ 57) = false := decide_eq_false (by omega)
                  have hd3 : (((s[0]'hp).toNat : Int) == 45) = false := by simp; omega
                  clear hno hok hc
                  go_wp2
                  go_ret
                  exact ⟨ret_bool HNO.out.symm, rfl⟩
                · have hz1 : ((pos : Int) == 0) = false := by simp; omega
                  have hok : okAt pos s[pos] = false := by simp [okAt, upB, inB]; omega
                  have hno := rightL_no hc hok
                  have HNO := Lib.hid hno
                  have hd0 : decide ((65 : Int) ≤ ((s[pos]'hp).toNat : Int)) = false := decide_eq_false (by omega)
                  have hd1 : decide ((48 : Int) ≤ ((s[pos]'hp).toNat : Int)) = true := decide_eq_true (by omega)
                  have hd2 : decide (((s[pos]'hp).toNat : Int) ≤ 57) = false := decide_eq_false (by omega)
                  have hd3 : (((s[pos]'hp).toNat : Int) == 45) = false := by simp; omega
                  have HZ := Lib.hid hz
                  clear hno hok hc hz
                  go_wp2
                  go_ret
                  exact ⟨ret_bool HNO.out.symm, rfl⟩
              · by_cases hD : 48 ≤ (s[pos]'hp).toNat
                · by_cases hz : pos = 0
                  · subst hz
                    have hok : okAt 0 s[0] = false := by simp [okAt, upB]; omega
                    have hno := rightL_no hc hok
                    have HNO := Lib.hid hno
                    have hd0 : decide ((65 : Int) ≤ ((s[0]'hp).toNat : Int)) = false := decide_eq_false (by omega)
                    have hd1 : decide ((48 : Int) ≤ ((s[0]'hp).toNat : Int)) = true := decide_eq_true (by omega)
                    have hd2 : decide (((s[0]'hp).toNat : Int) ≤ 57) = true := decide_eq_true (by omega)
                    clear hno hok hc
                    go_wp2
                    go_ret
                    exact ⟨ret_bool HNO.out.symm, rfl⟩
                  · have hz1 : ((pos : Int) == 0) = false := by simp; omega
                    have hok : okAt pos s[pos] = true := by simp [okAt, inB, hz]; right; omega
                    have hst := allOk_step HA.out hc hok
                    have HST := Lib.hid hst
                    have hd0 : decide ((65 : Int) ≤ ((s[pos]'hp).toNat : Int)) = false := decide_eq_false (by omega)
                    have hd1 : decide ((48 : Int) ≤ ((s[pos]'hp).toNat : Int)) = true := decide_eq_true (by omega)
                    have hd2 : decide (((s[pos]'hp).toNat : Int) ≤ 57) = true := decide_eq_true (by omega)
                    have HZ := Lib.hid hz
                    clear hst hok hc hz
                    go_wp2
                    go_round
                    case rel => exact ⟨pos + 1, by omega, by go_num, HST⟩
                    case measure => simp [intOf]; omega
                · by_cases hF : (s[pos]'hp).toNat = 45
                  · by_cases hz : pos = 0
                    · subst hz
                      have hok : okAt 0 s[0] = false := by simp [okAt, upB]; omega
                      have hno := rightL_no hc hok
                      have HNO := Lib.hid hno
                      have hd0 : decide ((65 : Int) ≤ ((s[0]'hp).toNat : Int)) = false := decide_eq_false (by omega)
                      have hd1 : decide ((48 : Int) ≤ ((s[0]'hp).toNat : Int)) = false := decide_eq_false (by omega)
                      have hd2 : (((s[0]'hp).toNat : Int) == 45) = true := by simp; omega
                      clear hno hok hc
                      go_wp2
                      go_ret
                      exact ⟨ret_bool HNO.out.symm, rfl⟩
                    · have hz1 : ((pos : Int) == 0) = false := by simp; omega
                      have hok : okAt pos s[pos] = true := by simp [okAt, inB, hz]; right; omega
                      have hst := allOk_step HA.out hc hok
                      have HST := Lib.hid hst
                      have hd0 : decide ((65 : Int) ≤ ((s[pos]'hp).toNat : Int)) = false := decide_eq_false (by omega)
                      have hd1 : decide ((48 : Int) ≤ ((s[pos]'hp).toNat : Int)) = false := decide_eq_false (by omega)
                      have hd2 : (((s[pos]'hp).toNat : Int) == 45) = true := by simp; omega
                      have HZ := Lib.hid hz
                      clear hst hok hc hz
                      go_wp2
                      go_round
                      case rel => exact ⟨pos + 1, by omega, by go_num, HST⟩
                      case measure => simp [intOf]; omega
                  · by_cases hz : pos = 0
                    · subst hz
                      have hok : okAt 0 s[0] = false := by simp [okAt, upB]; omega
                      have hno := rightL_no hc hok
                      have HNO := Lib.hid hno
                      have hd0 : decide ((65 : Int) ≤ ((s[0]'hp).toNat : Int)) = false := decide_eq_false (by omega)
                      have hd1 : decide ((48 : Int) ≤ ((s[0]'hp).toNat : Int)) = false := decide_eq_false (by omega)
                      have hd2 : (((s[0]'hp).toNat : Int) == 45) = false := by simp; omega
                      clear hno hok hc
                      go_wp2
                      go_ret
                      exact ⟨ret_bool HNO.out.symm, rfl⟩
                    · have hz1 : ((pos : Int) == 0) = false := by simp; omega
                      have hok : okAt pos s[pos] = false := by simp [okAt, upB, inB]; omega
                      have hno := rightL_no hc hok
                      have HNO := Lib.hid hno
                      have hd0 : decide ((65 : Int) ≤ ((s[pos]'hp).toNat : Int)) = false := decide_eq_false (by omega)
                      have hd1 : decide ((48 : Int) ≤ ((s[pos]'hp).toNat : Int)) = false := decide_eq_false (by omega)
                      have hd2 : (((s[pos]'hp).toNat : Int) == 45) = false := by simp; omega
                      have HZ := Lib.hid hz
                      clear hno hok hc hz
                      go_wp2
                      go_ret
                      exact ⟨ret_bool HNO.out.symm, rfl⟩
        · have hall : rightL s.data.toList = true := rightL_mk (by rw [size_list]; exact hs1) (by rw [size_list]; exact hs2) (by have := HA.out; rwa [List.take_of_length_le (by rw [size_list]; omega)] at this)
          have HALL := Lib.hid hall
          clear hall
          go_wp2
          go_ret
          exact ⟨ret_bool HALL.out.symm, rfl⟩
    · have hno : rightL s.data.toList = false := rightL_long (by rw [size_list]; omega)
      have HNO := Lib.hid hno
      have hd : decide (12 < s.size) = true := decide_eq_true (by omega)
      clear hno
      go_enter Try.func64, Try.ntmps64
      go_wp2_with fail
      go_ret
      exact ⟨ret_bool HNO.out.symm, rfl⟩
  · have hno : rightL s.data.toList = false := rightL_short (by rw [size_list]; omega)
    have HNO := Lib.hid hno
    have hd : decide (s.size < 1) = true := decide_eq_true (by omega)
    clear hno
    go_enter Try.func64, Try.ntmps64
    go_wp2_with fail
    go_ret
    exact ⟨ret_bool HNO.out.symm, rfl⟩
end Go.Proofs.Ytddnfikjfmfhfaa
end
section
/- The contracts of window.Right, Has, of lot.hasDays, Right and of the reference's Right. Written by gen_lsc.py. -/
namespace Go.Proofs.Ytddnfikjfmfhfaa
open Go.ChangeShapes Go.WideShapes Go.ChangeAt Go.RowKit
set_option linter.unusedVariables false

def wrightB (f u : Int) : Bool := decide (0 ≤ f ∧ f ≤ u ∧ u ≤ 4001)
def hasB (f u day : Int) : Bool := decide (0 ≤ f ∧ f ≤ u ∧ u ≤ 4001 ∧ f ≤ day ∧ day < u)
def daysB (f u : Int) : Bool := decide (0 ≤ f ∧ f < u ∧ u ≤ 4001)
def qtyB (q : Int) : Bool := decide (1 ≤ q ∧ q ≤ 1073741824)
def lrightB (x : Lt) : Bool := decide (1 ≤ x.id) && (rightL x.item && (daysB x.fr x.un && qtyB x.qty))
theorem below_alloc1 (w : World) (o : Obj) : Below w.heap.size w (w.alloc o) := (Below.refl _ _).alloc (Nat.le_refl _) _
theorem below_alloc2 {w w1 : World} (o : Obj) (h : Below (w.alloc o).heap.size (w.alloc o) w1) : Below w.heap.size w w1 := (below_alloc1 w o).trans (h.mono (by simp))
theorem below_two {w w1 w2 : World} (h1 : Below w.heap.size w w1) (h2 : Below w1.heap.size w1 w2) : Below w.heap.size w w2 := h1.trans (h2.mono h1.size)
theorem str_size {s : List UInt8} (h : s.length ≤ maxLen) : (⟨s.toArray⟩ : ByteArray).size = s.length := by simp [ByteArray.size]
theorem bcell {W w1 : World} (hb : Below W.heap.size W w1) : (∀ b o, b < W.heap.size → w1.cell? ⟨b, o, none⟩ = W.cell? ⟨b, o, none⟩) ∧ (∀ b o, b < W.heap.size → w1.frozen? ⟨b, o, none⟩ = W.frozen? ⟨b, o, none⟩) :=
  ⟨fun b o h => hb.cell (p := ⟨b, o, none⟩) h, fun b o h => hb.frozen (p := ⟨b, o, none⟩) h⟩
set_option maxHeartbeats 1000000 in
theorem wright_any (f u : Int) (w : World) : Calls Try.prog 45 #[.agg #[.int .i64 f, .int .i64 u]] w fun e w' => e = .returned (.bool (wrightB f u)) ∧ Below w.heap.size w w' := by
  by_cases h0 : 0 ≤ f
  ·
    by_cases h1 : f ≤ u
    ·
      by_cases h2 : u ≤ 4001
      ·
        have d0 : decide (0 ≤ f) = true := decide_eq_true h0
        have d1 : decide (f ≤ u) = true := decide_eq_true h1
        have d2 : decide (u ≤ 4001) = true := decide_eq_true h2
        have hv : wrightB f u = true := by unfold wrightB; simp; omega
        rw [hv]
        clear hv
        go_enter Try.func45, Try.ntmps45
        go_wp2
        go_ret
        exact ⟨rfl, below_alloc1 _ _⟩
      ·
        have d0 : decide (0 ≤ f) = true := decide_eq_true h0
        have d1 : decide (f ≤ u) = true := decide_eq_true h1
        have d2 : decide (u ≤ 4001) = false := decide_eq_false h2
        have hv : wrightB f u = false := by unfold wrightB; simp; omega
        rw [hv]
        clear hv
        go_enter Try.func45, Try.ntmps45
        go_wp2
        go_ret
        exact ⟨rfl, below_alloc1 _ _⟩
    ·
      have d0 : decide (0 ≤ f) = true := decide_eq_true h0
      have d1 : decide (f ≤ u) = false := decide_eq_false h1
      have hv : wrightB f u = false := by unfold wrightB; simp; omega
      rw [hv]
      clear hv
      go_enter Try.func45, Try.ntmps45
      go_wp2
      go_ret
      exact ⟨rfl, below_alloc1 _ _⟩
  ·
    have d0 : decide (0 ≤ f) = false := decide_eq_false h0
    have hv : wrightB f u = false := by unfold wrightB; simp; omega
    rw [hv]
    clear hv
    go_enter Try.func45, Try.ntmps45
    go_wp2
    go_ret
    exact ⟨rfl, below_alloc1 _ _⟩
theorem wright_yes (f u : Int) (w : World) (h : wrightB f u = true) : Calls Try.prog 45 #[.agg #[.int .i64 f, .int .i64 u]] w fun e w' => e = .returned (.bool true) ∧ Below w.heap.size w w' := by
  have := wright_any f u w; rwa [h] at this
theorem wright_no (f u : Int) (w : World) (h : wrightB f u = false) : Calls Try.prog 45 #[.agg #[.int .i64 f, .int .i64 u]] w fun e w' => e = .returned (.bool false) ∧ Below w.heap.size w w' := by
  have := wright_any f u w; rwa [h] at this
set_option maxHeartbeats 1000000 in
theorem has_any (f u day : Int) (w : World) : Calls Try.prog 28 #[.agg #[.int .i64 f, .int .i64 u], .int .i64 day] w fun e w' => e = .returned (.bool (hasB f u day)) ∧ Below w.heap.size w w' := by
  by_cases h0 : wrightB f u = true
  ·
    by_cases h1 : f ≤ day
    ·
      by_cases h2 : day < u
      ·
        have H0 := Lib.hid h0
        have d1 : decide (f ≤ day) = true := decide_eq_true h1
        have d2 : decide (day < u) = true := decide_eq_true h2
        have hv : hasB f u day = true := by have hw := H0.out; unfold wrightB at hw; simp at hw; unfold hasB; simp; omega
        rw [hv]
        clear hv h0
        go_enter Try.func28, Try.ntmps28
        go_wp2_with (go_at_call 45; ((with_reducible refine (wright_yes f u _ H0.out).mono ?_); rintro e w1 ⟨rfl, hb1⟩; obtain ⟨hc, hf⟩ := bcell hb1))
        go_ret
        exact ⟨rfl, below_alloc2 _ hb1⟩
      ·
        have H0 := Lib.hid h0
        have d1 : decide (f ≤ day) = true := decide_eq_true h1
        have d2 : decide (day < u) = false := decide_eq_false h2
        have hv : hasB f u day = false := by have hw := H0.out; unfold wrightB at hw; simp at hw; unfold hasB; simp; omega
        rw [hv]
        clear hv h0
        go_enter Try.func28, Try.ntmps28
        go_wp2_with (go_at_call 45; ((with_reducible refine (wright_yes f u _ H0.out).mono ?_); rintro e w1 ⟨rfl, hb1⟩; obtain ⟨hc, hf⟩ := bcell hb1))
        go_ret
        exact ⟨rfl, below_alloc2 _ hb1⟩
    ·
      have H0 := Lib.hid h0
      have d1 : decide (f ≤ day) = false := decide_eq_false h1
      have hv : hasB f u day = false := by have hw := H0.out; unfold wrightB at hw; simp at hw; unfold hasB; simp; omega
      rw [hv]
      clear hv h0
      go_enter Try.func28, Try.ntmps28
      go_wp2_with (go_at_call 45; ((with_reducible refine (wright_yes f u _ H0.out).mono ?_); rintro e w1 ⟨rfl, hb1⟩; obtain ⟨hc, hf⟩ := bcell hb1))
      go_ret
      exact ⟨rfl, below_alloc2 _ hb1⟩
  ·
    have H0 : Hid (wrightB f u = false) := Lib.hid (by simpa using h0)
    have hv : hasB f u day = false := by have hw := H0.out; unfold wrightB at hw; simp at hw; unfold hasB; simp; omega
    rw [hv]
    clear hv h0
    go_enter Try.func28, Try.ntmps28
    go_wp2_with (go_at_call 45; ((with_reducible refine (wright_no f u _ H0.out).mono ?_); rintro e w1 ⟨rfl, hb1⟩; obtain ⟨hc, hf⟩ := bcell hb1))
    go_ret
    exact ⟨rfl, below_alloc2 _ hb1⟩
theorem has_yes (f u day : Int) (w : World) (h : hasB f u day = true) : Calls Try.prog 28 #[.agg #[.int .i64 f, .int .i64 u], .int .i64 day] w fun e w' => e = .returned (.bool true) ∧ Below w.heap.size w w' := by
  have := has_any f u day w; rwa [h] at this
theorem has_no (f u day : Int) (w : World) (h : hasB f u day = false) : Calls Try.prog 28 #[.agg #[.int .i64 f, .int .i64 u], .int .i64 day] w fun e w' => e = .returned (.bool false) ∧ Below w.heap.size w w' := by
  have := has_any f u day w; rwa [h] at this
theorem hasB_days (f u : Int) : hasB f u f = daysB f u := by
  unfold hasB daysB; congr 1; apply propext; constructor <;> intro h <;> omega
set_option maxHeartbeats 1000000 in
theorem days_any (f u : Int) (w : World) : Calls Try.prog 69 #[.agg #[.int .i64 f, .int .i64 u]] w fun e w' => e = .returned (.bool (daysB f u)) ∧ Below w.heap.size w w' := by
  rw [← hasB_days]
  cases hv : hasB f u f
  all_goals
    have HV := Lib.hid hv
    clear hv
    go_enter Try.func69, Try.ntmps69
    go_wp2_with (go_at_call 28; (first | ((with_reducible refine (has_yes f u f _ HV.out).mono ?_); rintro e w1 ⟨rfl, hb1⟩) | ((with_reducible refine (has_no f u f _ HV.out).mono ?_); rintro e w1 ⟨rfl, hb1⟩)))
    go_ret
    exact ⟨rfl, below_alloc2 _ hb1⟩
theorem days_yes (f u : Int) (w : World) (h : daysB f u = true) : Calls Try.prog 69 #[.agg #[.int .i64 f, .int .i64 u]] w fun e w' => e = .returned (.bool true) ∧ Below w.heap.size w w' := by
  have := days_any f u w; rwa [h] at this
theorem days_no (f u : Int) (w : World) (h : daysB f u = false) : Calls Try.prog 69 #[.agg #[.int .i64 f, .int .i64 u]] w fun e w' => e = .returned (.bool false) ∧ Below w.heap.size w w' := by
  have := days_any f u w; rwa [h] at this
theorem cright_yes (s : List UInt8) (w : World) (h : rightL s = true) : Calls Try.prog 68 #[strV s] w fun e w' => e = .returned (.bool true) ∧ Below w.heap.size w w' := by
  have := right_any ⟨s.toArray⟩ w; rw [show (⟨s.toArray⟩ : ByteArray).data.toList = s from rfl, h] at this; exact this
theorem cright_no (s : List UInt8) (w : World) (h : rightL s = false) : Calls Try.prog 68 #[strV s] w fun e w' => e = .returned (.bool false) ∧ Below w.heap.size w w' := by
  have := right_any ⟨s.toArray⟩ w; rw [show (⟨s.toArray⟩ : ByteArray).data.toList = s from rfl, h] at this; exact this
theorem crref_yes (s : List UInt8) (w : World) (h : rightL s = true) : Calls Try.prog 64 #[strV s] w fun e w' => e = .returned (.bool true) ∧ w = w' := by
  have := rright_any ⟨s.toArray⟩ w; rw [show (⟨s.toArray⟩ : ByteArray).data.toList = s from rfl, h] at this; exact this
theorem crref_no (s : List UInt8) (w : World) (h : rightL s = false) : Calls Try.prog 64 #[strV s] w fun e w' => e = .returned (.bool false) ∧ w = w' := by
  have := rright_any ⟨s.toArray⟩ w; rw [show (⟨s.toArray⟩ : ByteArray).data.toList = s from rfl, h] at this; exact this
set_option maxHeartbeats 2000000 in
theorem lright_any (x : Lt) (w : World) : Calls Try.prog 54 #[aggL x] w fun e w' => e = .returned (.bool (lrightB x)) ∧ Below w.heap.size w w' := by
  by_cases h0 : 1 ≤ x.id
  ·
    by_cases h1 : rightL x.item = true
    ·
      by_cases h2 : daysB x.fr x.un = true
      ·
        by_cases h3 : 1 ≤ x.qty
        ·
          by_cases h4 : x.qty ≤ 1073741824
          ·
            have d0 : decide (1 ≤ x.id) = true := decide_eq_true h0
            have H1 : Hid (rightL x.item = true) := Lib.hid (by simpa using h1)
            have H2 : Hid (daysB x.fr x.un = true) := Lib.hid (by simpa using h2)
            have d3 : decide (1 ≤ x.qty) = true := decide_eq_true h3
            have d4 : decide (x.qty ≤ 1073741824) = true := decide_eq_true h4
            have hv : lrightB x = true := by unfold lrightB qtyB; simp [d0, H1.out, H2.out]; try omega
            rw [hv]
            clear hv h1 h2
            go_enter Try.func54, Try.ntmps54
            go_wp2_with (first | (go_at_call 68; ((with_reducible refine (cright_yes x.item _ H1.out).mono ?_); rintro e w1 ⟨rfl, hb1⟩; obtain ⟨hc1, hf1⟩ := bcell hb1; have hz1 : w.heap.size < w1.heap.size := by (have := hb1.size; simp only [World.size_alloc] at this; omega))) | (go_at_call 69; ((with_reducible refine (days_yes x.fr x.un _ H2.out).mono ?_); rintro e w2 ⟨rfl, hb2⟩; obtain ⟨hc, hf⟩ := bcell hb2)))
            go_ret
            exact ⟨rfl, below_alloc2 _ (below_two hb1 hb2)⟩
          ·
            have d0 : decide (1 ≤ x.id) = true := decide_eq_true h0
            have H1 : Hid (rightL x.item = true) := Lib.hid (by simpa using h1)
            have H2 : Hid (daysB x.fr x.un = true) := Lib.hid (by simpa using h2)
            have d3 : decide (1 ≤ x.qty) = true := decide_eq_true h3
            have d4 : decide (x.qty ≤ 1073741824) = false := decide_eq_false h4
            have hv : lrightB x = false := by unfold lrightB qtyB; simp [d0, H1.out, H2.out]; try omega
            rw [hv]
            clear hv h1 h2
            go_enter Try.func54, Try.ntmps54
            go_wp2_with (first | (go_at_call 68; ((with_reducible refine (cright_yes x.item _ H1.out).mono ?_); rintro e w1 ⟨rfl, hb1⟩; obtain ⟨hc1, hf1⟩ := bcell hb1; have hz1 : w.heap.size < w1.heap.size := by (have := hb1.size; simp only [World.size_alloc] at this; omega))) | (go_at_call 69; ((with_reducible refine (days_yes x.fr x.un _ H2.out).mono ?_); rintro e w2 ⟨rfl, hb2⟩; obtain ⟨hc, hf⟩ := bcell hb2)))
            go_ret
            exact ⟨rfl, below_alloc2 _ (below_two hb1 hb2)⟩
        ·
          have d0 : decide (1 ≤ x.id) = true := decide_eq_true h0
          have H1 : Hid (rightL x.item = true) := Lib.hid (by simpa using h1)
          have H2 : Hid (daysB x.fr x.un = true) := Lib.hid (by simpa using h2)
          have d3 : decide (1 ≤ x.qty) = false := decide_eq_false h3
          have hv : lrightB x = false := by unfold lrightB qtyB; simp [d0, H1.out, H2.out]; try omega
          rw [hv]
          clear hv h1 h2
          go_enter Try.func54, Try.ntmps54
          go_wp2_with (first | (go_at_call 68; ((with_reducible refine (cright_yes x.item _ H1.out).mono ?_); rintro e w1 ⟨rfl, hb1⟩; obtain ⟨hc1, hf1⟩ := bcell hb1; have hz1 : w.heap.size < w1.heap.size := by (have := hb1.size; simp only [World.size_alloc] at this; omega))) | (go_at_call 69; ((with_reducible refine (days_yes x.fr x.un _ H2.out).mono ?_); rintro e w2 ⟨rfl, hb2⟩; obtain ⟨hc, hf⟩ := bcell hb2)))
          go_ret
          exact ⟨rfl, below_alloc2 _ (below_two hb1 hb2)⟩
      ·
        have d0 : decide (1 ≤ x.id) = true := decide_eq_true h0
        have H1 : Hid (rightL x.item = true) := Lib.hid (by simpa using h1)
        have H2 : Hid (daysB x.fr x.un = false) := Lib.hid (by simpa using h2)
        have hv : lrightB x = false := by unfold lrightB qtyB; simp [d0, H1.out, H2.out]; try omega
        rw [hv]
        clear hv h1 h2
        go_enter Try.func54, Try.ntmps54
        go_wp2_with (first | (go_at_call 68; ((with_reducible refine (cright_yes x.item _ H1.out).mono ?_); rintro e w1 ⟨rfl, hb1⟩; obtain ⟨hc1, hf1⟩ := bcell hb1; have hz1 : w.heap.size < w1.heap.size := by (have := hb1.size; simp only [World.size_alloc] at this; omega))) | (go_at_call 69; ((with_reducible refine (days_no x.fr x.un _ H2.out).mono ?_); rintro e w2 ⟨rfl, hb2⟩; obtain ⟨hc, hf⟩ := bcell hb2)))
        go_ret
        exact ⟨rfl, below_alloc2 _ (below_two hb1 hb2)⟩
    ·
      have d0 : decide (1 ≤ x.id) = true := decide_eq_true h0
      have H1 : Hid (rightL x.item = false) := Lib.hid (by simpa using h1)
      have hv : lrightB x = false := by unfold lrightB qtyB; simp [d0, H1.out]; try omega
      rw [hv]
      clear hv h1
      go_enter Try.func54, Try.ntmps54
      go_wp2_with (first | (go_at_call 68; ((with_reducible refine (cright_no x.item _ H1.out).mono ?_); rintro e w1 ⟨rfl, hb1⟩; obtain ⟨hc1, hf1⟩ := bcell hb1; have hz1 : w.heap.size < w1.heap.size := by (have := hb1.size; simp only [World.size_alloc] at this; omega))))
      go_ret
      exact ⟨rfl, below_alloc2 _ hb1⟩
  ·
    have d0 : decide (1 ≤ x.id) = false := decide_eq_false h0
    have hv : lrightB x = false := by unfold lrightB qtyB; simp [d0]; try omega
    rw [hv]
    clear hv
    go_enter Try.func54, Try.ntmps54
    go_wp2
    go_ret
    exact ⟨rfl, below_alloc1 _ _⟩
set_option maxHeartbeats 2000000 in
theorem lrref_any (x : Lt) (w : World) : Calls Try.prog 50 #[aggL x] w fun e w' => e = .returned (.bool (lrightB x)) ∧ Below w.heap.size w w' := by
  by_cases h0 : 1 ≤ x.id
  ·
    by_cases h1 : rightL x.item = true
    ·
      by_cases h2 : 0 ≤ x.fr
      ·
        by_cases h3 : x.fr < x.un
        ·
          by_cases h4 : x.un ≤ 4001
          ·
            by_cases h5 : 1 ≤ x.qty
            ·
              by_cases h6 : x.qty ≤ 1073741824
              ·
                have d0 : decide (1 ≤ x.id) = true := decide_eq_true h0
                have H1 : Hid (rightL x.item = true) := Lib.hid (by simpa using h1)
                have d2 : decide (0 ≤ x.fr) = true := decide_eq_true h2
                have d3 : decide (x.fr < x.un) = true := decide_eq_true h3
                have d4 : decide (x.un ≤ 4001) = true := decide_eq_true h4
                have d5 : decide (1 ≤ x.qty) = true := decide_eq_true h5
                have d6 : decide (x.qty ≤ 1073741824) = true := decide_eq_true h6
                have hv : lrightB x = true := by unfold lrightB qtyB daysB; simp [d0, H1.out]; try omega
                rw [hv]
                clear hv h1
                go_enter Try.func50, Try.ntmps50
                go_wp2_with (first | (go_at_call 64; ((with_reducible refine (crref_yes x.item _ H1.out).mono ?_); rintro e w1 ⟨rfl, rfl⟩)))
                go_ret
                exact ⟨rfl, below_alloc1 _ _⟩
              ·
                have d0 : decide (1 ≤ x.id) = true := decide_eq_true h0
                have H1 : Hid (rightL x.item = true) := Lib.hid (by simpa using h1)
                have d2 : decide (0 ≤ x.fr) = true := decide_eq_true h2
                have d3 : decide (x.fr < x.un) = true := decide_eq_true h3
                have d4 : decide (x.un ≤ 4001) = true := decide_eq_true h4
                have d5 : decide (1 ≤ x.qty) = true := decide_eq_true h5
                have d6 : decide (x.qty ≤ 1073741824) = false := decide_eq_false h6
                have hv : lrightB x = false := by unfold lrightB qtyB daysB; simp [d0, H1.out]; try omega
                rw [hv]
                clear hv h1
                go_enter Try.func50, Try.ntmps50
                go_wp2_with (first | (go_at_call 64; ((with_reducible refine (crref_yes x.item _ H1.out).mono ?_); rintro e w1 ⟨rfl, rfl⟩)))
                go_ret
                exact ⟨rfl, below_alloc1 _ _⟩
            ·
              have d0 : decide (1 ≤ x.id) = true := decide_eq_true h0
              have H1 : Hid (rightL x.item = true) := Lib.hid (by simpa using h1)
              have d2 : decide (0 ≤ x.fr) = true := decide_eq_true h2
              have d3 : decide (x.fr < x.un) = true := decide_eq_true h3
              have d4 : decide (x.un ≤ 4001) = true := decide_eq_true h4
              have d5 : decide (1 ≤ x.qty) = false := decide_eq_false h5
              have hv : lrightB x = false := by unfold lrightB qtyB daysB; simp [d0, H1.out]; try omega
              rw [hv]
              clear hv h1
              go_enter Try.func50, Try.ntmps50
              go_wp2_with (first | (go_at_call 64; ((with_reducible refine (crref_yes x.item _ H1.out).mono ?_); rintro e w1 ⟨rfl, rfl⟩)))
              go_ret
              exact ⟨rfl, below_alloc1 _ _⟩
          ·
            have d0 : decide (1 ≤ x.id) = true := decide_eq_true h0
            have H1 : Hid (rightL x.item = true) := Lib.hid (by simpa using h1)
            have d2 : decide (0 ≤ x.fr) = true := decide_eq_true h2
            have d3 : decide (x.fr < x.un) = true := decide_eq_true h3
            have d4 : decide (x.un ≤ 4001) = false := decide_eq_false h4
            have hv : lrightB x = false := by unfold lrightB qtyB daysB; simp [d0, H1.out]; try omega
            rw [hv]
            clear hv h1
            go_enter Try.func50, Try.ntmps50
            go_wp2_with (first | (go_at_call 64; ((with_reducible refine (crref_yes x.item _ H1.out).mono ?_); rintro e w1 ⟨rfl, rfl⟩)))
            go_ret
            exact ⟨rfl, below_alloc1 _ _⟩
        ·
          have d0 : decide (1 ≤ x.id) = true := decide_eq_true h0
          have H1 : Hid (rightL x.item = true) := Lib.hid (by simpa using h1)
          have d2 : decide (0 ≤ x.fr) = true := decide_eq_true h2
          have d3 : decide (x.fr < x.un) = false := decide_eq_false h3
          have hv : lrightB x = false := by unfold lrightB qtyB daysB; simp [d0, H1.out]; try omega
          rw [hv]
          clear hv h1
          go_enter Try.func50, Try.ntmps50
          go_wp2_with (first | (go_at_call 64; ((with_reducible refine (crref_yes x.item _ H1.out).mono ?_); rintro e w1 ⟨rfl, rfl⟩)))
          go_ret
          exact ⟨rfl, below_alloc1 _ _⟩
      ·
        have d0 : decide (1 ≤ x.id) = true := decide_eq_true h0
        have H1 : Hid (rightL x.item = true) := Lib.hid (by simpa using h1)
        have d2 : decide (0 ≤ x.fr) = false := decide_eq_false h2
        have hv : lrightB x = false := by unfold lrightB qtyB daysB; simp [d0, H1.out]; try omega
        rw [hv]
        clear hv h1
        go_enter Try.func50, Try.ntmps50
        go_wp2_with (first | (go_at_call 64; ((with_reducible refine (crref_yes x.item _ H1.out).mono ?_); rintro e w1 ⟨rfl, rfl⟩)))
        go_ret
        exact ⟨rfl, below_alloc1 _ _⟩
    ·
      have d0 : decide (1 ≤ x.id) = true := decide_eq_true h0
      have H1 : Hid (rightL x.item = false) := Lib.hid (by simpa using h1)
      have hv : lrightB x = false := by unfold lrightB qtyB daysB; simp [d0, H1.out]; try omega
      rw [hv]
      clear hv h1
      go_enter Try.func50, Try.ntmps50
      go_wp2_with (first | (go_at_call 64; ((with_reducible refine (crref_no x.item _ H1.out).mono ?_); rintro e w1 ⟨rfl, rfl⟩)))
      go_ret
      exact ⟨rfl, below_alloc1 _ _⟩
  ·
    have d0 : decide (1 ≤ x.id) = false := decide_eq_false h0
    have hv : lrightB x = false := by unfold lrightB qtyB daysB; simp [d0]; try omega
    rw [hv]
    clear hv
    go_enter Try.func50, Try.ntmps50
    go_wp2
    go_ret
    exact ⟨rfl, below_alloc1 _ _⟩
end Go.Proofs.Ytddnfikjfmfhfaa
end
