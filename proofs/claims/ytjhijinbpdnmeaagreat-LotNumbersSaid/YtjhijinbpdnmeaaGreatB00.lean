/- Texts of this proof, one behind the other. -/
import Derived.Test.YtjhijinbpdnmeaaGreatProg
import Derived.WalkKit
import Derived.ProofKit
import Derived.Lib.Hide
import Derived.Lib.OthersKept
import Derived.Below
import Derived.Laws.OwnMore
import Derived.Deep.Draws
import Derived.Deep.RegionHeld3
import Derived.Sort.Grow
section
/- Codes, in plain words. No walk. -/
namespace Go.Proofs.YtjhijinbpdnmeaaGreat
set_option linter.unusedVariables false
set_option linter.unusedSimpArgs false

/-! ### codes -/
def upB (c : UInt8) : Bool := decide (65 ≤ c.toNat) && decide (c.toNat ≤ 90)
def inB (c : UInt8) : Bool := (decide (48 ≤ c.toNat) && decide (c.toNat ≤ 57)) || decide (c.toNat = 45)
def okAt (k : Nat) (c : UInt8) : Bool := upB c || (decide (k ≠ 0) && inB c)
/-- Each byte, from place k on, may stand there. -/
def allOk : Nat → List UInt8 → Bool
  | _, [] => true
  | k, c :: l => okAt k c && allOk (k + 1) l
def rightL (l : List UInt8) : Bool := decide (1 ≤ l.length) && decide (l.length ≤ 12) && allOk 0 l

theorem allOk_append : ∀ (l m : List UInt8) (k : Nat), allOk k (l ++ m) = (allOk k l && allOk (k + l.length) m)
  | [], m, k => by simp [allOk]
  | c :: l, m, k => by
    simp only [List.cons_append, allOk, allOk_append l m (k + 1), List.length_cons]
    rw [show k + 1 + l.length = k + (l.length + 1) by omega, Bool.and_assoc]
theorem allOk_take {l : List UInt8} {k : Nat} (n : Nat) (h : allOk k l = true) : allOk k (l.take n) = true := by
  have e := allOk_append (l.take n) (l.drop n) k
  rw [List.take_append_drop, h] at e
  have := e.symm
  rw [Bool.and_eq_true] at this
  exact this.1
theorem allOk_get : ∀ {l : List UInt8} {k : Nat}, allOk k l = true → ∀ {j : Nat} {c : UInt8}, l[j]? = some c → okAt (k + j) c = true
  | [], k, _, j, c, hc => by simp at hc
  | d :: l, k, h, 0, c, hc => by
    simp at hc; subst hc
    rw [allOk, Bool.and_eq_true] at h
    exact h.1
  | d :: l, k, h, j + 1, c, hc => by
    rw [allOk, Bool.and_eq_true] at h
    have := allOk_get h.2 (j := j) (c := c) (by simpa using hc)
    rwa [show k + 1 + j = k + (j + 1) by omega] at this
theorem allOk_no {l : List UInt8} {k j : Nat} {c : UInt8} (hc : l[j]? = some c) (h : okAt (k + j) c = false) : allOk k l = false := by
  cases e : allOk k l with
  | false => rfl
  | true => rw [allOk_get e hc] at h; cases h
theorem allOk_step {l : List UInt8} {j : Nat} {c : UInt8} (h : allOk 0 (l.take j) = true) (hc : l[j]? = some c) (ho : okAt j c = true) : allOk 0 (l.take (j + 1)) = true := by
  rw [List.take_add_one, hc]
  have hj : j < l.length := (List.getElem?_eq_some_iff.1 hc).1
  simp only [Option.toList]
  rw [allOk_append, h, List.length_take, Nat.min_eq_left (by omega)]
  simp [allOk, ho]
/-- The same from any place behind the first one. -/
theorem allOk_shift : ∀ (l : List UInt8) (k j : Nat), allOk (k + 1) l = true → allOk (j + 1) l = true
  | [], _, _, _ => rfl
  | c :: l, k, j, h => by
    rw [allOk, Bool.and_eq_true] at h ⊢
    refine ⟨?_, allOk_shift l (k + 1) (j + 1) h.2⟩
    have := h.1
    simpa [okAt] using this
theorem allOk_zero {l : List UInt8} {k : Nat} (h : allOk 0 l = true) : allOk (k + 1) l = true := by
  cases l with
  | nil => rfl
  | cons c l =>
    rw [allOk, Bool.and_eq_true] at h ⊢
    refine ⟨?_, allOk_shift l 0 (k + 1) h.2⟩
    have h1 := h.1
    simp [okAt] at h1 ⊢
    exact .inl h1
theorem rightL_parts {l : List UInt8} (h : rightL l = true) : 1 ≤ l.length ∧ l.length ≤ 12 ∧ allOk 0 l = true := by
  simp only [rightL, Bool.and_eq_true, decide_eq_true_eq] at h
  exact ⟨h.1.1, h.1.2, h.2⟩
theorem rightL_mk {l : List UInt8} (h1 : 1 ≤ l.length) (h2 : l.length ≤ 12) (h3 : allOk 0 l = true) : rightL l = true := by
  simp [rightL, h1, h2, h3]
theorem rightL_short {l : List UInt8} (h : l.length < 1) : rightL l = false := by
  have : decide (1 ≤ l.length) = false := by simpa using h
  simp [rightL, this]
theorem rightL_long {l : List UInt8} (h : 12 < l.length) : rightL l = false := by
  have : decide (l.length ≤ 12) = false := by simpa using h
  simp [rightL, this]
theorem rightL_no {l : List UInt8} {j : Nat} {c : UInt8} (hc : l[j]? = some c) (h : okAt j c = false) : rightL l = false := by
  rw [rightL, allOk_no (k := 0) hc (by rwa [Nat.zero_add]), Bool.and_false]
/-- What a code begins with is one. -/
theorem rightL_take {l : List UInt8} (h : rightL l = true) {k : Nat} (h1 : 1 ≤ k) : rightL (l.take k) = true := by
  obtain ⟨a, b, c⟩ := rightL_parts h
  exact rightL_mk (by rw [List.length_take]; omega) (by rw [List.length_take]; omega) (allOk_take k c)
/-- Two codes put together. -/
theorem rightL_app {a b : List UInt8} (ha : rightL a = true) (hb : rightL b = true) : rightL (a ++ b) = decide (a.length + b.length ≤ 12) := by
  obtain ⟨a1, a2, a3⟩ := rightL_parts ha
  obtain ⟨b1, b2, b3⟩ := rightL_parts hb
  have e : allOk 0 (a ++ b) = true := by
    rw [allOk_append, a3, Nat.zero_add, show a.length = (a.length - 1) + 1 by omega, allOk_zero b3]
    rfl
  simp only [rightL, e, List.length_append, Bool.and_true]
  rw [show decide (1 ≤ a.length + b.length) = true from decide_eq_true (by omega), Bool.true_and]

end Go.Proofs.YtjhijinbpdnmeaaGreat
end
section
/- The contracts of code.Right, letter, inner and of the reference's Right. -/
namespace Go.Proofs.YtjhijinbpdnmeaaGreat
open Go.ChangeShapes Go.WideShapes Go.ChangeAt Go.RowKit
set_option linter.unusedVariables false

theorem ret_bool {a b : Bool} (h : a = b) : Ending.returned (.bool a) = .returned (.bool b) := by rw [h]


theorem letter_yes (r : Int) (w : World) (h0 : 65 ≤ r) (h1 : r ≤ 90) : Calls Tryz.prog 70 #[.int .i32 r] w fun e w' => e = .returned (.bool true) ∧ w = w' := by
  go_enter Tryz.func70, Tryz.ntmps70
  go_wp2
  go_ret
  exact ⟨rfl, rfl⟩
theorem letter_no (r : Int) (w : World) (h : ¬ (65 ≤ r ∧ r ≤ 90)) : Calls Tryz.prog 70 #[.int .i32 r] w fun e w' => e = .returned (.bool false) ∧ w = w' := by
  by_cases h0 : 65 ≤ r
  · have h1 : decide (r ≤ 90) = false := by simp; omega
    clear h
    go_enter Tryz.func70, Tryz.ntmps70
    go_wp2
    go_ret
    exact ⟨rfl, rfl⟩
  · have h1 : decide (65 ≤ r) = false := by simpa using h0
    clear h
    go_enter Tryz.func70, Tryz.ntmps70
    go_wp2
    go_ret
    exact ⟨rfl, rfl⟩
theorem inner_yes (r : Int) (w : World) (h : (48 ≤ r ∧ r ≤ 57) ∨ r = 45) : Calls Tryz.prog 71 #[.int .i32 r] w fun e w' => e = .returned (.bool true) ∧ w = w' := by
  rcases h with ⟨h0, h1⟩ | rfl
  · go_enter Tryz.func71, Tryz.ntmps71
    go_wp2
    go_ret
    exact ⟨rfl, rfl⟩
  · go_enter Tryz.func71, Tryz.ntmps71
    go_wp2
    go_ret
    exact ⟨rfl, rfl⟩
theorem inner_no (r : Int) (w : World) (h : ¬ ((48 ≤ r ∧ r ≤ 57) ∨ r = 45)) : Calls Tryz.prog 71 #[.int .i32 r] w fun e w' => e = .returned (.bool false) ∧ w = w' := by
  have h45 : (r == 45) = false := by simp; omega
  by_cases h0 : 48 ≤ r
  · have h1 : decide (r ≤ 57) = false := by simp; omega
    clear h
    go_enter Tryz.func71, Tryz.ntmps71
    go_wp2
    go_ret
    exact ⟨rfl, rfl⟩
  · have h1 : decide (48 ≤ r) = false := by simpa using h0
    clear h
    go_enter Tryz.func71, Tryz.ntmps71
    go_wp2
    go_ret
    exact ⟨rfl, rfl⟩

theorem size_list (s : ByteArray) : s.data.toList.length = s.size := by rw [Array.length_toList]; rfl
theorem get_list (s : ByteArray) (k : Nat) (h : k < s.size) : s.data.toList[k]? = some s[k] := by
  rw [List.getElem?_eq_getElem (by rw [size_list]; exact h)]; rfl
theorem below_iter (w : World) (s : ByteArray) (pos : Nat) : Below w.heap.size w (w.iter s pos) := (Below.refl _ _).alloc (Nat.le_refl _) _

set_option maxHeartbeats 1000000 in
theorem right_any (s : ByteArray) (w : World) :
    Calls Tryz.prog 37 #[.string s] w fun e w' => e = .returned (.bool (rightL s.data.toList)) ∧ Below w.heap.size w w' := by
  by_cases hs1 : 1 ≤ s.size
  · by_cases hs2 : s.size ≤ 12
    · go_enter Tryz.func37, Tryz.ntmps37
      go_wp2_with fail
      go_loopw [] (fun wr => ∃ pos : Nat, pos ≤ s.size ∧ wr = w.iter s pos ∧ Hid (allOk 0 (s.data.toList.take pos) = true)) (fun wr => s.size - wr.iterPos w.heap.size)
      case atStart => exact ⟨0, Nat.zero_le _, rfl, Lib.hid rfl⟩
      case round =>
        obtain ⟨pos, hpos, rfl, HA⟩ := hrel
        by_cases hp : pos < s.size
        · by_cases ha : (s[pos]'hp).toNat < 128
          · have hnx := fun ty => run_next_ascii (P := Tryz.prog) w s pos ty hp ha
            have hc := get_list s pos hp
            by_cases hu : 65 ≤ (s[pos]'hp).toNat ∧ (s[pos]'hp).toNat ≤ 90
            · have hok : okAt pos s[pos] = true := by simp [okAt, upB, hu]
              have hst := allOk_step HA.out hc hok
              have HST := Lib.hid hst
              clear hst hok hc
              go_wp2_with (go_at_call 70; ((with_reducible refine (letter_yes _ _ (by omega) (by omega)).mono ?_); rintro e w' ⟨rfl, rfl⟩))
              go_roundw
              case rel => exact ⟨pos + 1, by omega, rfl, HST⟩
              case measure => simp only [World.iterPos_iter]; omega
            · by_cases hz : pos = 0
              · subst hz
                have hok : okAt 0 s[0] = false := by simp [okAt, upB]; omega
                have hno := rightL_no hc hok
                have HNO := Lib.hid hno
                clear hno hok hc
                go_wp2_with (go_at_call 70; ((with_reducible refine (letter_no _ _ (by omega)).mono ?_); rintro e w' ⟨rfl, rfl⟩))
                go_ret
                exact ⟨ret_bool HNO.out.symm, below_iter _ _ _⟩
              · have hz1 : ((pos : Int) == 0) = false := by simp; omega
                by_cases hi : (48 ≤ (s[pos]'hp).toNat ∧ (s[pos]'hp).toNat ≤ 57) ∨ (s[pos]'hp).toNat = 45
                · have hok : okAt pos s[pos] = true := by simp [okAt, inB, hz]; right; omega
                  have hst := allOk_step HA.out hc hok
                  have HST := Lib.hid hst
                  have HI := Lib.hid hi
                  have HZ := Lib.hid hz
                  clear hst hok hc hi hz
                  go_wp2_with (first
                    | (go_at_call 70; ((with_reducible refine (letter_no _ _ (by omega)).mono ?_); rintro e w' ⟨rfl, rfl⟩))
                    | (go_at_call 71; ((with_reducible refine (inner_yes _ _ (by have := HI.out; omega)).mono ?_); rintro e w' ⟨rfl, rfl⟩)))
                  go_roundw
                  case rel => exact ⟨pos + 1, by omega, rfl, HST⟩
                  case measure => simp only [World.iterPos_iter]; omega
                · have hok : okAt pos s[pos] = false := by simp [okAt, upB, inB]; omega
                  have hno := rightL_no hc hok
                  have HNO := Lib.hid hno
                  have HI := Lib.hid hi
                  have HZ := Lib.hid hz
                  clear hno hok hc hi hz
                  go_wp2_with (first
                    | (go_at_call 70; ((with_reducible refine (letter_no _ _ (by omega)).mono ?_); rintro e w' ⟨rfl, rfl⟩))
                    | (go_at_call 71; ((with_reducible refine (inner_no _ _ (by have := HI.out; omega)).mono ?_); rintro e w' ⟨rfl, rfl⟩)))
                  go_ret
                  exact ⟨ret_bool HNO.out.symm, below_iter _ _ _⟩
          · have hnx := fun ty => run_next_any (P := Tryz.prog) w s pos ty hp
            have hc := get_list s pos hp
            obtain ⟨hd1, hd2⟩ := decode_high s pos hp (by omega)
            have hd3 := decode_le s pos
            have hok : okAt pos s[pos] = false := by simp [okAt, upB, inB]; omega
            have hno := rightL_no hc hok
            have HNO := Lib.hid hno
            clear hno hok hc
            generalize (Utf8.decode s pos).1 = r at hnx hd1 hd3
            generalize (Utf8.decode s pos).2 = n at hnx hd2
            by_cases hz : pos = 0
            · subst hz
              go_wp2_with (go_at_call 70; ((with_reducible refine (letter_no _ _ (by omega)).mono ?_); rintro e w' ⟨rfl, rfl⟩))
              go_ret
              exact ⟨ret_bool HNO.out.symm, below_iter _ _ _⟩
            · have hz1 : ((pos : Int) == 0) = false := by simp; omega
              have HZ := Lib.hid hz
              clear hz
              go_wp2_with (first
                | (go_at_call 70; ((with_reducible refine (letter_no _ _ (by omega)).mono ?_); rintro e w' ⟨rfl, rfl⟩))
                | (go_at_call 71; ((with_reducible refine (inner_no _ _ (by omega)).mono ?_); rintro e w' ⟨rfl, rfl⟩)))
              go_ret
              exact ⟨ret_bool HNO.out.symm, below_iter _ _ _⟩
        · have hnx := fun ty => run_next_end (P := Tryz.prog) w s pos ty hp
          have hall : rightL s.data.toList = true := rightL_mk (by rw [size_list]; exact hs1) (by rw [size_list]; exact hs2) (by have := HA.out; rwa [List.take_of_length_le (by rw [size_list]; omega)] at this)
          have HALL := Lib.hid hall
          clear hall
          go_wp2
          go_ret
          exact ⟨ret_bool HALL.out.symm, below_iter _ _ _⟩
    · have hno : rightL s.data.toList = false := rightL_long (by rw [size_list]; omega)
      have HNO := Lib.hid hno
      have hd : decide (12 < s.size) = true := decide_eq_true (by omega)
      clear hno
      go_enter Tryz.func37, Tryz.ntmps37
      go_wp2_with fail
      go_ret
      exact ⟨ret_bool HNO.out.symm, Below.refl _ _⟩
  · have hno : rightL s.data.toList = false := rightL_short (by rw [size_list]; omega)
    have HNO := Lib.hid hno
    have hd : decide (s.size < 1) = true := decide_eq_true (by omega)
    clear hno
    go_enter Tryz.func37, Tryz.ntmps37
    go_wp2_with fail
    go_ret
    exact ⟨ret_bool HNO.out.symm, Below.refl _ _⟩
end Go.Proofs.YtjhijinbpdnmeaaGreat
end
section
/- Words for memory: lots as cells, lists of lots that lie somewhere. No walk. -/
namespace Go.Proofs.YtjhijinbpdnmeaaGreat
open Go.RowKit
set_option linter.unusedVariables false

theorem addr_block (a : Addr) (n : Nat) : (a.add n).block = a.block := by unfold Addr.add; split <;> rfl
theorem addr_add (a : Addr) (i j : Nat) : (a.add i).add j = a.add (i + j) := by
  by_cases hi : i = 0
  · subst hi; simp [Addr.add]
  · by_cases hj : j = 0
    · subst hj; simp [Addr.add]
    · unfold Addr.add; simp [hi, hj, Nat.add_assoc]
theorem addr0 (g k : Nat) : (⟨g, 0, none⟩ : Addr).add k = ⟨g, k, none⟩ := by unfold Addr.add; split <;> simp_all

/-- From A on lie the cells xs, below block B. (Of no cells nothing is asked.) -/
def Lies (w : World) (B : Nat) (A : Option Addr) (xs : List Value) : Prop :=
  xs ≠ [] → ∃ ad, A = some ad ∧ ad.block < B ∧ ∀ j u, xs[j]? = some u → w.cell? (ad.add j) = some u

section
variable {w w' : World} {B B' : Nat} {A : Option Addr} {xs : List Value}
theorem Lies.none : Lies w B A [] := fun h => absurd rfl h
theorem Lies.keep (h : Lies w B A xs) (hk : ∀ p : Addr, p.block < B → w'.cell? p = w.cell? p) : Lies w' B A xs := fun hne => by
  obtain ⟨ad, hA, hb, hc⟩ := h hne
  exact ⟨ad, hA, hb, fun j u hu => (hk _ (by rw [addr_block]; exact hb)).trans (hc j u hu)⟩
theorem Lies.mono (h : Lies w B A xs) (hB : B ≤ B') : Lies w B' A xs := fun hne => by
  obtain ⟨ad, hA, hb, hc⟩ := h hne
  exact ⟨ad, hA, Nat.lt_of_lt_of_le hb hB, hc⟩
theorem Lies.below (h : Lies w B A xs) (hb : Below B w w') : Lies w' B A xs := h.keep fun _ hp => hb.cell hp
theorem Lies.get (h : Lies w B A xs) {j : Nat} {u : Value} (hj : xs[j]? = some u) : ∃ ad, A = some ad ∧ ad.block < B ∧ w.cell? (ad.add j) = some u := by
  obtain ⟨ad, hA, hb, hc⟩ := h (by rintro rfl; simp at hj)
  exact ⟨ad, hA, hb, hc j u hj⟩
theorem Lies.take_ (h : Lies w B A xs) (k : Nat) : Lies w B A (xs.take k) := fun hne => by
  obtain ⟨ad, rfl, hb, hc⟩ := h (by rintro rfl; simp at hne)
  exact ⟨ad, rfl, hb, fun j u hu => hc j u (by
    rw [List.getElem?_take] at hu
    split at hu
    · exact hu
    · cases hu)⟩
/-- What the call owns lies. -/
theorem Lies.own {base e size n c : Nat} (h : w.ownsRow base e size (.slice A n c) n xs) : Lies w w.heap.size A xs := fun hne => by
  have hlt := h.lt
  have hcells := h.cells (g := (Value.slice A n c).ownBlock.getD 0)
  rcases h.2 with ⟨hv, rfl⟩ | ⟨g, cap, cur, hv, _, hh, _⟩
  · exact absurd (List.eq_nil_of_length_eq_zero (by simpa using h.1)) hne
  · injection hv with hA
    subst hA
    exact ⟨_, rfl, (hlt g rfl).2, h.cells (g := g) rfl⟩
end

theorem own_form {w : World} {base e size n : Nat} {v : Value} {xs : List Value} (h : w.ownsRow base e size v n xs) : ∃ A c, v = .slice A n c ∧ n ≤ c ∧ c ≤ maxLen ∧ (A = none → c = 0) := by
  rcases h.2 with ⟨hv, rfl⟩ | ⟨g, cap, cur, hv, _, _, h1, h2, _⟩
  · exact ⟨none, 0, hv, Nat.le_refl _, by simp [maxLen], fun _ => rfl⟩
  · exact ⟨_, _, hv, h1, h2, fun h => by cases h⟩

/-! ### lots -/
structure Lt where
  id : Int
  item : List UInt8
  fr : Int
  un : Int
  qty : Int
  arr : Bool
theorem Lt.ext_ {a b : Lt} (h1 : a.id = b.id) (h2 : a.item = b.item) (h3 : a.fr = b.fr) (h4 : a.un = b.un) (h5 : a.qty = b.qty) (h6 : a.arr = b.arr) : a = b := by
  cases a; cases b; simp_all
instance : DecidableEq Lt := fun a b =>
  if h : a.id = b.id ∧ a.item = b.item ∧ a.fr = b.fr ∧ a.un = b.un ∧ a.qty = b.qty ∧ a.arr = b.arr then isTrue (Lt.ext_ h.1 h.2.1 h.2.2.1 h.2.2.2.1 h.2.2.2.2.1 h.2.2.2.2.2)
  else isFalse (fun e => h (by subst e; exact ⟨rfl, rfl, rfl, rfl, rfl, rfl⟩))
instance : Inhabited Lt := ⟨⟨0, [], 0, 0, 0, false⟩⟩

abbrev strV (s : List UInt8) : Value := .string ⟨s.toArray⟩
def encL (x : Lt) : List Value := [.int .i64 x.id, strV x.item, .int .i64 x.fr, .int .i64 x.un, .int .i64 x.qty, .bool x.arr]
theorem encL_length (x : Lt) : (encL x).length = 6 := rfl
theorem encL_one (x : Lt) : ∀ v ∈ encL x, v.oneCell' = true := fun v hv => by
  simp only [encL, List.mem_cons, List.not_mem_nil, or_false] at hv
  rcases hv with rfl | rfl | rfl | rfl | rfl | rfl <;> rfl
/-- A lot as it is handed by value. -/
abbrev aggL (x : Lt) : Value := .agg #[.int .i64 x.id, strV x.item, .int .i64 x.fr, .int .i64 x.un, .int .i64 x.qty, .bool x.arr]

def lcells : List Lt → List Value
  | [] => []
  | x :: l => encL x ++ lcells l
theorem lcells_length : ∀ l : List Lt, (lcells l).length = l.length * 6
  | [] => rfl
  | x :: l => by simp [lcells, encL_length, lcells_length l]; omega
theorem lcells_append : ∀ l m : List Lt, lcells (l ++ m) = lcells l ++ lcells m
  | [], m => rfl
  | x :: l, m => by simp [lcells, lcells_append l m]
theorem lcells_get : ∀ (l : List Lt) (k : Nat) (x : Lt), l[k]? = some x → ∀ c, c < 6 → (lcells l)[k * 6 + c]? = (encL x)[c]?
  | [], k, x, h, c, hc => by simp at h
  | y :: l, 0, x, h, c, hc => by
    simp at h; subst h
    simp only [lcells, Nat.zero_mul, Nat.zero_add]
    rw [List.getElem?_append_left (by simpa [encL_length] using hc)]
  | y :: l, k + 1, x, h, c, hc => by
    have := lcells_get l k x (by simpa using h) c hc
    rw [show (k + 1) * 6 + c = (encL y).length + (k * 6 + c) by rw [encL_length]; omega]
    simp only [lcells]
    rw [List.getElem?_append_right (by omega), Nat.add_sub_cancel_left]
    exact this
theorem lcells_one : ∀ (l : List Lt), ∀ u ∈ lcells l, u.oneCell' = true
  | [], u, h => by simp [lcells] at h
  | x :: l, u, h => by
    simp only [lcells, List.mem_append] at h
    rcases h with h | h
    · exact encL_one x u h
    · exact lcells_one l u h
theorem lcells_take (l : List Lt) (k : Nat) (hk : k ≤ l.length) : (lcells l).take (k * 6) = lcells (l.take k) := by
  have h := lcells_append (l.take k) (l.drop k)
  rw [List.take_append_drop] at h
  rw [h, List.take_append_of_le_length (by rw [lcells_length, List.length_take]; omega), List.take_of_length_le (by rw [lcells_length, List.length_take]; omega)]

/-- A slice value that reads as lots. -/
def LSl (w : World) (B : Nat) (v : Value) (l : List Lt) : Prop := ∃ A c, v = .slice A l.length c ∧ l.length ≤ c ∧ c ≤ maxLen ∧ (A = none → c = 0) ∧ Lies w B A (lcells l)
theorem LSl.below {w w' : World} {B : Nat} {v : Value} {l : List Lt} (h : LSl w B v l) (hb : Below B w w') : LSl w' B v l := by
  obtain ⟨A, c, h1, h2, h3, hz, h4⟩ := h
  exact ⟨A, c, h1, h2, h3, hz, h4.below hb⟩
theorem LSl.mono {w : World} {B B' : Nat} {v : Value} {l : List Lt} (h : LSl w B v l) (hB : B ≤ B') : LSl w B' v l := by
  obtain ⟨A, c, h1, h2, h3, hz, h4⟩ := h
  exact ⟨A, c, h1, h2, h3, hz, h4.mono hB⟩
theorem LSl.own {w : World} {base e : Nat} {v : Value} {l : List Lt} (h : w.ownsRow base e 6 v l.length (lcells l)) : LSl w w.heap.size v l := by
  obtain ⟨A, c, rfl, h1, h2, hz⟩ := own_form h
  exact ⟨A, c, rfl, h1, h2, hz, Lies.own h⟩
theorem LSl.nil {w : World} {B : Nat} : LSl w B (.slice none 0 0) [] := ⟨none, 0, rfl, Nat.le_refl _, by simp [maxLen], fun _ => rfl, Lies.none⟩
theorem LSl.at_ {w W : World} {v : Value} {l : List Lt} (h : LSl w w.heap.size v l) (hb : Below w.heap.size w W) : LSl W W.heap.size v l := (h.below hb).mono hb.size

/-- The six cells of a lot, at p and behind it. -/
def Six (w : World) (p : Addr) (x : Lt) : Prop :=
  w.cell? p = some (.int .i64 x.id) ∧ w.cell? ⟨p.block, p.off + 1, none⟩ = some (strV x.item) ∧ w.cell? ⟨p.block, p.off + 2, none⟩ = some (.int .i64 x.fr) ∧
  w.cell? ⟨p.block, p.off + 3, none⟩ = some (.int .i64 x.un) ∧ w.cell? ⟨p.block, p.off + 4, none⟩ = some (.int .i64 x.qty) ∧ w.cell? ⟨p.block, p.off + 5, none⟩ = some (.bool x.arr)
theorem addr_up (p : Addr) (c : Nat) (hc : c ≠ 0) : p.add c = ⟨p.block, p.off + c, none⟩ := by unfold Addr.add; rw [if_neg hc]
theorem Lies.six {w : World} {B : Nat} {A : Option Addr} {l : List Lt} (h : Lies w B A (lcells l)) {k : Nat} {x : Lt} (hk : l[k]? = some x) :
    ∃ ad, A = some ad ∧ ad.block < B ∧ Six w (ad.add (k * 6)) x := by
  have hlt := (List.getElem?_eq_some_iff.1 hk).1
  obtain ⟨ad, hA, hb, hc⟩ := h (by intro e; have := lcells_length l; rw [e] at this; simp at this; omega)
  have g : ∀ c u, c < 6 → (encL x)[c]? = some u → w.cell? ((ad.add (k * 6)).add c) = some u := fun c u hc6 hu => by
    rw [addr_add]
    exact hc _ u (by rw [lcells_get l k x hk c hc6]; exact hu)
  refine ⟨ad, hA, hb, ?_, ?_, ?_, ?_, ?_, ?_⟩
  · have := g 0 _ (by omega) rfl; simpa [Addr.add] using this
  · have := g 1 _ (by omega) rfl; rwa [addr_up _ _ (by omega)] at this
  · have := g 2 _ (by omega) rfl; rwa [addr_up _ _ (by omega)] at this
  · have := g 3 _ (by omega) rfl; rwa [addr_up _ _ (by omega)] at this
  · have := g 4 _ (by omega) rfl; rwa [addr_up _ _ (by omega)] at this
  · have := g 5 _ (by omega) rfl; rwa [addr_up _ _ (by omega)] at this
theorem Six.below {w w' : World} {B : Nat} {p : Addr} {x : Lt} (h : Six w p x) (hp : p.block < B) (hb : Below B w w') : Six w' p x := by
  obtain ⟨a, b, c, d, e, f⟩ := h
  exact ⟨(hb.cell hp).trans a, (hb.cell (p := ⟨p.block, p.off + 1, none⟩) hp).trans b, (hb.cell (p := ⟨p.block, p.off + 2, none⟩) hp).trans c, (hb.cell (p := ⟨p.block, p.off + 3, none⟩) hp).trans d, (hb.cell (p := ⟨p.block, p.off + 4, none⟩) hp).trans e, (hb.cell (p := ⟨p.block, p.off + 5, none⟩) hp).trans f⟩

/-- A lot whose fields a program can hold. -/
def Lt.Fits (x : Lt) : Prop := -9223372036854775808 ≤ x.id ∧ x.id ≤ 9223372036854775807 ∧ x.item.length ≤ maxLen ∧ -9223372036854775808 ≤ x.fr ∧ x.fr ≤ 9223372036854775807 ∧ -9223372036854775808 ≤ x.un ∧ x.un ≤ 9223372036854775807 ∧ -9223372036854775808 ≤ x.qty ∧ x.qty ≤ 9223372036854775807
def Sized (l : List Lt) : Prop := ∀ x ∈ l, x.Fits

theorem below_draws {B : Nat} {a w : World} (h : Below B a w) (n : Nat) : Below B a (w.drewN n) := ⟨h.os, h.tape, h.output, h.size, h.block⟩
theorem fresh_cell (w : World) (cs : Array Value) (t : TypeId) (j : Nat) : (w.alloc (.cells cs t)).cell? ((⟨w.heap.size, 0, none⟩ : Addr).add j) = cs[j]? := by
  have e : (⟨w.heap.size, 0, none⟩ : Addr).add j = ⟨w.heap.size, j, none⟩ := addr0 _ _
  rw [e, cell_of_row _ _ _ _ _ _ (heap_alloc_new w _)]
/-- What is made lies. -/
theorem Lies.fresh (w : World) (cs : Array Value) (t : TypeId) (xs : List Value) (h : cs.toList = xs) : Lies (w.alloc (.cells cs t)) (w.heap.size + 1) (some ⟨w.heap.size, 0, Option.none⟩) xs := fun _ =>
  ⟨_, rfl, Nat.lt_succ_self _, fun j u hu => by rw [fresh_cell, ← hu, ← h, Array.getElem?_toList]⟩
theorem Lies.alloc_ {w : World} {B : Nat} {A : Option Addr} {xs : List Value} (h : Lies w B A xs) (hB : B ≤ w.heap.size) (o : Obj) : Lies (w.alloc o) B A xs := h.below ((Below.refl _ _).alloc hB o)
theorem LSl.alloc_ {w : World} {B : Nat} {v : Value} {l : List Lt} (h : LSl w B v l) (hB : B ≤ w.heap.size) (o : Obj) : LSl (w.alloc o) B v l := h.below ((Below.refl _ _).alloc hB o)
end Go.Proofs.YtjhijinbpdnmeaaGreat
end
section
/- The contract of the reference's Right. -/
namespace Go.Proofs.YtjhijinbpdnmeaaGreat
open Go.ChangeShapes Go.WideShapes Go.ChangeAt Go.RowKit
set_option linter.unusedVariables false

set_option maxHeartbeats 2000000 in
theorem rright_any (s : ByteArray) (w : World) :
    Calls Tryz.prog 46 #[.string s] w fun e w' => e = .returned (.bool (rightL s.data.toList)) ∧ w = w' := by
  by_cases hs1 : 1 ≤ s.size
  · by_cases hs2 : s.size ≤ 12
    · go_enter Tryz.func46, Tryz.ntmps46
      go_wp2_with fail
      go_loop [3] (fun i => ∃ pos : Nat, pos ≤ s.size ∧ i = .int .i64 pos ∧ Hid (allOk 0 (s.data.toList.take pos) = true)) (fun i => s.size - (intOf i).toNat)
      case atStart => exact ⟨0, Nat.zero_le _, rfl, Lib.hid rfl⟩
      case round =>
        obtain ⟨pos, hpos, rfl, HA⟩ := hrel
        by_cases hp : pos < s.size
        · have hc := get_list s pos hp
          by_cases hu : 65 ≤ (s[pos]'hp).toNat ∧ (s[pos]'hp).toNat ≤ 90
          · have hok : okAt pos s[pos] = true := by simp [okAt, upB, hu]
            have hst := allOk_step HA.out hc hok
            have HST := Lib.hid hst
            have hd1 : decide ((48 : Int) ≤ ((s[pos]'hp).toNat : Int)) = true := decide_eq_true (by omega)
            have hd2 : decide (((s[pos]'hp).toNat : Int) ≤ 57) = false := decide_eq_false (by omega)
            have hd3 : (((s[pos]'hp).toNat : Int) == 45) = false := by simp; omega
            clear hst hok hc
            go_wp2
            go_round
            case rel => exact ⟨pos + 1, by omega, by go_num, HST⟩
            case measure => simp [intOf]; omega
          · by_cases hB : 90 < (s[pos]'hp).toNat
            · by_cases hz : pos = 0
              · subst hz
                have hok : okAt 0 s[0] = false := by simp [okAt, upB]; omega
                have hno := rightL_no hc hok
                have HNO := Lib.hid hno
                have hd0 : decide ((65 : Int) ≤ ((s[0]'hp).toNat : Int)) = true := decide_eq_true (by omega)
                have hd1 : decide (((s[0]'hp).toNat : Int) ≤ 90) = false := decide_eq_false (by omega)
                have hd2 : decide ((48 : Int) ≤ ((s[0]'hp).toNat : Int)) = true := decide_eq_true (by omega)
                have hd3 : decide (((s[0]'hp).toNat : Int) ≤ 57) = false := decide_eq_false (by omega)
                have hd4 : (((s[0]'hp).toNat : Int) == 45) = false := by simp; omega
                clear hno hok hc
                go_wp2
                go_ret
                exact ⟨ret_bool HNO.out.symm, rfl⟩
              · have hz1 : ((pos : Int) == 0) = false := by simp; omega
                have hok : okAt pos s[pos] = false := by simp [okAt, upB, inB]; omega
                have hno := rightL_no hc hok
                have HNO := Lib.hid hno
                have hd0 : decide ((65 : Int) ≤ ((s[pos]'hp).toNat : Int)) = true := decide_eq_true (by omega)
                have hd1 : decide (((s[pos]'hp).toNat : Int) ≤ 90) = false := decide_eq_false (by omega)
                have hd2 : decide ((48 : Int) ≤ ((s[pos]'hp).toNat : Int)) = true := decide_eq_true (by omega)
                have hd3 : decide (((s[pos]'hp).toNat : Int) ≤ 57) = false := decide_eq_false (by omega)
                have hd4 : (((s[pos]'hp).toNat : Int) == 45) = false := by simp; omega
                have HZ := Lib.hid hz
                clear hno hok hc hz
                go_wp2
                go_ret
                exact ⟨ret_bool HNO.out.symm, rfl⟩
            · by_cases hC : 57 < (s[pos]'hp).toNat
              · by_cases hz : pos = 0
                · subst hz
                  have hok : okAt 0 s[0] = false := by simp [okAt, upB]; omega
                  have hno := rightL_no hc hok
                  have HNO := Lib.hid hno
                  have hd0 : decide ((65 : Int) ≤ ((s[0]'hp).toNat : Int)) = false := decide_eq_false (by omega)
                  have hd1 : decide ((48 : Int) ≤ ((s[0]'hp).toNat : Int)) = true := decide_eq_true (by omega)
                  have hd2 : decide (((s[0]'hp).toNat : Int) ≤ 57) = false := decide_eq_false (by omega)
                  have hd3 : (((s[0]'hp).toNat : Int) == 45) = false := by simp; omega
                  clear hno hok hc
                  go_wp2
                  go_ret
                  exact ⟨ret_bool HNO.out.symm, rfl⟩
                · have hz1 : ((pos : Int) == 0) = false := by simp; omega
                  have hok : okAt pos s[pos] = false := by simp [okAt, upB, inB]; omega
                  have hno := rightL_no hc hok
                  have HNO := Lib.hid hno
                  have hd0 : decide ((65 : Int) ≤ ((s[pos]'hp).toNat : Int)) = false := decide_eq_false (by omega)
                  have hd1 : decide ((48 : Int) ≤ ((s[pos]'hp).toNat : Int)) = true := decide_eq_true (by omega)
                  have hd2 : decide (((s[pos]'hp).toNat : Int) ≤ 57) = false := decide_eq_false (by omega)
                  have hd3 : (((s[pos]'hp).toNat : Int) == 45) = false := by simp; omega
                  have HZ := Lib.hid hz
                  clear hno hok hc hz
                  go_wp2
                  go_ret
                  exact ⟨ret_bool HNO.out.symm, rfl⟩
              · by_cases hD : 48 ≤ (s[pos]'hp).toNat
                · by_cases hz : pos = 0
                  · subst hz
                    have hok : okAt 0 s[0] = false := by simp [okAt, upB]; omega
                    have hno := rightL_no hc hok
                    have HNO := Lib.hid hno
                    have hd0 : decide ((65 : Int) ≤ ((s[0]'hp).toNat : Int)) = false := decide_eq_false (by omega)
                    have hd1 : decide ((48 : Int) ≤ ((s[0]'hp).toNat : Int)) = true := decide_eq_true (by omega)
                    have hd2 : decide (((s[0]'hp).toNat : Int) ≤ 57) = true := decide_eq_true (by omega)
                    clear hno hok hc
                    go_wp2
                    go_ret
                    exact ⟨ret_bool HNO.out.symm, rfl⟩
                  · have hz1 : ((pos : Int) == 0) = false := by simp; omega
                    have hok : okAt pos s[pos] = true := by simp [okAt, inB, hz]; right; omega
                    have hst := allOk_step HA.out hc hok
                    have HST := Lib.hid hst
                    have hd0 : decide ((65 : Int) ≤ ((s[pos]'hp).toNat : Int)) = false := decide_eq_false (by omega)
                    have hd1 : decide ((48 : Int) ≤ ((s[pos]'hp).toNat : Int)) = true := decide_eq_true (by omega)
                    have hd2 : decide (((s[pos]'hp).toNat : Int) ≤ 57) = true := decide_eq_true (by omega)
                    have HZ := Lib.hid hz
                    clear hst hok hc hz
                    go_wp2
                    go_round
                    case rel => exact ⟨pos + 1, by omega, by go_num, HST⟩
                    case measure => simp [intOf]; omega
                · by_cases hF : (s[pos]'hp).toNat = 45
                  · by_cases hz : pos = 0
                    · subst hz
                      have hok : okAt 0 s[0] = false := by simp [okAt, upB]; omega
                      have hno := rightL_no hc hok
                      have HNO := Lib.hid hno
                      have hd0 : decide ((65 : Int) ≤ ((s[0]'hp).toNat : Int)) = false := decide_eq_false (by omega)
                      have hd1 : decide ((48 : Int) ≤ ((s[0]'hp).toNat : Int)) = false := decide_eq_false (by omega)
                      have hd2 : (((s[0]'hp).toNat : Int) == 45) = true := by simp; omega
                      clear hno hok hc
                      go_wp2
                      go_ret
                      exact ⟨ret_bool HNO.out.symm, rfl⟩
                    · have hz1 : ((pos : Int) == 0) = false := by simp; omega
                      have hok : okAt pos s[pos] = true := by simp [okAt, inB, hz]; right; omega
                      have hst := allOk_step HA.out hc hok
                      have HST := Lib.hid hst
                      have hd0 : decide ((65 : Int) ≤ ((s[pos]'hp).toNat : Int)) = false := decide_eq_false (by omega)
                      have hd1 : decide ((48 : Int) ≤ ((s[pos]'hp).toNat : Int)) = false := decide_eq_false (by omega)
                      have hd2 : (((s[pos]'hp).toNat : Int) == 45) = true := by simp; omega
                      have HZ := Lib.hid hz
                      clear hst hok hc hz
                      go_wp2
                      go_round
                      case rel => exact ⟨pos + 1, by omega, by go_num, HST⟩
                      case measure => simp [intOf]; omega
                  · by_cases hz : pos = 0
                    · subst hz
                      have hok : okAt 0 s[0] = false := by simp [okAt, upB]; omega
                      have hno := rightL_no hc hok
                      have HNO := Lib.hid hno
                      have hd0 : decide ((65 : Int) ≤ ((s[0]'hp).toNat : Int)) = false := decide_eq_false (by omega)
                      have hd1 : decide ((48 : Int) ≤ ((s[0]'hp).toNat : Int)) = false := decide_eq_false (by omega)
                      have hd2 : (((s[0]'hp).toNat : Int) == 45) = false := by simp; omega
                      clear hno hok hc
                      go_wp2
                      go_ret
                      exact ⟨ret_bool HNO.out.symm, rfl⟩
                    · have hz1 : ((pos : Int) == 0) = false := by simp; omega
                      have hok : okAt pos s[pos] = false := by simp [okAt, upB, inB]; omega
                      have hno := rightL_no hc hok
                      have HNO := Lib.hid hno
                      have hd0 : decide ((65 : Int) ≤ ((s[pos]'hp).toNat : Int)) = false := decide_eq_false (by omega)
                      have hd1 : decide ((48 : Int) ≤ ((s[pos]'hp).toNat : Int)) = false := decide_eq_false (by omega)
                      have hd2 : (((s[pos]'hp).toNat : Int) == 45) = false := by simp; omega
                      have HZ := Lib.hid hz
                      clear hno hok hc hz
                      go_wp2
                      go_ret
                      exact ⟨ret_bool HNO.out.symm, rfl⟩
        · have hall : rightL s.data.toList = true := rightL_mk (by rw [size_list]; exact hs1) (by rw [size_list]; exact hs2) (by have := HA.out; rwa [List.take_of_length_le (by rw [size_list]; omega)] at this)
          have HALL := Lib.hid hall
          clear hall
          go_wp2
          go_ret
          exact ⟨ret_bool HALL.out.symm, rfl⟩
    · have hno : rightL s.data.toList = false := rightL_long (by rw [size_list]; omega)
      have HNO := Lib.hid hno
      have hd : decide (12 < s.size) = true := decide_eq_true (by omega)
      clear hno
      go_enter Tryz.func46, Tryz.ntmps46
      go_wp2_with fail
      go_ret
      exact ⟨ret_bool HNO.out.symm, rfl⟩
  · have hno : rightL s.data.toList = false := rightL_short (by rw [size_list]; omega)
    have HNO := Lib.hid hno
    have hd : decide (s.size < 1) = true := decide_eq_true (by omega)
    clear hno
    go_enter Tryz.func46, Tryz.ntmps46
    go_wp2_with fail
    go_ret
    exact ⟨ret_bool HNO.out.symm, rfl⟩
end Go.Proofs.YtjhijinbpdnmeaaGreat
end
section
/- The contracts of window.Right, Has, of lot.hasDays, Right and of the reference's Right. Written by gen_lsc.py. -/
namespace Go.Proofs.YtjhijinbpdnmeaaGreat
open Go.ChangeShapes Go.WideShapes Go.ChangeAt Go.RowKit
set_option linter.unusedVariables false

def wrightB (f u : Int) : Bool := decide (0 ≤ f ∧ f ≤ u ∧ u ≤ 4001)
def hasB (f u day : Int) : Bool := decide (0 ≤ f ∧ f ≤ u ∧ u ≤ 4001 ∧ f ≤ day ∧ day < u)
def daysB (f u : Int) : Bool := decide (0 ≤ f ∧ f < u ∧ u ≤ 4001)
def qtyB (q : Int) : Bool := decide (1 ≤ q ∧ q ≤ 1073741824)
def lrightB (x : Lt) : Bool := decide (1 ≤ x.id) && (rightL x.item && (daysB x.fr x.un && qtyB x.qty))
theorem below_alloc1 (w : World) (o : Obj) : Below w.heap.size w (w.alloc o) := (Below.refl _ _).alloc (Nat.le_refl _) _
theorem below_alloc2 {w w1 : World} (o : Obj) (h : Below (w.alloc o).heap.size (w.alloc o) w1) : Below w.heap.size w w1 := (below_alloc1 w o).trans (h.mono (by simp))
theorem below_two {w w1 w2 : World} (h1 : Below w.heap.size w w1) (h2 : Below w1.heap.size w1 w2) : Below w.heap.size w w2 := h1.trans (h2.mono h1.size)
theorem str_size {s : List UInt8} (h : s.length ≤ maxLen) : (⟨s.toArray⟩ : ByteArray).size = s.length := by simp [ByteArray.size]
theorem bcell {W w1 : World} (hb : Below W.heap.size W w1) : (∀ b o, b < W.heap.size → w1.cell? ⟨b, o, none⟩ = W.cell? ⟨b, o, none⟩) ∧ (∀ b o, b < W.heap.size → w1.frozen? ⟨b, o, none⟩ = W.frozen? ⟨b, o, none⟩) :=
  ⟨fun b o h => hb.cell (p := ⟨b, o, none⟩) h, fun b o h => hb.frozen (p := ⟨b, o, none⟩) h⟩
set_option maxHeartbeats 1000000 in
theorem wright_any (f u : Int) (w : World) : Calls Tryz.prog 45 #[.agg #[.int .i64 f, .int .i64 u]] w fun e w' => e = .returned (.bool (wrightB f u)) ∧ Below w.heap.size w w' := by
  by_cases h0 : 0 ≤ f
  ·
    by_cases h1 : f ≤ u
    ·
      by_cases h2 : u ≤ 4001
      ·
        have d0 : decide (0 ≤ f) = true := decide_eq_true h0
        have d1 : decide (f ≤ u) = true := decide_eq_true h1
        have d2 : decide (u ≤ 4001) = true := decide_eq_true h2
        have hv : wrightB f u = true := by unfold wrightB; simp; omega
        rw [hv]
        clear hv
        go_enter Tryz.func45, Tryz.ntmps45
        go_wp2
        go_ret
        exact ⟨rfl, below_alloc1 _ _⟩
      ·
        have d0 : decide (0 ≤ f) = true := decide_eq_true h0
        have d1 : decide (f ≤ u) = true := decide_eq_true h1
        have d2 : decide (u ≤ 4001) = false := decide_eq_false h2
        have hv : wrightB f u = false := by unfold wrightB; simp; omega
        rw [hv]
        clear hv
        go_enter Tryz.func45, Tryz.ntmps45
        go_wp2
        go_ret
        exact ⟨rfl, below_alloc1 _ _⟩
    ·
      have d0 : decide (0 ≤ f) = true := decide_eq_true h0
      have d1 : decide (f ≤ u) = false := decide_eq_false h1
      have hv : wrightB f u = false := by unfold wrightB; simp; omega
      rw [hv]
      clear hv
      go_enter Tryz.func45, Tryz.ntmps45
      go_wp2
      go_ret
      exact ⟨rfl, below_alloc1 _ _⟩
  ·
    have d0 : decide (0 ≤ f) = false := decide_eq_false h0
    have hv : wrightB f u = false := by unfold wrightB; simp; omega
    rw [hv]
    clear hv
    go_enter Tryz.func45, Tryz.ntmps45
    go_wp2
    go_ret
    exact ⟨rfl, below_alloc1 _ _⟩
theorem wright_yes (f u : Int) (w : World) (h : wrightB f u = true) : Calls Tryz.prog 45 #[.agg #[.int .i64 f, .int .i64 u]] w fun e w' => e = .returned (.bool true) ∧ Below w.heap.size w w' := by
  have := wright_any f u w; rwa [h] at this
theorem wright_no (f u : Int) (w : World) (h : wrightB f u = false) : Calls Tryz.prog 45 #[.agg #[.int .i64 f, .int .i64 u]] w fun e w' => e = .returned (.bool false) ∧ Below w.heap.size w w' := by
  have := wright_any f u w; rwa [h] at this
set_option maxHeartbeats 1000000 in
theorem has_any (f u day : Int) (w : World) : Calls Tryz.prog 32 #[.agg #[.int .i64 f, .int .i64 u], .int .i64 day] w fun e w' => e = .returned (.bool (hasB f u day)) ∧ Below w.heap.size w w' := by
  by_cases h0 : wrightB f u = true
  ·
    by_cases h1 : f ≤ day
    ·
      by_cases h2 : day < u
      ·
        have H0 := Lib.hid h0
        have d1 : decide (f ≤ day) = true := decide_eq_true h1
        have d2 : decide (day < u) = true := decide_eq_true h2
        have hv : hasB f u day = true := by have hw := H0.out; unfold wrightB at hw; simp at hw; unfold hasB; simp; omega
        rw [hv]
        clear hv h0
        go_enter Tryz.func32, Tryz.ntmps32
        go_wp2_with (go_at_call 45; ((with_reducible refine (wright_yes f u _ H0.out).mono ?_); rintro e w1 ⟨rfl, hb1⟩; obtain ⟨hc, hf⟩ := bcell hb1))
        go_ret
        exact ⟨rfl, below_alloc2 _ hb1⟩
      ·
        have H0 := Lib.hid h0
        have d1 : decide (f ≤ day) = true := decide_eq_true h1
        have d2 : decide (day < u) = false := decide_eq_false h2
        have hv : hasB f u day = false := by have hw := H0.out; unfold wrightB at hw; simp at hw; unfold hasB; simp; omega
        rw [hv]
        clear hv h0
        go_enter Tryz.func32, Tryz.ntmps32
        go_wp2_with (go_at_call 45; ((with_reducible refine (wright_yes f u _ H0.out).mono ?_); rintro e w1 ⟨rfl, hb1⟩; obtain ⟨hc, hf⟩ := bcell hb1))
        go_ret
        exact ⟨rfl, below_alloc2 _ hb1⟩
    ·
      have H0 := Lib.hid h0
      have d1 : decide (f ≤ day) = false := decide_eq_false h1
      have hv : hasB f u day = false := by have hw := H0.out; unfold wrightB at hw; simp at hw; unfold hasB; simp; omega
      rw [hv]
      clear hv h0
      go_enter Tryz.func32, Tryz.ntmps32
      go_wp2_with (go_at_call 45; ((with_reducible refine (wright_yes f u _ H0.out).mono ?_); rintro e w1 ⟨rfl, hb1⟩; obtain ⟨hc, hf⟩ := bcell hb1))
      go_ret
      exact ⟨rfl, below_alloc2 _ hb1⟩
  ·
    have H0 : Hid (wrightB f u = false) := Lib.hid (by simpa using h0)
    have hv : hasB f u day = false := by have hw := H0.out; unfold wrightB at hw; simp at hw; unfold hasB; simp; omega
    rw [hv]
    clear hv h0
    go_enter Tryz.func32, Tryz.ntmps32
    go_wp2_with (go_at_call 45; ((with_reducible refine (wright_no f u _ H0.out).mono ?_); rintro e w1 ⟨rfl, hb1⟩; obtain ⟨hc, hf⟩ := bcell hb1))
    go_ret
    exact ⟨rfl, below_alloc2 _ hb1⟩
theorem has_yes (f u day : Int) (w : World) (h : hasB f u day = true) : Calls Tryz.prog 32 #[.agg #[.int .i64 f, .int .i64 u], .int .i64 day] w fun e w' => e = .returned (.bool true) ∧ Below w.heap.size w w' := by
  have := has_any f u day w; rwa [h] at this
theorem has_no (f u day : Int) (w : World) (h : hasB f u day = false) : Calls Tryz.prog 32 #[.agg #[.int .i64 f, .int .i64 u], .int .i64 day] w fun e w' => e = .returned (.bool false) ∧ Below w.heap.size w w' := by
  have := has_any f u day w; rwa [h] at this
theorem hasB_days (f u : Int) : hasB f u f = daysB f u := by
  unfold hasB daysB; congr 1; apply propext; constructor <;> intro h <;> omega
set_option maxHeartbeats 1000000 in
theorem days_any (f u : Int) (w : World) : Calls Tryz.prog 38 #[.agg #[.int .i64 f, .int .i64 u]] w fun e w' => e = .returned (.bool (daysB f u)) ∧ Below w.heap.size w w' := by
  rw [← hasB_days]
  cases hv : hasB f u f
  all_goals
    have HV := Lib.hid hv
    clear hv
    go_enter Tryz.func38, Tryz.ntmps38
    go_wp2_with (go_at_call 32; (first | ((with_reducible refine (has_yes f u f _ HV.out).mono ?_); rintro e w1 ⟨rfl, hb1⟩) | ((with_reducible refine (has_no f u f _ HV.out).mono ?_); rintro e w1 ⟨rfl, hb1⟩)))
    go_ret
    exact ⟨rfl, below_alloc2 _ hb1⟩
theorem days_yes (f u : Int) (w : World) (h : daysB f u = true) : Calls Tryz.prog 38 #[.agg #[.int .i64 f, .int .i64 u]] w fun e w' => e = .returned (.bool true) ∧ Below w.heap.size w w' := by
  have := days_any f u w; rwa [h] at this
theorem days_no (f u : Int) (w : World) (h : daysB f u = false) : Calls Tryz.prog 38 #[.agg #[.int .i64 f, .int .i64 u]] w fun e w' => e = .returned (.bool false) ∧ Below w.heap.size w w' := by
  have := days_any f u w; rwa [h] at this
theorem cright_yes (s : List UInt8) (w : World) (h : rightL s = true) : Calls Tryz.prog 37 #[strV s] w fun e w' => e = .returned (.bool true) ∧ Below w.heap.size w w' := by
  have := right_any ⟨s.toArray⟩ w; rw [show (⟨s.toArray⟩ : ByteArray).data.toList = s from rfl, h] at this; exact this
theorem cright_no (s : List UInt8) (w : World) (h : rightL s = false) : Calls Tryz.prog 37 #[strV s] w fun e w' => e = .returned (.bool false) ∧ Below w.heap.size w w' := by
  have := right_any ⟨s.toArray⟩ w; rw [show (⟨s.toArray⟩ : ByteArray).data.toList = s from rfl, h] at this; exact this
theorem crref_yes (s : List UInt8) (w : World) (h : rightL s = true) : Calls Tryz.prog 46 #[strV s] w fun e w' => e = .returned (.bool true) ∧ w = w' := by
  have := rright_any ⟨s.toArray⟩ w; rw [show (⟨s.toArray⟩ : ByteArray).data.toList = s from rfl, h] at this; exact this
theorem crref_no (s : List UInt8) (w : World) (h : rightL s = false) : Calls Tryz.prog 46 #[strV s] w fun e w' => e = .returned (.bool false) ∧ w = w' := by
  have := rright_any ⟨s.toArray⟩ w; rw [show (⟨s.toArray⟩ : ByteArray).data.toList = s from rfl, h] at this; exact this
set_option maxHeartbeats 2000000 in
theorem lright_any (x : Lt) (w : World) : Calls Tryz.prog 22 #[aggL x] w fun e w' => e = .returned (.bool (lrightB x)) ∧ Below w.heap.size w w' := by
  by_cases h0 : 1 ≤ x.id
  ·
    by_cases h1 : rightL x.item = true
    ·
      by_cases h2 : daysB x.fr x.un = true
      ·
        by_cases h3 : 1 ≤ x.qty
        ·
          by_cases h4 : x.qty ≤ 1073741824
          ·
            have d0 : decide (1 ≤ x.id) = true := decide_eq_true h0
            have H1 : Hid (rightL x.item = true) := Lib.hid (by simpa using h1)
            have H2 : Hid (daysB x.fr x.un = true) := Lib.hid (by simpa using h2)
            have d3 : decide (1 ≤ x.qty) = true := decide_eq_true h3
            have d4 : decide (x.qty ≤ 1073741824) = true := decide_eq_true h4
            have hv : lrightB x = true := by unfold lrightB qtyB; simp [d0, H1.out, H2.out]; try omega
            rw [hv]
            clear hv h1 h2
            go_enter Tryz.func22, Tryz.ntmps22
            go_wp2_with (first | (go_at_call 37; ((with_reducible refine (cright_yes x.item _ H1.out).mono ?_); rintro e w1 ⟨rfl, hb1⟩; obtain ⟨hc1, hf1⟩ := bcell hb1; have hz1 : w.heap.size < w1.heap.size := by (have := hb1.size; simp only [World.size_alloc] at this; omega))) | (go_at_call 38; ((with_reducible refine (days_yes x.fr x.un _ H2.out).mono ?_); rintro e w2 ⟨rfl, hb2⟩; obtain ⟨hc, hf⟩ := bcell hb2)))
            go_ret
            exact ⟨rfl, below_alloc2 _ (below_two hb1 hb2)⟩
          ·
            have d0 : decide (1 ≤ x.id) = true := decide_eq_true h0
            have H1 : Hid (rightL x.item = true) := Lib.hid (by simpa using h1)
            have H2 : Hid (daysB x.fr x.un = true) := Lib.hid (by simpa using h2)
            have d3 : decide (1 ≤ x.qty) = true := decide_eq_true h3
            have d4 : decide (x.qty ≤ 1073741824) = false := decide_eq_false h4
            have hv : lrightB x = false := by unfold lrightB qtyB; simp [d0, H1.out, H2.out]; try omega
            rw [hv]
            clear hv h1 h2
            go_enter Tryz.func22, Tryz.ntmps22
            go_wp2_with (first | (go_at_call 37; ((with_reducible refine (cright_yes x.item _ H1.out).mono ?_); rintro e w1 ⟨rfl, hb1⟩; obtain ⟨hc1, hf1⟩ := bcell hb1; have hz1 : w.heap.size < w1.heap.size := by (have := hb1.size; simp only [World.size_alloc] at this; omega))) | (go_at_call 38; ((with_reducible refine (days_yes x.fr x.un _ H2.out).mono ?_); rintro e w2 ⟨rfl, hb2⟩; obtain ⟨hc, hf⟩ := bcell hb2)))
            go_ret
            exact ⟨rfl, below_alloc2 _ (below_two hb1 hb2)⟩
        ·
          have d0 : decide (1 ≤ x.id) = true := decide_eq_true h0
          have H1 : Hid (rightL x.item = true) := Lib.hid (by simpa using h1)
          have H2 : Hid (daysB x.fr x.un = true) := Lib.hid (by simpa using h2)
          have d3 : decide (1 ≤ x.qty) = false := decide_eq_false h3
          have hv : lrightB x = false := by unfold lrightB qtyB; simp [d0, H1.out, H2.out]; try omega
          rw [hv]
          clear hv h1 h2
          go_enter Tryz.func22, Tryz.ntmps22
          go_wp2_with (first | (go_at_call 37; ((with_reducible refine (cright_yes x.item _ H1.out).mono ?_); rintro e w1 ⟨rfl, hb1⟩; obtain ⟨hc1, hf1⟩ := bcell hb1; have hz1 : w.heap.size < w1.heap.size := by (have := hb1.size; simp only [World.size_alloc] at this; omega))) | (go_at_call 38; ((with_reducible refine (days_yes x.fr x.un _ H2.out).mono ?_); rintro e w2 ⟨rfl, hb2⟩; obtain ⟨hc, hf⟩ := bcell hb2)))
          go_ret
          exact ⟨rfl, below_alloc2 _ (below_two hb1 hb2)⟩
      ·
        have d0 : decide (1 ≤ x.id) = true := decide_eq_true h0
        have H1 : Hid (rightL x.item = true) := Lib.hid (by simpa using h1)
        have H2 : Hid (daysB x.fr x.un = false) := Lib.hid (by simpa using h2)
        have hv : lrightB x = false := by unfold lrightB qtyB; simp [d0, H1.out, H2.out]; try omega
        rw [hv]
        clear hv h1 h2
        go_enter Tryz.func22, Tryz.ntmps22
        go_wp2_with (first | (go_at_call 37; ((with_reducible refine (cright_yes x.item _ H1.out).mono ?_); rintro e w1 ⟨rfl, hb1⟩; obtain ⟨hc1, hf1⟩ := bcell hb1; have hz1 : w.heap.size < w1.heap.size := by (have := hb1.size; simp only [World.size_alloc] at this; omega))) | (go_at_call 38; ((with_reducible refine (days_no x.fr x.un _ H2.out).mono ?_); rintro e w2 ⟨rfl, hb2⟩; obtain ⟨hc, hf⟩ := bcell hb2)))
        go_ret
        exact ⟨rfl, below_alloc2 _ (below_two hb1 hb2)⟩
    ·
      have d0 : decide (1 ≤ x.id) = true := decide_eq_true h0
      have H1 : Hid (rightL x.item = false) := Lib.hid (by simpa using h1)
      have hv : lrightB x = false := by unfold lrightB qtyB; simp [d0, H1.out]; try omega
      rw [hv]
      clear hv h1
      go_enter Tryz.func22, Tryz.ntmps22
      go_wp2_with (first | (go_at_call 37; ((with_reducible refine (cright_no x.item _ H1.out).mono ?_); rintro e w1 ⟨rfl, hb1⟩; obtain ⟨hc1, hf1⟩ := bcell hb1; have hz1 : w.heap.size < w1.heap.size := by (have := hb1.size; simp only [World.size_alloc] at this; omega))))
      go_ret
      exact ⟨rfl, below_alloc2 _ hb1⟩
  ·
    have d0 : decide (1 ≤ x.id) = false := decide_eq_false h0
    have hv : lrightB x = false := by unfold lrightB qtyB; simp [d0]; try omega
    rw [hv]
    clear hv
    go_enter Tryz.func22, Tryz.ntmps22
    go_wp2
    go_ret
    exact ⟨rfl, below_alloc1 _ _⟩
set_option maxHeartbeats 2000000 in
theorem lrref_any (x : Lt) (w : World) : Calls Tryz.prog 34 #[aggL x] w fun e w' => e = .returned (.bool (lrightB x)) ∧ Below w.heap.size w w' := by
  by_cases h0 : 1 ≤ x.id
  ·
    by_cases h1 : rightL x.item = true
    ·
      by_cases h2 : 0 ≤ x.fr
      ·
        by_cases h3 : x.fr < x.un
        ·
          by_cases h4 : x.un ≤ 4001
          ·
            by_cases h5 : 1 ≤ x.qty
            ·
              by_cases h6 : x.qty ≤ 1073741824
              ·
                have d0 : decide (1 ≤ x.id) = true := decide_eq_true h0
                have H1 : Hid (rightL x.item = true) := Lib.hid (by simpa using h1)
                have d2 : decide (0 ≤ x.fr) = true := decide_eq_true h2
                have d3 : decide (x.fr < x.un) = true := decide_eq_true h3
                have d4 : decide (x.un ≤ 4001) = true := decide_eq_true h4
                have d5 : decide (1 ≤ x.qty) = true := decide_eq_true h5
                have d6 : decide (x.qty ≤ 1073741824) = true := decide_eq_true h6
                have hv : lrightB x = true := by unfold lrightB qtyB daysB; simp [d0, H1.out]; try omega
                rw [hv]
                clear hv h1
                go_enter Tryz.func34, Tryz.ntmps34
                go_wp2_with (first | (go_at_call 46; ((with_reducible refine (crref_yes x.item _ H1.out).mono ?_); rintro e w1 ⟨rfl, rfl⟩)))
                go_ret
                exact ⟨rfl, below_alloc1 _ _⟩
              ·
                have d0 : decide (1 ≤ x.id) = true := decide_eq_true h0
                have H1 : Hid (rightL x.item = true) := Lib.hid (by simpa using h1)
                have d2 : decide (0 ≤ x.fr) = true := decide_eq_true h2
                have d3 : decide (x.fr < x.un) = true := decide_eq_true h3
                have d4 : decide (x.un ≤ 4001) = true := decide_eq_true h4
                have d5 : decide (1 ≤ x.qty) = true := decide_eq_true h5
                have d6 : decide (x.qty ≤ 1073741824) = false := decide_eq_false h6
                have hv : lrightB x = false := by unfold lrightB qtyB daysB; simp [d0, H1.out]; try omega
                rw [hv]
                clear hv h1
                go_enter Tryz.func34, Tryz.ntmps34
                go_wp2_with (first | (go_at_call 46; ((with_reducible refine (crref_yes x.item _ H1.out).mono ?_); rintro e w1 ⟨rfl, rfl⟩)))
                go_ret
                exact ⟨rfl, below_alloc1 _ _⟩
            ·
              have d0 : decide (1 ≤ x.id) = true := decide_eq_true h0
              have H1 : Hid (rightL x.item = true) := Lib.hid (by simpa using h1)
              have d2 : decide (0 ≤ x.fr) = true := decide_eq_true h2
              have d3 : decide (x.fr < x.un) = true := decide_eq_true h3
              have d4 : decide (x.un ≤ 4001) = true := decide_eq_true h4
              have d5 : decide (1 ≤ x.qty) = false := decide_eq_false h5
              have hv : lrightB x = false := by unfold lrightB qtyB daysB; simp [d0, H1.out]; try omega
              rw [hv]
              clear hv h1
              go_enter Tryz.func34, Tryz.ntmps34
              go_wp2_with (first | (go_at_call 46; ((with_reducible refine (crref_yes x.item _ H1.out).mono ?_); rintro e w1 ⟨rfl, rfl⟩)))
              go_ret
              exact ⟨rfl, below_alloc1 _ _⟩
          ·
            have d0 : decide (1 ≤ x.id) = true := decide_eq_true h0
            have H1 : Hid (rightL x.item = true) := Lib.hid (by simpa using h1)
            have d2 : decide (0 ≤ x.fr) = true := decide_eq_true h2
            have d3 : decide (x.fr < x.un) = true := decide_eq_true h3
            have d4 : decide (x.un ≤ 4001) = false := decide_eq_false h4
            have hv : lrightB x = false := by unfold lrightB qtyB daysB; simp [d0, H1.out]; try omega
            rw [hv]
            clear hv h1
            go_enter Tryz.func34, Tryz.ntmps34
            go_wp2_with (first | (go_at_call 46; ((with_reducible refine (crref_yes x.item _ H1.out).mono ?_); rintro e w1 ⟨rfl, rfl⟩)))
            go_ret
            exact ⟨rfl, below_alloc1 _ _⟩
        ·
          have d0 : decide (1 ≤ x.id) = true := decide_eq_true h0
          have H1 : Hid (rightL x.item = true) := Lib.hid (by simpa using h1)
          have d2 : decide (0 ≤ x.fr) = true := decide_eq_true h2
          have d3 : decide (x.fr < x.un) = false := decide_eq_false h3
          have hv : lrightB x = false := by unfold lrightB qtyB daysB; simp [d0, H1.out]; try omega
          rw [hv]
          clear hv h1
          go_enter Tryz.func34, Tryz.ntmps34
          go_wp2_with (first | (go_at_call 46; ((with_reducible refine (crref_yes x.item _ H1.out).mono ?_); rintro e w1 ⟨rfl, rfl⟩)))
          go_ret
          exact ⟨rfl, below_alloc1 _ _⟩
      ·
        have d0 : decide (1 ≤ x.id) = true := decide_eq_true h0
        have H1 : Hid (rightL x.item = true) := Lib.hid (by simpa using h1)
        have d2 : decide (0 ≤ x.fr) = false := decide_eq_false h2
        have hv : lrightB x = false := by unfold lrightB qtyB daysB; simp [d0, H1.out]; try omega
        rw [hv]
        clear hv h1
        go_enter Tryz.func34, Tryz.ntmps34
        go_wp2_with (first | (go_at_call 46; ((with_reducible refine (crref_yes x.item _ H1.out).mono ?_); rintro e w1 ⟨rfl, rfl⟩)))
        go_ret
        exact ⟨rfl, below_alloc1 _ _⟩
    ·
      have d0 : decide (1 ≤ x.id) = true := decide_eq_true h0
      have H1 : Hid (rightL x.item = false) := Lib.hid (by simpa using h1)
      have hv : lrightB x = false := by unfold lrightB qtyB daysB; simp [d0, H1.out]; try omega
      rw [hv]
      clear hv h1
      go_enter Tryz.func34, Tryz.ntmps34
      go_wp2_with (first | (go_at_call 46; ((with_reducible refine (crref_no x.item _ H1.out).mono ?_); rintro e w1 ⟨rfl, rfl⟩)))
      go_ret
      exact ⟨rfl, below_alloc1 _ _⟩
  ·
    have d0 : decide (1 ≤ x.id) = false := decide_eq_false h0
    have hv : lrightB x = false := by unfold lrightB qtyB daysB; simp [d0]; try omega
    rw [hv]
    clear hv
    go_enter Tryz.func34, Tryz.ntmps34
    go_wp2
    go_ret
    exact ⟨rfl, below_alloc1 _ _⟩
end Go.Proofs.YtjhijinbpdnmeaaGreat
end
section
/- The contracts of cmp.Compare, cmp.Or, lot.Compare and of the reference's Compare. -/
namespace Go.Proofs.YtjhijinbpdnmeaaGreat
open Go.ChangeShapes Go.WideShapes Go.ChangeAt Go.RowKit
set_option linter.unusedVariables false

def cmpI (a b : Int) : Int := if a < b then -1 else if b < a then 1 else 0
def cmpL (x y : Lt) : Int := if cmpI x.un y.un = 0 then cmpI x.id y.id else cmpI x.un y.un
def orI (a b : Int) : Int := if a = 0 then b else a
theorem cmpI_lt {a b : Int} (h : a < b) : cmpI a b = -1 := by unfold cmpI; rw [if_pos h]
theorem cmpI_gt {a b : Int} (h : b < a) : cmpI a b = 1 := by unfold cmpI; rw [if_neg (by omega), if_pos h]
theorem cmpI_eq {a b : Int} (h : a = b) : cmpI a b = 0 := by unfold cmpI; rw [if_neg (by omega), if_neg (by omega)]
theorem cmpI_cases (a b : Int) : (a < b ∧ cmpI a b = -1) ∨ (b < a ∧ cmpI a b = 1) ∨ (a = b ∧ cmpI a b = 0) := by
  by_cases h : a < b
  · exact .inl ⟨h, cmpI_lt h⟩
  · by_cases h' : b < a
    · exact .inr (.inl ⟨h', cmpI_gt h'⟩)
    · exact .inr (.inr ⟨by omega, cmpI_eq (by omega)⟩)
theorem cmpL_or (x y : Lt) : cmpL x y = orI (cmpI x.un y.un) (cmpI x.id y.id) := rfl

theorem nan_any (a : Int) (w : World) : Calls Tryz.prog 74 #[.int .i64 a] w fun e w' => e = .returned (.bool false) ∧ w = w' := by
  go_enter Tryz.func74, Tryz.ntmps74
  go_wp2
  go_ret
  simp
theorem ccmp_any (a b : Int) (w : World) : Calls Tryz.prog 44 #[.int .i64 a, .int .i64 b] w fun e w' => e = .returned (.int .i64 (cmpI a b)) ∧ w = w' := by
  rcases cmpI_cases a b with ⟨h, e⟩ | ⟨h, e⟩ | ⟨h, e⟩
  · rw [e]
    clear e
    go_enter Tryz.func44, Tryz.ntmps44
    go_wp2_with (go_at_call 74; ((with_reducible refine (nan_any _ _).mono ?_); rintro e w1 ⟨rfl, rfl⟩))
    go_ret
    exact ⟨rfl, rfl⟩
  · rw [e]
    clear e
    have h1 : decide (a < b) = false := decide_eq_false (by omega)
    go_enter Tryz.func44, Tryz.ntmps44
    go_wp2_with (go_at_call 74; ((with_reducible refine (nan_any _ _).mono ?_); rintro e w1 ⟨rfl, rfl⟩))
    go_ret
    exact ⟨rfl, rfl⟩
  · rw [e]
    clear e
    subst h
    go_enter Tryz.func44, Tryz.ntmps44
    go_wp2_with (go_at_call 74; ((with_reducible refine (nan_any _ _).mono ?_); rintro e w1 ⟨rfl, rfl⟩))
    go_ret
    exact ⟨rfl, rfl⟩
set_option maxHeartbeats 1000000 in
theorem or_any (u v : Int) (g : Nat) (w : World) (h0 : w.cell? ⟨g, 0, none⟩ = some (.int .i64 u)) (h1 : w.cell? ⟨g, 1, none⟩ = some (.int .i64 v)) :
    Calls Tryz.prog 43 #[.slice (some ⟨g, 0, none⟩) 2 2] w fun e w' => e = .returned (.int .i64 (orI u v)) ∧ w = w' := by
  by_cases hu : u = 0
  · subst hu
    by_cases hv : v = 0
    · subst hv
      go_enter Tryz.func43, Tryz.ntmps43
      go_wp2
      go_loop [8] (fun i => i = .int .i64 0 ∨ i = .int .i64 1 ∨ i = .int .i64 2) (fun i => 2 - (intOf i).toNat)
      case atStart => exact .inl rfl
      case round =>
        rcases hrel with rfl | rfl | rfl
        · go_wp2
          go_round
          case rel => exact .inr (.inl rfl)
          case measure => simp [intOf]
        · go_wp2
          go_round
          case rel => exact .inr (.inr rfl)
          case measure => simp [intOf]
        · go_wp2
          go_ret
          exact ⟨rfl, rfl⟩
    · have hb1 : (v != 0) = true := by simpa using hv
      have hb2 : (v == 0) = false := by simpa using hv
      have HV := Lib.hid hv
      clear hv
      go_enter Tryz.func43, Tryz.ntmps43
      go_wp2
      go_loop [8] (fun i => i = .int .i64 0 ∨ i = .int .i64 1) (fun i => 2 - (intOf i).toNat)
      case atStart => exact .inl rfl
      case round =>
        rcases hrel with rfl | rfl
        · go_wp2
          go_round
          case rel => exact .inr rfl
          case measure => simp [intOf]
        · go_wp2
          go_ret
          exact ⟨rfl, rfl⟩
  · have hb1 : (u != 0) = true := by simpa using hu
    have hb2 : (u == 0) = false := by simpa using hu
    have hor : orI u v = u := by unfold orI; rw [if_neg hu]
    rw [hor]
    clear hu hor
    go_enter Tryz.func43, Tryz.ntmps43
    go_wp2
    go_loop [8] (fun i => i = .int .i64 0) (fun i => 0)
    case atStart => rfl
    case round =>
      obtain rfl := hrel
      go_wp2
      go_ret
      exact ⟨rfl, rfl⟩
end Go.Proofs.YtjhijinbpdnmeaaGreat
end
section
/- The contracts of lot.Compare and of the reference's Compare. -/
namespace Go.Proofs.YtjhijinbpdnmeaaGreat
open Go.ChangeShapes Go.WideShapes Go.ChangeAt Go.RowKit Go.Sort
set_option linter.unusedVariables false

theorem two_cells (W : World) (g : Nat) (hg : g = W.heap.size) (u v : Value) (t : TypeId) : (W.alloc (.cells #[u, v] t)).drew.cell? ⟨g, 0, none⟩ = some u ∧ (W.alloc (.cells #[u, v] t)).drew.cell? ⟨g, 1, none⟩ = some v := by
  subst hg
  have h0 := fresh_cell W #[u, v] t 0
  have h1 := fresh_cell W #[u, v] t 1
  rw [addr0] at h0 h1
  exact ⟨h0, h1⟩
/-- A world that has drawn, and that has blocks more. -/
def Grown (w w' : World) : Prop := ∃ q os, w' = grow (w.drewN q) os
theorem Grown.refl (w : World) : Grown w w := ⟨0, #[], by rw [grow_empty]; rfl⟩
theorem Grown.alloc {w w' : World} (h : Grown w w') (o : Obj) : Grown w (w'.alloc o) := by
  obtain ⟨q, os, rfl⟩ := h
  exact ⟨q, os ++ #[o], by rw [alloc_eq_grow, grow_grow]⟩
theorem Grown.drew {w w' : World} (h : Grown w w') : Grown w w'.drew := by
  obtain ⟨q, os, rfl⟩ := h
  exact ⟨q + 1, os, rfl⟩
theorem Grown.below {w w' : World} (h : Grown w w') : Below w.heap.size w w' := by
  obtain ⟨q, os, rfl⟩ := h
  refine ⟨rfl, rfl, rfl, by simp [grow], fun i hi => ?_⟩
  show ((w.drewN q).heap ++ os)[i]? = _
  rw [Array.getElem?_append_left (by show i < w.heap.size; omega)]
  rfl
set_option maxHeartbeats 2000000 in
theorem compare_grown (x y : Lt) (w : World) : Calls Tryz.prog 26 #[aggL x, aggL y] w fun e w' => e = .returned (.int .i64 (cmpL x y)) ∧ ∃ q os, w' = grow (w.drewN q) os := by
  rw [cmpL_or]
  obtain ⟨u, hu⟩ : ∃ u, u = cmpI x.un y.un := ⟨_, rfl⟩
  obtain ⟨v, hv⟩ : ∃ v, v = cmpI x.id y.id := ⟨_, rfl⟩
  rw [← hu, ← hv]
  have hc1 : ∀ W, Calls Tryz.prog 44 #[.int .i64 x.un, .int .i64 y.un] W fun e w' => e = .returned (.int .i64 u) ∧ W = w' := fun W => by rw [hu]; exact ccmp_any _ _ W
  have hc2 : ∀ W, Calls Tryz.prog 44 #[.int .i64 x.id, .int .i64 y.id] W fun e w' => e = .returned (.int .i64 v) ∧ W = w' := fun W => by rw [hv]; exact ccmp_any _ _ W
  have HC1 := Lib.hid hc1
  have HC2 := Lib.hid hc2
  clear hu hv hc1 hc2
  go_enter Tryz.func26, Tryz.ntmps26
  go_wp2_with fail
  go_region_held3 (fun w' => w'.cell? ⟨w.heap.size, 0, none⟩ = some (.int .i64 x.id) ∧ w'.cell? ⟨w.heap.size, 3, none⟩ = some (.int .i64 x.un) ∧ w'.cell? ⟨w.heap.size + 1, 0, none⟩ = some (.int .i64 y.id) ∧ w'.cell? ⟨w.heap.size + 1, 3, none⟩ = some (.int .i64 y.un)) (go_keep)
    (first
      | (go_at_call 44; (first | ((with_reducible refine (HC1.out _).mono ?_); rintro e w1 ⟨rfl, rfl⟩) | ((with_reducible refine (HC2.out _).mono ?_); rintro e w1 ⟨rfl, rfl⟩)))
      | (go_at_call 43; ((with_reducible refine (or_any u v _ _ ?_ ?_).mono ?_); (exact (two_cells _ _ (by simp) _ _ _).1); (exact (two_cells _ _ (by simp) _ _ _).2); rintro e w1 ⟨rfl, rfl⟩)))
  go_wp2
  go_ret
  exact ⟨rfl, ((((Grown.refl w).alloc _).alloc _).alloc _).drew⟩
theorem compare_any (x y : Lt) (w : World) : Calls Tryz.prog 26 #[aggL x, aggL y] w fun e w' => e = .returned (.int .i64 (cmpL x y)) ∧ Below w.heap.size w w' :=
  (compare_grown x y w).mono fun e w' ⟨he, hw⟩ => ⟨he, Grown.below hw⟩

theorem below_alloc3 (w : World) (o o' : Obj) : Below w.heap.size w ((w.alloc o).alloc o') := (below_alloc1 w o).alloc (by simp) _
set_option maxHeartbeats 2000000 in
theorem comparer_any (x y : Lt) (w : World) : Calls Tryz.prog 33 #[aggL x, aggL y] w fun e w' => e = .returned (.int .i64 (cmpL x y)) ∧ Below w.heap.size w w' := by
  unfold cmpL
  rcases cmpI_cases x.un y.un with ⟨h, e⟩ | ⟨h, e⟩ | ⟨h, e⟩
  · rw [e, if_neg (by decide)]
    clear e
    go_enter Tryz.func33, Tryz.ntmps33
    go_wp2
    go_ret
    exact ⟨rfl, below_alloc3 _ _ _⟩
  · rw [e, if_neg (by decide)]
    clear e
    have h1 : decide (x.un < y.un) = false := decide_eq_false (by omega)
    go_enter Tryz.func33, Tryz.ntmps33
    go_wp2
    go_ret
    exact ⟨rfl, below_alloc3 _ _ _⟩
  · rw [e, if_pos rfl]
    clear e
    have h1 : decide (x.un < y.un) = false := decide_eq_false (by omega)
    have h2 : decide (y.un < x.un) = false := decide_eq_false (by omega)
    clear h
    rcases cmpI_cases x.id y.id with ⟨h, e⟩ | ⟨h, e⟩ | ⟨h, e⟩
    · rw [e]
      clear e
      go_enter Tryz.func33, Tryz.ntmps33
      go_wp2
      go_ret
      exact ⟨rfl, below_alloc3 _ _ _⟩
    · rw [e]
      clear e
      have h3 : decide (x.id < y.id) = false := decide_eq_false (by omega)
      go_enter Tryz.func33, Tryz.ntmps33
      go_wp2
      go_ret
      exact ⟨rfl, below_alloc3 _ _ _⟩
    · rw [e]
      clear e
      have h3 : decide (x.id < y.id) = false := decide_eq_false (by omega)
      have h4 : decide (y.id < x.id) = false := decide_eq_false (by omega)
      clear h
      go_enter Tryz.func33, Tryz.ntmps33
      go_wp2
      go_ret
      exact ⟨rfl, below_alloc3 _ _ _⟩
end Go.Proofs.YtjhijinbpdnmeaaGreat
end
