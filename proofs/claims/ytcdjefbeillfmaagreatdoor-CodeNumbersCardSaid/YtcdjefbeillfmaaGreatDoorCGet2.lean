/- The contract of code.Get. -/
import Derived.Test.YtcdjefbeillfmaaGreatDoorCGet
namespace Go.Proofs.YtcdjefbeillfmaaGreatDoor
open Go.ChangeShapes Go.WideShapes Go.ChangeAt Go.RowKit
set_option linter.unusedVariables false
set_option maxRecDepth 100000

/-- 'string(b)' of bytes that lie. -/
theorem conv_str (w : World) (src dst e : TypeId) (ad : Addr) (cap : Nat) (l : List UInt8) (hs : Tryz.prog.underlying src = some (.slice e)) (he : Tryz.prog.underlying e = some (.int .u8)) (hd : Tryz.prog.underlying dst = some .string)
    (hc : ∀ j u, (bcells l)[j]? = some u → w.cell? (ad.add j) = some u) : (convert src dst (.slice (some ad) l.length cap)).run Tryz.prog w = .ok (.string ⟨l.toArray⟩) w :=
  run_convert_bytes_back w src dst e ad cap l hs he hd fun j hj => hc j _ (bcells_get (List.getElem?_eq_getElem hj))

theorem ret_sib {a b : ByteArray} {m n : Int} {x y : Bool} (h : a = b) (h' : m = n) (h'' : x = y) : Ending.returned (.tuple #[.string a, .int .i64 m, .bool x]) = .returned (.tuple #[.string b, .int .i64 n, .bool y]) := by rw [h, h', h'']

def Got (l : List UInt8) (w : World) (e : Ending) (w' : World) : Prop :=
  e = .returned (.tuple #[.string ⟨(getS l).toArray⟩, .int .i64 (getN l), .bool (getB l)]) ∧ Below w.heap.size w w'

set_option maxHeartbeats 1000000 in
theorem get_core (ad : Addr) (n cap k : Nat) (t : ByteArray) (x : Bool) (w : World) (h1 : 1 ≤ n) (hn : n ≤ 140737488355328) (hc : n ≤ cap) (hcm : cap ≤ maxLen) (hk : k ≤ 255) (hcell : w.cell? ad = some (.int .u8 (k : Int))) (hle : 1 + k ≤ n)
    (hcv : (convert 22 9 (.slice (some (if cap = 1 then ad else ad.add 1)) k (cap - 1))).run Tryz.prog w = .ok (.string t) w) (hx : orNoneL t.data.toList = x) :
    Calls Tryz.prog 7 #[.slice (some ad) n cap] w fun e w' => e = .returned (.tuple #[.string (if x then t else ⟨#[]⟩), .int .i64 (if x then 1 + (k : Int) else 0), .bool x]) ∧ Below w.heap.size w w' := by
  unfold maxLen at hcm
  have hor := fun W => ornone_any t W
  rw [hx] at hor
  have HOR := Lib.hid hor
  have HX := Lib.hid hx
  clear hor hx
  have hne : ((n : Int) == 0) = false := by simp; omega
  have hd : decide ((n : Int) < 1 + (k : Int)) = false := decide_eq_false (by omega)
  by_cases hcap : cap = 1
  · subst hcap
    obtain rfl : n = 1 := by omega
    obtain rfl : k = 0 := by omega
    rw [if_pos rfl] at hcv
    cases x
    · go_enter Tryz.func7, Tryz.ntmps7
      go_wp2_with fail
      try rw [hcv]
      clear hcv
      go_wp2_with (go_at_call 21; ((with_reducible refine (HOR.out _).mono ?_); rintro e w' ⟨rfl, hb⟩))
      go_ret3
      exact ⟨rfl, hb⟩
    · go_enter Tryz.func7, Tryz.ntmps7
      go_wp2_with fail
      try rw [hcv]
      clear hcv
      go_wp2_with (go_at_call 21; ((with_reducible refine (HOR.out _).mono ?_); rintro e w' ⟨rfl, hb⟩))
      go_ret3
      exact ⟨rfl, hb⟩
  · rw [if_neg hcap, show ad.add 1 = ⟨ad.block, ad.off + 1, none⟩ from rfl] at hcv
    cases x
    · go_enter Tryz.func7, Tryz.ntmps7
      go_wp2_with fail
      try rw [hcv]
      clear hcv
      go_wp2_with (go_at_call 21; ((with_reducible refine (HOR.out _).mono ?_); rintro e w' ⟨rfl, hb⟩))
      go_ret3
      exact ⟨rfl, hb⟩
    · go_enter Tryz.func7, Tryz.ntmps7
      go_wp2_with fail
      try rw [hcv]
      clear hcv
      go_wp2_with (go_at_call 21; ((with_reducible refine (HOR.out _).mono ?_); rintro e w' ⟨rfl, hb⟩))
      go_ret3
      exact ⟨rfl, hb⟩

set_option maxHeartbeats 1000000 in
theorem get_long (ad : Addr) (n cap k : Nat) (w : World) (h1 : 1 ≤ n) (hn : n ≤ 140737488355328) (hk : k ≤ 255) (hcell : w.cell? ad = some (.int .u8 (k : Int))) (hle : n < 1 + k) :
    Calls Tryz.prog 7 #[.slice (some ad) n cap] w fun e w' => e = .returned (.tuple #[.string ⟨#[]⟩, .int .i64 0, .bool false]) ∧ Below w.heap.size w w' := by
  have hne : ((n : Int) == 0) = false := by simp; omega
  have hd : decide ((n : Int) < 1 + (k : Int)) = true := decide_eq_true (by omega)
  go_enter Tryz.func7, Tryz.ntmps7
  go_wp2_with fail
  go_ret3
  exact ⟨rfl, Below.refl _ _⟩

theorem get_any (v : Value) (l : List UInt8) (B : Nat) (w : World) (hv : BSl w B v l) (hB : B ≤ w.heap.size) (hlen : l.length ≤ 140737488355328) :
    Calls Tryz.prog 7 #[v] w (Got l w) := by
  obtain ⟨A, cap, rfl, hc1, hc2, hcz, hl⟩ := id hv
  cases l with
  | nil =>
    go_enter Tryz.func7, Tryz.ntmps7
    go_wp2
    go_ret3
    exact ⟨rfl, Below.refl _ _⟩
  | cons c r =>
    obtain ⟨ad, rfl, hab, hcl⟩ := hl (by simp [bcells])
    have hc0 := hcl 0 (.int .u8 (c.toNat : Int)) rfl
    rw [show ad.add 0 = ad from rfl] at hc0
    have hb8 := c.toNat_lt
    by_cases hle : c.toNat ≤ r.length
    · have hlt : (r.take c.toNat).length = c.toNat := by rw [List.length_take]; omega
      have hcv : (convert 22 9 (.slice (some (if cap = 1 then ad else ad.add 1)) c.toNat (cap - 1))).run Tryz.prog w = .ok (.string ⟨(r.take c.toNat).toArray⟩) w := by
        have h := conv_str w 22 9 5 (if cap = 1 then ad else ad.add 1) (cap - 1) (r.take c.toNat) Tryz.underlying22 Tryz.underlying5 Tryz.underlying9 (fun j u hu => by
          have hj := (List.getElem?_eq_some_iff.1 hu).1
          rw [bcells_len, hlt] at hj
          rw [List.length_cons] at hc1
          rw [if_neg (by omega), addr_add]
          refine hcl (1 + j) u ?_
          rw [Nat.add_comm]
          rw [← bcells_take, List.getElem?_take, if_pos hj] at hu
          exact hu)
        rwa [hlt] at h
      refine (get_core ad (c :: r).length cap c.toNat ⟨(r.take c.toNat).toArray⟩ (orNoneL (r.take c.toNat)) w (by simp) hlen hc1 hc2 (by omega) hc0 (by rw [List.length_cons]; omega) hcv rfl).mono fun e w' ⟨he, hb⟩ => ?_
      subst he
      refine ⟨?_, hb⟩
      cases ho : orNoneL (r.take c.toNat) with
      | false =>
        have hg : getL (c :: r) = none := by simp only [getL]; rw [if_neg (by rw [ho]; simp)]
        simp [getS, getN, getB, hg]
      | true =>
        have hg : getL (c :: r) = some (r.take c.toNat) := by simp only [getL]; rw [if_pos ⟨hle, ho⟩]
        simp [getS, getN, getB, hg, hlt]
    · refine (get_long ad (c :: r).length cap c.toNat w (by simp) hlen (by omega) hc0 (by rw [List.length_cons]; omega)).mono fun e w' ⟨he, hb⟩ => ?_
      subst he
      refine ⟨?_, hb⟩
      have hg : getL (c :: r) = none := by simp only [getL]; rw [if_neg (by omega)]
      simp [getS, getN, getB, hg]
end Go.Proofs.YtcdjefbeillfmaaGreatDoor
