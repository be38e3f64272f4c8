/- Texts compared. -/
import Derived.Test.YtfppiigmibjbnaaGreatJoins
import Derived.Laws.Cover1
import Derived.Sort.Walk0
namespace Go.Proofs.YtfppiigmibjbnaaGreat
open Go.ChangeShapes Go.WideShapes Go.ChangeAt Go.RowKit Go.Maps
set_option linter.unusedVariables false

theorem enc_list (a : List UInt8) : (⟨a.toArray⟩ : ByteArray).toList = a := by rw [ByteArray.toList_eq]
theorem str_geq (t : TypeId) (a b : List UInt8) (w : World) : (binOp .geq t (encStr a) (encStr b)).run Tryz.prog w = .ok (.bool (!decide (a < b))) w := by
  rw [binOp_string_geq, enc_list, enc_list, bytesLess_eq]; rfl
theorem str_lss (t : TypeId) (a b : List UInt8) (w : World) : (binOp .lss t (encStr a) (encStr b)).run Tryz.prog w = .ok (.bool (decide (a < b))) w := by
  rw [binOp_string_lss, enc_list, enc_list, bytesLess_eq]; rfl
theorem str_eql (t : TypeId) (a b : List UInt8) (w : World) : (binOp .eql t (encStr a) (encStr b)).run Tryz.prog w = .ok (.bool (decide (a = b))) w := by
  have e : binOp .eql t (encStr a) (encStr b) = pure (.bool ((⟨a.toArray⟩ : ByteArray).toList == (⟨b.toArray⟩ : ByteArray).toList)) := by simp [binOp, Op.stringOp]
  rw [e, enc_list, enc_list]
  by_cases h : a = b <;> simp [h]
theorem str_neq (t : TypeId) (a b : List UInt8) (w : World) : (binOp .neq t (encStr a) (encStr b)).run Tryz.prog w = .ok (.bool (!decide (a = b))) w := by
  have e : binOp .neq t (encStr a) (encStr b) = pure (.bool (!((⟨a.toArray⟩ : ByteArray).toList == (⟨b.toArray⟩ : ByteArray).toList))) := by simp [binOp, Op.stringOp]
  rw [e, enc_list, enc_list]
  by_cases h : a = b <;> simp [h]
theorem insKey_length (x : List UInt8) : ∀ l : List (List UInt8), (insKey x l).length ≤ l.length + 1
  | [] => by simp [insKey]
  | y :: l => by
    unfold insKey
    split
    · simp
    · split
      · simp
      · have := insKey_length x l; simp; omega
theorem joined_length (l : List Pt) : (joined l).length ≤ l.length := by
  unfold joined
  rw [List.length_map]
  induction l with
  | nil => simp [keysOf]
  | cons p l ih => have := insKey_length p.1 (keysOf l); simp only [keysOf, List.length_cons]; omega
theorem IsJoin.rise {l out : List Pt} (h : IsJoin l out) {k : Nat} {p q : Pt} (hp : out[k]? = some p) (hq : out[k + 1]? = some q) : p.1 < q.1 := by
  have hk := List.getElem?_eq_some_iff.1 hp
  have hk1 := List.getElem?_eq_some_iff.1 hq
  have := (List.pairwise_iff_getElem.1 h.1) k (k + 1) hk.1 hk1.1 (by omega)
  rw [hk.2, hk1.2] at this
  exact this
/-- Each part is found among what is joined. -/
theorem IsJoin.found {l out : List Pt} (h : IsJoin l out) (hok : JoinOk l) {p : Pt} (hp : p ∈ l) : ∃ (k : Nat) (q : Pt), out[k]? = some q ∧ q.1 = p.1 ∧ p.2 ≤ q.2 := by
  have hm : (p.1, tot p.1 l) ∈ out := (h.2 _ _).2 ⟨List.mem_map.2 ⟨p, hp, rfl⟩, rfl⟩
  obtain ⟨k, hk, he⟩ := List.getElem_of_mem hm
  exact ⟨k, (p.1, tot p.1 l), by rw [List.getElem?_eq_getElem hk, he], rfl, tot_mem_le p.1 l (fun q hq => (hok.1 q hq).1) hp⟩
theorem IsJoin.sized {l out : List Pt} (h : IsJoin l out) (hok : JoinOk l) (hs : Sized l) : Sized out := fun p hp => by
  obtain ⟨it, q⟩ := p
  obtain ⟨hm, rfl⟩ := (h.2 it q).1 hp
  obtain ⟨⟨it', q'⟩, hr, rfl⟩ := List.mem_map.1 hm
  have h0 := tot_nonneg it' l (fun p hp => (hok.1 p hp).1)
  have h1 := hok.2 it'
  exact ⟨(hs _ hr).1, by simp only; omega, by simp only; omega⟩
end Go.Proofs.YtfppiigmibjbnaaGreat
