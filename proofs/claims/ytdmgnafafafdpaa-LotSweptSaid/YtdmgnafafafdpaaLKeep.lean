/- lot.keep, handed any predicate; lot.Sweep, Of, On. -/
import Derived.Test.YtdmgnafafafdpaaLSort2
namespace Go.Proofs.Ytdmgnafafafdpaa
open Go.ChangeShapes Go.WideShapes Go.ChangeAt Go.RowKit Go.Shelf
set_option linter.unusedVariables false

theorem grown_below {w w' : World} {B : Nat} (h : Below B w w') (hB : w.heap.size ≤ B) : w.grownBy w' none := ⟨h.os, h.tape, h.output, h.size, fun i hi _ => h.block i (Nat.lt_of_lt_of_le hi hB)⟩
theorem row_below {w w' : World} {base e size n : Nat} {v : Value} {xs : List Value} (h : w.ownsRow base e size v n xs) (hb : Below w.heap.size w w') : w'.ownsRow base e size v n xs :=
  h.kept (grown_below hb (Nat.le_refl _)) (by cases h : v.ownBlock <;> simp)

/-- What a function that tells of a lot answers, wherever what lay below n₀ lies. -/
def Gives (g : Nat) (lb : Array Value) (p : Lt → Bool) (n₀ : Nat) (w : World) : Prop :=
  ∀ (x : Lt) (W : World), Below n₀ w W → Calls Try.prog g (#[.agg #[.int .i64 x.id, .string ⟨x.item.toArray⟩, .int .i64 x.fr, .int .i64 x.un, .int .i64 x.qty, .bool x.arr]] ++ lb) W fun e w' => e = .returned (.bool (p x)) ∧ Below W.heap.size W w'
theorem Gives.at_ {g : Nat} {lb : Array Value} {p : Lt → Bool} {n₀ : Nat} {w : World} (h : Gives g lb p n₀ w) : ∀ (x : Lt) (W : World), Below n₀ w W → Calls Try.prog g (#[.agg #[.int .i64 x.id, .string ⟨x.item.toArray⟩, .int .i64 x.fr, .int .i64 x.un, .int .i64 x.qty, .bool x.arr]] ++ lb) W fun e w' => e = .returned (.bool (p x)) ∧ Below W.heap.size W w' := h

/-- What is kept of a list: lots of its own memory. -/
def KeepsTo (out : List Lt) (w : World) (e : Ending) (w' : World) : Prop := ∃ v, e = .returned v ∧ w'.ownsRow w.heap.size 25 6 v out.length (lcells out) ∧ Below w.heap.size w w'

theorem filter_take_succ (p : Lt → Bool) {l : List Lt} {k : Nat} {x : Lt} (h : l[k]? = some x) : (l.take (k + 1)).filter p = (l.take k).filter p ++ (if p x = true then [x] else []) := by
  rw [List.take_add_one, h, List.filter_append]
  congr 1
  by_cases hp : p x = true <;> simp [hp]

set_option maxRecDepth 100000 in
set_option maxHeartbeats 2000000 in
theorem keep_any (g : Nat) (lb : Array Value) (eg : ∀ args w, (callFunc g args).run Try.prog w = .ok (.enter g args) w) (p : Lt → Bool) (v : Value) (l : List Lt) (B : Nat) (w : World) (hB : B ≤ w.heap.size) (hlen : l.length * 56 ≤ 140737488355328) (hv : LSl w B v l) (hp : Gives g lb p w.heap.size w) :
    Calls Try.prog 28 #[v, .func (.func g) #[] lb] w (KeepsTo (l.filter p) w) := by
  obtain ⟨i0, hi, hz0, hz1, hz2⟩ := info_parts infoLot
  obtain ⟨A, c, rfl, hc1, hc2, hcz, hl⟩ := id hv
  have H1 := Lib.hid hi
  have H2 := Lib.hid hz0
  have H3 := Lib.hid hz1
  have H4 := Lib.hid hz2
  have HP := Lib.hid hp
  have HL := Lib.hid hl
  have HZ := Lib.hid hlen
  have hln : l.length ≤ 2513169434916 := by omega
  clear hi hz0 hz1 hz2 hp hl hv hlen
  go_enter Try.func28, Try.ntmps28
  go_wp2
  go_loopw [5, 10] (fun s i wr => ∃ k : Nat, k ≤ l.length ∧ i = .int .i64 k ∧ Hid (wr.ownsRow w.heap.size 25 6 s ((l.take k).filter p).length (lcells ((l.take k).filter p))) ∧ Hid (Below w.heap.size w wr))
    (fun _ i _ => l.length - (intOf i).toNat)
  case atStart => exact ⟨0, Nat.zero_le _, rfl, Lib.hid (World.ownsRow_nil _ _ _ _), Lib.hid (Below.refl _ _)⟩
  case round =>
    obtain ⟨k, hk, rfl, HR, HB⟩ := hrel
    by_cases hlt : k < l.length
    · obtain ⟨x, hx⟩ : ∃ x, l[k]? = some x := ⟨_, List.getElem?_eq_getElem hlt⟩
      obtain ⟨ad, rfl, hab, hc0, hc1', hc2', hc3, hc4, hc5⟩ := (HL.out.below (HB.out.mono hB)).six hx
      have hcall := HP.out.at_ x _ (HB.out.alloc HB.out.size (.cells #[.int .i64 x.id, .string ⟨x.item.toArray⟩, .int .i64 x.fr, .int .i64 x.un, .int .i64 x.qty, .bool x.arr] 25))
      have HX := Lib.hid hx
      have hfl : ((l.take k).filter p).length ≤ k := Nat.le_trans (List.length_filter_le _ _) (List.length_take_le _ _)
      clear hx
      cases hpx : p x
      · rw [hpx] at hcall
        have HC := Lib.hid hcall
        have hst : Hid ((l.take (k + 1)).filter p = (l.take k).filter p) := Lib.hid (by rw [filter_take_succ p HX.out, hpx]; simp)
        clear hcall hpx
        go_wp2_with (go_at_fn g; ((with_reducible refine HC.out.mono ?_); rintro e w2 ⟨rfl, hb2'⟩; have hb2 := Lib.hid hb2'; clear hb2'))
        go_roundw
        case rel => exact ⟨k + 1, by omega, by go_num, Lib.hid (by rw [hst.out]; exact row_below (HR.out.alloc _) hb2.out), Lib.hid (HB.out.trans ((below_alloc2 _ hb2.out).mono HB.out.size))⟩
        case measure => simp [intOf]; omega
      · rw [hpx] at hcall
        have HC := Lib.hid hcall
        have hst : Hid ((l.take (k + 1)).filter p = (l.take k).filter p ++ [x]) := Lib.hid (by rw [filter_take_succ p HX.out, hpx]; simp)
        clear hcall hpx
        have hnb : Box6 (wr.alloc (.cells #[.int .i64 x.id, .string ⟨x.item.toArray⟩, .int .i64 x.fr, .int .i64 x.un, .int .i64 x.qty, .bool x.arr] 25)) wr.heap.size x := Box6.new wr x
        have HN := Lib.hid hnb
        clear hnb
        go_wp2_with (first
          | (go_at_fn g; ((with_reducible refine HC.out.mono ?_); rintro e w2 ⟨rfl, hb2'⟩; have hb2 := Lib.hid hb2'; clear hb2'; have hbx : Box6 w2 wr.heap.size x := (hb2.out.block wr.heap.size (by simp)).trans HN.out; obtain ⟨d0, d1, d2, d3, d4, d5⟩ := hbx.cells; clear hbx))
          | (at_builtin; refine wpList_append_own _ rfl _ _ 30 rfl w.heap.size 25 i0 _ 6 56 Try.underlying30 H1.out H2.out H3.out H4.out rfl (by decide) _ _ _ rfl ((row_below (HR.out.alloc _) hb2.out).alloc _) ⟨w2.heap.size, 0, none⟩ 1 1 (encL x) rfl rfl (six_new w2 x _) (encL_one x) (by unfold maxLen; omega) (by omega) (by have h1 := HB.out.size; have h2 := hb2.out.size; simp only [World.size_alloc] at h2 ⊢; omega) ?_; intro v' w3 hown3 hg3 _; have ho3 := Lib.hid hown3; have hG3 := Lib.hid hg3; clear hown3 hg3))
        have hb3 : Hid (Below w.heap.size w w3) := Lib.hid (by
          have h1 := HB.out.size
          have h2 := hb2.out.size
          simp only [World.size_alloc] at h2
          refine ((HB.out.trans ((below_alloc2 _ hb2.out).mono HB.out.size)).alloc (by omega) _).grown hG3.out (by simp only [World.size_alloc]; omega) (fun j hj => ?_)
          exact (HR.out.lt j hj).1)
        go_roundw
        case rel => exact ⟨k + 1, by omega, by go_num, Lib.hid (by rw [hst.out, lcells_append, List.length_append]; simpa [lcells] using ho3.out), hb3⟩
        case measure => simp [intOf]; omega
    · obtain rfl : k = l.length := by omega
      go_wp2
      go_ret
      have h := HR.out
      rw [List.take_length] at h
      exact ⟨_, rfl, h, HB.out⟩
end Go.Proofs.Ytdmgnafafafdpaa
