/- slices.SortStableFunc, SortedStableFunc over lots; lot.Sort. -/
import Derived.Test.YtdmgnafafafdpaaLSort
import Derived.RangeFuncCalls
namespace Go.Proofs.Ytdmgnafafafdpaa
open Go.ChangeShapes Go.WideShapes Go.ChangeAt Go.RowKit Go.Shelf Go.Lib Go.Sort Go.Proofs
set_option linter.unusedVariables false

theorem base_less {w : World} {base base' e size n : Nat} {v : Value} {xs : List Value} (h : w.ownsRow base e size v n xs) (hb : base' ≤ base) : w.ownsRow base' e size v n xs := by
  obtain ⟨h1, h2⟩ := h
  refine ⟨h1, ?_⟩
  rcases h2 with h2 | ⟨g, cap, cur, h3, h4, h5⟩
  · exact .inl h2
  · exact .inr ⟨g, cap, cur, h3, Nat.le_trans hb h4, h5⟩
theorem insert_nil (w : World) : Calls Try.prog 42 #[.slice none 0 0, .int .i64 0, .int .i64 0, .func (.func 8) #[] #[]] w fun e w' => e = .returned (.tuple #[]) ∧ w = w' := by
  go_enter Try.func42, Try.ntmps42
  go_wp2
  go_loop [8] (fun i => i = .int .i64 1) (fun _ => 0)
  case atStart => rfl
  case round =>
    obtain rfl := hrel
    go_wp2
    go_end0
    exact ⟨rfl, rfl⟩
theorem stable_nil (w : World) : Calls Try.prog 41 #[.slice none 0 0, .int .i64 0, .func (.func 8) #[] #[]] w fun e w' => e = .returned (.tuple #[]) ∧ w = w' := by
  go_enter Try.func41, Try.ntmps41
  go_wp2
  go_loop [7, 8] (fun a b => a = .int .i64 0 ∧ b = .int .i64 20) (fun _ _ => 0)
  case atStart => exact ⟨rfl, rfl⟩
  case round =>
    obtain ⟨rfl, rfl⟩ := hrel
    go_wp2_with (go_at_call 42; ((with_reducible refine (insert_nil _).mono ?_); rintro e w1 ⟨rfl, rfl⟩))
    go_loop [6] (fun i => i = .int .i64 20) (fun _ => 0)
    case atStart => rfl
    case round =>
      obtain rfl := hrel
      go_wp2
      go_end0
      exact ⟨rfl, rfl⟩

theorem below_own {w W : World} {base : Nat} {v : Value} {l : List Lt} (h : w.ownsRow base 25 6 v l.length (lcells l)) : (v = .slice none 0 0 ∧ l = []) ∨ ∃ g cap, v = .slice (some ⟨g, 0, none⟩) l.length cap := by
  rcases h.2 with ⟨rfl, h0⟩ | ⟨g, cap, cur, rfl, _⟩
  · exact .inl ⟨rfl, List.eq_nil_of_length_eq_zero h0⟩
  · exact .inr ⟨g, cap, rfl⟩

theorem sortStable_any (base : Nat) (v : Value) (l : List Lt) (w : World) (hlen : l.length < 1152921504606846976) (hB : base ≤ w.heap.size) (h : w.ownsRow base 25 6 v l.length (lcells l)) :
    Calls Try.prog 37 #[v, .func (.func 8) #[] #[]] w (SortedTo base v l w) := by
  rcases below_own (W := w) h with ⟨rfl, rfl⟩ | ⟨g, cap, rfl⟩
  · have H := Lib.hid h
    clear h
    go_enter Try.func37, Try.ntmps37
    go_wp2_with (go_at_call 41; ((with_reducible refine (stable_nil _).mono ?_); rintro e w1 ⟨rfl, rfl⟩))
    go_end0
    exact ⟨rfl, [], stab_nil, H.out, Below.refl _ _⟩
  · have hc := stable_row base g l.length cap l w rfl hlen h
    have HC := Lib.hid hc
    clear hc h
    go_enter Try.func37, Try.ntmps37
    go_wp2_with (go_at_call 41; ((with_reducible refine HC.out.mono ?_); rintro e w1 ⟨rfl, hx⟩; have HX := Lib.hid hx; clear hx))
    go_end0
    exact ⟨rfl, HX.out⟩

theorem values_any (A : Option Addr) (len cap : Nat) (w : World) : Calls Try.prog 26 #[.slice A len cap] w fun e w' => e = .returned (.func (.func 38) #[] #[.pointer (some ⟨w.heap.size, 0, none⟩)]) ∧ w.alloc (.cells #[.slice A len cap] 30) = w' :=
  (callsIn_wide (n := 6)).1 ((values_in Fence.wide 6 trivial rfl A len cap w).mono fun e w' ⟨h1, h2⟩ => ⟨h1, h2.symm⟩)

/-- What is told of a list, sorted: lots of its own memory. -/
def SortsTo (l : List Lt) (w : World) (e : Ending) (w' : World) : Prop := ∃ v out, e = .returned v ∧ Stab l out ∧ w'.ownsRow w.heap.size 25 6 v out.length (lcells out) ∧ Below w.heap.size w w'

theorem collect_any (Bs cap : Nat) (A : Option Addr) (zs : List Lt) (hlen : zs.length * 56 ≤ 140737488355328) (n₀ : Nat) (w : World) (hn₀ : n₀ ≤ w.heap.size) (hBs : Bs < w.heap.size) (hc : w.cell? ⟨Bs, 0, none⟩ = some (.slice A zs.length cap)) (hl : Lies w n₀ A (lcells zs)) :
    Calls Try.prog 36 #[.func (.func 38) #[] #[.pointer (some ⟨Bs, 0, none⟩)]] w (Collected w zs) :=
  (callsIn_wide (n := 9)).1 (collect_in Fence.wide 9 trivial trivial rfl (by omega) 38 _ trivial (enters_of Try.func38 (by kernel_rfl) rfl) n₀ zs hlen _ w hn₀
    (values_stops Fence.wide 7 trivial rfl (by omega) Bs n₀ cap A zs (by omega) w hBs hn₀ hc hl))

set_option maxHeartbeats 1000000 in
theorem sortedStable_any (Bs cap : Nat) (A : Option Addr) (zs : List Lt) (hlen : zs.length * 56 ≤ 140737488355328) (n₀ : Nat) (w : World) (hn₀ : n₀ ≤ w.heap.size) (hBs : Bs < w.heap.size) (hc : w.cell? ⟨Bs, 0, none⟩ = some (.slice A zs.length cap)) (hl : Lies w n₀ A (lcells zs)) :
    Calls Try.prog 25 #[.func (.func 38) #[] #[.pointer (some ⟨Bs, 0, none⟩)], .func (.func 8) #[] #[]] w (SortsTo zs w) := by
  have HC := Lib.hid (collect_any Bs cap A zs hlen n₀ w hn₀ hBs hc hl)
  have HL := Lib.hid hlen
  clear hc hl hlen
  go_enter Try.func25, Try.ntmps25
  go_wp2_with (first
    | (go_at_call 36; ((with_reducible refine HC.out.mono ?_); rintro e w1 ⟨v, rfl, hrow, hnil, hb⟩; have HR := Lib.hid hrow; have HB := Lib.hid hb; clear hrow hnil hb))
    | (go_at_call 37; ((with_reducible refine (sortStable_any w.heap.size v zs w1 (by have := HL.out; omega) HB.out.size HR.out).mono ?_); rintro e w2 ⟨rfl, hx⟩; have HX := Lib.hid hx; clear hx)))
  go_ret
  obtain ⟨out, hs, ho, hb⟩ := HX.out
  exact ⟨v, out, rfl, hs, by rw [hs.length]; exact ho, HB.out.trans hb⟩

set_option maxHeartbeats 1000000 in
theorem sort_any (v : Value) (l : List Lt) (w : World) (hlen : l.length * 56 ≤ 140737488355328) (hv : LSl w w.heap.size v l) :
    Calls Try.prog 12 #[v] w (SortsTo l w) := by
  obtain ⟨A, c, rfl, h1, h2, hz, hl⟩ := hv
  have hsort := sortedStable_any w.heap.size c A l hlen w.heap.size (w.alloc (.cells #[.slice A l.length c] 30)) (by simp) (by simp) (by have := (Boxed.new w 30 (.slice A l.length c)).cell; exact this) (hl.alloc_ (Nat.le_refl _) _)
  have HS := Lib.hid hsort
  clear hsort hl
  go_enter Try.func12, Try.ntmps12
  go_wp2_with (first
    | (go_at_call 26; ((with_reducible refine (values_any A l.length c w).mono ?_); rintro e w1 ⟨rfl, rfl⟩))
    | (go_at_call 25; ((with_reducible refine HS.out.mono ?_); rintro e w2 ⟨v, out, rfl, hs, ho, hb⟩; have HH := Lib.hid (And.intro hs (And.intro ho hb)); clear hs ho hb)))
  go_ret
  obtain ⟨hs, ho, hb⟩ := HH.out
  exact ⟨v, out, rfl, hs, base_less ho (by simp), below_alloc2 _ hb⟩
end Go.Proofs.Ytdmgnafafafdpaa
