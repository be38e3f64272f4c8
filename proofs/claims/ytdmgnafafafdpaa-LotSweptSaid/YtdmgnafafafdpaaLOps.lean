/- lot.Sweep, Of, On: what their closures tell, what they answer. -/
import Derived.Test.YtdmgnafafafdpaaLKeep
import Derived.Handy
import Derived.Laws.EntriesVeiled
namespace Go.Proofs.Ytdmgnafafafdpaa
open Go.ChangeShapes Go.WideShapes Go.ChangeAt Go.RowKit Go.Shelf
set_option linter.unusedVariables false

def overB (now : Int) (x : Lt) : Bool := x.arr && decide (x.un ≤ now)
def onB (day : Int) (x : Lt) : Bool := lrightB x && hasB x.fr x.un day
def ofB (s : List UInt8) (x : Lt) : Bool := decide (x.item = s)
theorem lright_yes (x : Lt) (w : World) (h : lrightB x = true) : Calls Try.prog 6 #[aggL x] w fun e w' => e = .returned (.bool true) ∧ Below w.heap.size w w' := by
  have := lright_any x w; rwa [h] at this
theorem lright_no (x : Lt) (w : World) (h : lrightB x = false) : Calls Try.prog 6 #[aggL x] w fun e w' => e = .returned (.bool false) ∧ Below w.heap.size w w' := by
  have := lright_any x w; rwa [h] at this

theorem over_any (now : Int) (b : Nat) (x : Lt) (w : World) (hb : w.cell? ⟨b, 0, none⟩ = some (.int .i64 now)) : Calls Try.prog 27 #[aggL x, .pointer (some ⟨b, 0, none⟩)] w fun e w' => e = .returned (.bool (overB now x)) ∧ Below w.heap.size w w' := by
  have hbl : b < w.heap.size := World.block_lt_of_cell? w ⟨b, 0, none⟩ hb
  obtain ⟨id, item, fr, un, qty, arr⟩ := x
  cases arr
  · have hv : overB now ⟨id, item, fr, un, qty, false⟩ = false := rfl
    rw [hv]
    clear hv
    go_enter Try.func27, Try.ntmps27
    go_wp2
    go_ret
    exact ⟨rfl, below_alloc1 _ _⟩
  · by_cases h : un ≤ now
    · have hd : decide (un ≤ now) = true := decide_eq_true h
      have hv : overB now ⟨id, item, fr, un, qty, true⟩ = true := by unfold overB; simp [h]
      rw [hv]
      clear hv
      go_enter Try.func27, Try.ntmps27
      go_wp2
      go_ret
      exact ⟨rfl, below_alloc1 _ _⟩
    · have hd : decide (un ≤ now) = false := decide_eq_false h
      have hv : overB now ⟨id, item, fr, un, qty, true⟩ = false := by unfold overB; simp [hd]
      rw [hv]
      clear hv
      go_enter Try.func27, Try.ntmps27
      go_wp2
      go_ret
      exact ⟨rfl, below_alloc1 _ _⟩
theorem notOver_any (now : Int) (b c : Nat) (x : Lt) (w : World) (hb : w.cell? ⟨b, 0, none⟩ = some (.int .i64 now)) (hbl : b < w.heap.size) (hc : w.cell? ⟨c, 0, none⟩ = some (.func (.func 27) #[] #[.pointer (some ⟨b, 0, none⟩)])) :
    Calls Try.prog 29 #[aggL x, .pointer (some ⟨c, 0, none⟩)] w fun e w' => e = .returned (.bool (!overB now x)) ∧ Below w.heap.size w w' := by
  have hcall : ∀ o : Obj, Calls Try.prog 27 #[aggL x, .pointer (some ⟨b, 0, none⟩)] (w.alloc o) fun e w' => e = .returned (.bool (overB now x)) ∧ Below (w.alloc o).heap.size (w.alloc o) w' := fun o => over_any now b x _ (by rw [World.cell?_alloc_lt _ _ _ hbl]; exact hb)
  have HC := Lib.hid hcall
  have hcl : c < w.heap.size := World.block_lt_of_cell? w ⟨c, 0, none⟩ hc
  clear hcall hb
  go_enter Try.func29, Try.ntmps29
  go_wp2_with (go_at_call 27; ((with_reducible refine (HC.out _).mono ?_); rintro e w1 ⟨rfl, hb1⟩))
  go_ret
  exact ⟨rfl, below_alloc2 _ hb1⟩
theorem of_any (s : List UInt8) (b : Nat) (x : Lt) (w : World) (hb : w.cell? ⟨b, 0, none⟩ = some (strV s)) : Calls Try.prog 32 #[aggL x, .pointer (some ⟨b, 0, none⟩)] w fun e w' => e = .returned (.bool (ofB s x)) ∧ Below w.heap.size w w' := by
  have hbl : b < w.heap.size := World.block_lt_of_cell? w ⟨b, 0, none⟩ hb
  go_enter Try.func32, Try.ntmps32
  go_wp2
  go_ret
  refine ⟨ret_bool ?_, below_alloc1 _ _⟩
  unfold ofB
  by_cases h : x.item = s
  · simp [h]
  · simp [h]
theorem on_any (day : Int) (b : Nat) (x : Lt) (w : World) (hb : w.cell? ⟨b, 0, none⟩ = some (.int .i64 day)) (hbl : b < w.heap.size) : Calls Try.prog 30 #[aggL x, .pointer (some ⟨b, 0, none⟩)] w fun e w' => e = .returned (.bool (onB day x)) ∧ Below w.heap.size w w' := by
  cases h1 : lrightB x
  · have hv : onB day x = false := by unfold onB; rw [h1]; rfl
    rw [hv]
    have H1 := Lib.hid h1
    clear h1 hv
    go_enter Try.func30, Try.ntmps30
    go_wp2_with (go_at_call 6; ((with_reducible refine (lright_no x _ H1.out).mono ?_); rintro e w1 ⟨rfl, hb1⟩))
    go_ret
    exact ⟨rfl, below_alloc2 _ hb1⟩
  · have hv : onB day x = hasB x.fr x.un day := by unfold onB; rw [h1]; rfl
    rw [hv]
    have H1 := Lib.hid h1
    clear h1 hv
    go_enter Try.func30, Try.ntmps30
    go_wp2_with (first
      | (go_at_call 6; ((with_reducible refine (lright_yes x _ H1.out).mono ?_); rintro e w1 ⟨rfl, hb1⟩; obtain ⟨hc, hf⟩ := bcell hb1; have hz : w.heap.size < w1.heap.size := by (have := hb1.size; simp only [World.size_alloc] at this; omega)))
      | (go_at_call 31; ((with_reducible refine (has_any x.fr x.un day _).mono ?_); rintro e w2 ⟨rfl, hb2⟩)))
    go_ret
    exact ⟨rfl, below_alloc2 _ (below_two hb1 hb2)⟩

theorem cell_at {n₀ : Nat} {w W : World} (h : Below n₀ w W) {b : Nat} {v : Value} (hb : b < n₀) (hc : w.cell? ⟨b, 0, none⟩ = some v) : W.cell? ⟨b, 0, none⟩ = some v := (h.cell (p := ⟨b, 0, none⟩) hb).trans hc
theorem over_gives (now : Int) (b : Nat) (w : World) (hb : w.cell? ⟨b, 0, none⟩ = some (.int .i64 now)) : Gives 27 #[.pointer (some ⟨b, 0, none⟩)] (overB now) w.heap.size w := fun x W hW =>
  over_any now b x W (cell_at hW (World.block_lt_of_cell? w ⟨b, 0, none⟩ hb) hb)
theorem notOver_gives (now : Int) (b c : Nat) (w : World) (hb : w.cell? ⟨b, 0, none⟩ = some (.int .i64 now)) (hc : w.cell? ⟨c, 0, none⟩ = some (.func (.func 27) #[] #[.pointer (some ⟨b, 0, none⟩)])) :
    Gives 29 #[.pointer (some ⟨c, 0, none⟩)] (fun x => !overB now x) w.heap.size w := fun x W hW =>
  notOver_any now b c x W (cell_at hW (World.block_lt_of_cell? w ⟨b, 0, none⟩ hb) hb) (Nat.lt_of_lt_of_le (World.block_lt_of_cell? w ⟨b, 0, none⟩ hb) hW.size) (cell_at hW (World.block_lt_of_cell? w ⟨c, 0, none⟩ hc) hc)
theorem of_gives (s : List UInt8) (b : Nat) (w : World) (hb : w.cell? ⟨b, 0, none⟩ = some (strV s)) : Gives 32 #[.pointer (some ⟨b, 0, none⟩)] (ofB s) w.heap.size w := fun x W hW =>
  of_any s b x W (cell_at hW (World.block_lt_of_cell? w ⟨b, 0, none⟩ hb) hb)
theorem on_gives (day : Int) (b : Nat) (w : World) (hb : w.cell? ⟨b, 0, none⟩ = some (.int .i64 day)) : Gives 30 #[.pointer (some ⟨b, 0, none⟩)] (onB day) w.heap.size w := fun x W hW =>
  on_any day b x W (cell_at hW (World.block_lt_of_cell? w ⟨b, 0, none⟩ hb) hb) (Nat.lt_of_lt_of_le (World.block_lt_of_cell? w ⟨b, 0, none⟩ hb) hW.size)

theorem ofList_any (s : List UInt8) (v : Value) (l : List Lt) (w : World) (hlen : l.length * 56 ≤ 140737488355328) (hv : LSl w w.heap.size v l) :
    Calls Try.prog 18 #[v, strV s] w (KeepsTo (l.filter (ofB s)) w) := by
  have hk := keep_any 32 #[.pointer (some ⟨w.heap.size, 0, none⟩)] (enters_of Try.func32 (by kernel_rfl) rfl) (ofB s) v l w.heap.size (w.alloc (.cells #[strV s] 9)) (by simp) hlen (hv.alloc_ (Nat.le_refl _) _)
    (of_gives s w.heap.size _ (Boxed.new w 9 (strV s)).cell)
  have HK := Lib.hid hk
  clear hk hv hlen
  go_enter Try.func18, Try.ntmps18
  go_wp2_with (go_at_call 28; ((with_reducible refine HK.out.mono ?_); rintro e w1 ⟨v1, rfl, ho, hb⟩; have HO := Lib.hid (And.intro ho hb); clear ho hb))
  go_ret
  exact ⟨v1, rfl, base_less HO.out.1 (by simp), below_alloc2 _ HO.out.2⟩

/-- What a sweep answers: two lists of its own memory. -/
def SweepsTo (l1 l2 : List Lt) (w : World) (e : Ending) (w' : World) : Prop := ∃ v1 v2, e = .returned (.tuple #[v1, v2]) ∧ w'.ownsRow w.heap.size 25 6 v1 l1.length (lcells l1) ∧ (∃ m, w.heap.size ≤ m ∧ w'.ownsRow m 25 6 v2 l2.length (lcells l2) ∧ (∀ k, v1.ownBlock = some k → k < m)) ∧ Below w.heap.size w w'

theorem sweep_any (now : Int) (v : Value) (l : List Lt) (w : World) (hlen : l.length * 56 ≤ 140737488355328) (hv : LSl w w.heap.size v l) :
    Calls Try.prog 15 #[v, .int .i64 now] w (SweepsTo (l.filter (fun x => !overB now x)) (l.filter (overB now)) w) := by
  have h0 := (Boxed.new w 3 (.int .i64 now))
  have h0' := h0.alloc (.cells #[.func (.func 27) #[] #[.pointer (some ⟨w.heap.size, 0, none⟩)]] 26)
  have h1 := Boxed.new (w.alloc (.cells #[.int .i64 now] 3)) 26 (.func (.func 27) #[] #[.pointer (some ⟨w.heap.size, 0, none⟩)])
  have hz : (w.alloc (.cells #[.int .i64 now] 3)).heap.size = w.heap.size + 1 := by simp
  rw [hz] at h1
  have hva := (hv.alloc_ (Nat.le_refl _) (.cells #[.int .i64 now] 3)).alloc_ (by simp) (.cells #[.func (.func 27) #[] #[.pointer (some ⟨w.heap.size, 0, none⟩)]] 26)
  have hk1 := keep_any 29 #[.pointer (some ⟨w.heap.size + 1, 0, none⟩)] (enters_of Try.func29 (by kernel_rfl) rfl) (fun x => !overB now x) v l w.heap.size _ (by simp; omega) hlen hva
    (notOver_gives now w.heap.size (w.heap.size + 1) _ h0'.cell h1.cell)
  have hk2 : ∀ W, Below (w.heap.size + 1 + 1) ((w.alloc (.cells #[.int .i64 now] 3)).alloc (.cells #[.func (.func 27) #[] #[.pointer (some ⟨w.heap.size, 0, none⟩)]] 26)) W →
      Calls Try.prog 28 #[v, .func (.func 27) #[] #[.pointer (some ⟨w.heap.size, 0, none⟩)]] W (KeepsTo (l.filter (overB now)) W) := fun W hW =>
    keep_any 27 #[.pointer (some ⟨w.heap.size, 0, none⟩)] (enters_of Try.func27 (by kernel_rfl) rfl) (overB now) v l w.heap.size W (by have := hW.size; simp at this; omega) hlen (hva.below (hW.mono (by omega)))
      (over_gives now w.heap.size W (cell_at hW (by omega) h0'.cell))
  have hcf : ∀ W, Below (w.heap.size + 1 + 1) ((w.alloc (.cells #[.int .i64 now] 3)).alloc (.cells #[.func (.func 27) #[] #[.pointer (some ⟨w.heap.size, 0, none⟩)]] 26)) W →
      W.cell? ⟨w.heap.size + 1, 0, none⟩ = some (.func (.func 27) #[] #[.pointer (some ⟨w.heap.size, 0, none⟩)]) := fun W hW => cell_at hW (by omega) h1.cell
  have HK1 := Lib.hid hk1
  have HK2 := Lib.hid hk2
  have HCF := Lib.hid hcf
  clear h0 h0' h1 hz hva hk1 hk2 hcf hv hlen
  go_enter Try.func15, Try.ntmps15
  go_wp2_with (go_at_call 28; (first
    | ((with_reducible refine HK1.out.mono ?_); rintro e w1 ⟨v1, rfl, ho1, hb1⟩; have HO1 := Lib.hid (And.intro ho1 hb1); have hbw : Below (w.heap.size + 1 + 1) ((w.alloc (.cells #[.int .i64 now] 3)).alloc (.cells #[.func (.func 27) #[] #[.pointer (some ⟨w.heap.size, 0, none⟩)]] 26)) w1 := hb1.mono (by simp); have HBW := Lib.hid hbw; have hcf := HCF.out w1 hbw; clear ho1 hb1 hbw HK1)
    | ((with_reducible refine (HK2.out _ HBW.out).mono ?_); rintro e w2 ⟨v2, rfl, ho2, hb2⟩; have HO2 := Lib.hid (And.intro ho2 hb2); clear ho2 hb2)))
  go_ret2
  have ho1 := row_below HO1.out.1 HO2.out.2
  refine ⟨v1, v2, rfl, base_less ho1 (by simp; omega), ⟨w1.heap.size, ?_, HO2.out.1, fun k hk => (HO1.out.1.lt k hk).2⟩, ?_⟩
  · have := HBW.out.size; simp at this; omega
  · exact (below_alloc3 w _ _).trans ((HBW.out.mono (by omega)).trans (HO2.out.2.mono (by have := HBW.out.size; simp at this; omega)))
end Go.Proofs.Ytdmgnafafafdpaa
