/- storemanref02.Join: what the document tells of parts that are joined. -/
import Derived.Test.YtfppiigmibjbnaaGreatStr
import Derived.Test.YtfppiigmibjbnaaGreatSum
import Derived.Test.YtfppiigmibjbnaaGreatInsMath
import Derived.Test.YtfppiigmibjbnaaGreatJoins
import Derived.Deep.QuietTactic
import Derived.BigQuiet
import Derived.Deep.DeepCutAuto
import Derived.Deep.CutBlock
namespace Go.Proofs.YtfppiigmibjbnaaGreat
open Go.ChangeShapes Go.WideShapes Go.ChangeAt Go.RowKit Go.Maps
set_option linter.unusedVariables false

/-- append from whatever lies: nil, empty or not. -/
theorem wpList_append_lies {P : Program} (w : World) {ops : Array Oper} {rest : List Oper} {o : Oper} {a : Act} {Q : Exit → Act → World → Prop} (hgd : o.guard = none) (s x : Operand) (t : TypeId)
    (ho : o.op = .call { callee := .builtin .append, args := #[s, x], argTypes := #[t, t] })
    (base : Nat) (e : TypeId) (i : TypeInfo) (z : Value) (size bytes : Nat) (ht : P.underlying t = some (.slice e)) (hi : P.info? e = some i) (hz : i.zero = some z)
    (hsize : i.size = size) (hby : i.bytes = bytes) (hzs : z.cells.size = size) (hsz : 0 < size)
    (v : Value) (n : Nat) (xs : List Value) (hs : a.eval s = v) (hown : w.ownsRow base e size v n xs)
    (B : Nat) (A : Option Addr) (m c : Nat) (news : List Value) (hx : a.eval x = .slice A m c) (hA : A = none → m = 0 ∧ c = 0) (hl : news.length = m * size) (hnews : Lies w B A news) (h1 : ∀ u ∈ news, u.oneCell' = true)
    (h63 : n + m ≤ maxLen) (hbytes : (n + m) * bytes ≤ 140737488355328) (hbase : base ≤ w.heap.size)
    (h : ∀ v' w', w'.ownsRow base e size v' (n + m) (xs ++ news) → w.grownBy w' v.ownBlock → (v'.ownBlock = v.ownBlock ∨ v'.ownBlock = some w.heap.size) → wpList P ops Q rest (a.put o.dst v') w') : wpList P ops Q (o :: rest) a w := by
  cases A with
  | some ad =>
    refine wpList_append_own_at w hgd s x t ho base e i z size bytes ht hi hz hsize hby hzs hsz v n xs hs hown ad m c news hx hl (fun j u hu => ?_) h1 h63 hbytes hbase (fun v' w' h2 h3 _ h5 => h v' w' h2 h3 h5)
    obtain ⟨ad', e1, _, e2⟩ := hnews.get hu
    injection e1 with e1
    rw [e1]
    exact e2
  | none =>
    obtain ⟨rfl, rfl⟩ := hA rfl
    have hn : news = [] := List.eq_nil_of_length_eq_zero (by simpa using hl)
    subst hn
    refine wpList_plain hgd fun K hK => ?_
    have hrun := run_append_owned_none (P := P) w base t o.type e i size ht hi v n xs hown
    unfold Oper.wp
    simp [execOp, ho, resolve, invoke, builtin, hs, hx, hrun, Result.andThen]
    exact hK _ _ (h v w (by simpa using hown) (World.grownBy.refl _ _) (.inl rfl))

theorem pcells_set : ∀ (l : List Pt) (t : Nat) (it : List UInt8) (q0 q : Int), l[t]? = some (it, q0) → (pcells l).set (t * 2 + 1) (.int .i64 q) = pcells (l.set t (it, q))
  | [], t, it, q0, q, h => by simp at h
  | p :: l, 0, it, q0, q, h => by simp at h; subst h; simp [pcells]
  | p :: l, t + 1, it, q0, q, h => by
    have := pcells_set l t it q0 q (by simpa using h)
    rw [show (t + 1) * 2 + 1 = t * 2 + 1 + 1 + 1 by omega]
    simpa [pcells] using this
theorem radd_yes_q (a b : Int) (w : World) (h1 : addB a b = true) : Calls Tryz.prog 22 #[.int .i64 a, .int .i64 b] w fun e w' => e = .returned (.tuple #[.int .i64 (a + b), .bool true]) ∧ w' = w :=
  (radd_ok a b (a + b) w h1 rfl).mono fun e w' ⟨he, hw⟩ => ⟨he, hw.symm⟩
theorem radd_no_q (a b : Int) (w : World) (h1 : addB a b = false) : Calls Tryz.prog 22 #[.int .i64 a, .int .i64 b] w fun e w' => e = .returned (.tuple #[.int .i64 0, .bool false]) ∧ w' = w :=
  (radd_no a b w h1).mono fun e w' ⟨he, hw⟩ => ⟨he, hw.symm⟩

/-- What the reference answers of the parts l. -/
def RJoinPost (l : List Pt) (w : World) (e : Ending) (w' : World) : Prop :=
  Below w.heap.size w w' ∧
  ((JoinOk l ∧ ∃ v out, e = .returned (.tuple #[v, .bool true]) ∧ IsJoin l out ∧ w'.ownsRow w.heap.size 38 2 v out.length (pcells out)) ∨
   (¬ JoinOk l ∧ e = .returned (.tuple #[.slice none 0 0, .bool false])))

set_option maxRecDepth 100000 in
set_option maxHeartbeats 4000000 in
theorem rjoin_any (A : Option Addr) (c : Nat) (ls : List (List Pt)) (w : World) (hr : PRows w w.heap.size A ls) (hs : Sized ls.flatten) (hlen : ls.flatten.length ≤ 1048576) (hn : ls.length ≤ 1048576) :
    Calls Tryz.prog 11 #[.slice A ls.length c] w (RJoinPost ls.flatten w) := by
  obtain ⟨i0, hi, hz0, hz1, hz2⟩ := info_parts infoPart
  have hlens : ∀ (k : Nat) (l : List Pt), ls[k]? = some l → l.length ≤ 1048576 := fun k l h => by have := upTo_len h; omega
  have HS := Lib.hid hs
  have HL := Lib.hid hlens
  have H1 := Lib.hid hi
  have H2 := Lib.hid hz0
  have H3 := Lib.hid hz1
  have H4 := Lib.hid hz2
  clear hs hlens hi hz0 hz1 hz2
  go_enter Tryz.func11, Tryz.ntmps11
  go_wp2
  go_loopw [4, 5] (fun v i wr => ∃ (k : Nat) (out : List Pt), k ≤ ls.length ∧ i = .int .i64 k ∧ Below w.heap.size w wr ∧ JoinOk (upTo ls k) ∧ IsJoin (upTo ls k) out ∧ out.length ≤ (upTo ls k).length ∧ wr.ownsRow w.heap.size 38 2 v out.length (pcells out))
    (fun _ i _ => ls.length - (intOf i).toNat)
  case atStart => exact ⟨0, [], Nat.zero_le _, rfl, Below.refl _ _, joinOk_nil, isJoin_nil, Nat.zero_le _, World.ownsRow_nil _ _ _ _⟩
  case round =>
    obtain ⟨k, out, hk, rfl, hbr, hok, hj, hol, hrow⟩ := hrel
    by_cases hlt : k < ls.length
    · obtain ⟨l, hl⟩ : ∃ l, ls[k]? = some l := ⟨_, List.getElem?_eq_getElem hlt⟩
      obtain ⟨ad, Ai, ci, rfl, hab, hcellw, hci, hli⟩ := hr.get hl
      have hcell := (hbr.cell (p := ad.add k) (by rw [addr_block]; exact hab)).trans hcellw
      clear hcellw
      have hll := HL.out k l hl
      have hul := upTo_len hl
      have HLK := Lib.hid hl
      clear hl
      obtain ⟨wo, rfl⟩ : ∃ wo : World, wo = wr := ⟨_, rfl⟩
      go_wp2
      go_loopw [4, 6] (fun v i wr => ∃ (j : Nat) (out : List Pt), j ≤ l.length ∧ i = .int .i64 j ∧ Below w.heap.size w wr ∧ JoinOk (upTo ls k ++ l.take j) ∧ IsJoin (upTo ls k ++ l.take j) out ∧ out.length ≤ (upTo ls k).length + j ∧ wr.ownsRow w.heap.size 38 2 v out.length (pcells out))
        (fun _ i _ => l.length - (intOf i).toNat)
      case atStart => exact ⟨0, out, Nat.zero_le _, rfl, hbr, by simpa using hok, by simpa using hj, by omega, hrow⟩
      case round =>
        clear hrow hj hol
        obtain ⟨j, out, hj, rfl, hbi, hoki, hji, hoi, hrow⟩ := hrel
        have hcell2 := (hbi.cell (p := ad.add k) (by rw [addr_block]; exact hab)).trans ((hbr.cell (p := ad.add k) (by rw [addr_block]; exact hab)).symm.trans hcell)
        by_cases hjl : j < l.length
        · obtain ⟨p, hp⟩ : ∃ p, l[j]? = some p := ⟨_, List.getElem?_eq_getElem hjl⟩
          obtain ⟨ap, rfl, hapb, hc0⟩ := (hli.below hbi).get (pcells_item l j p hp)
          obtain ⟨ap', hap, _, hc1⟩ := (hli.below hbi).get (pcells_qty l j p hp)
          obtain rfl : ap = ap' := by simpa using hap
          rw [← addr_add] at hc1
          have hc1 : wr.cell? ⟨(ap.add (j * 2)).block, (ap.add (j * 2)).off + 1, none⟩ = some (.int .i64 p.2) := hc1
          have HP := Lib.hid hp
          clear hp hap
          go_upto_block 4 with (fail)
          have hbq : Below w.heap.size w (wr.alloc (.cells #[.string ⟨p.1.toArray⟩, .int .i64 p.2] 38)) := hbi.alloc hbi.size _
          have hrowq := hrow.alloc (.cells #[.string ⟨p.1.toArray⟩, .int .i64 p.2] 38)
          have h70 : (wr.alloc (.cells #[.string ⟨p.1.toArray⟩, .int .i64 p.2] 38)).cell? ⟨wr.heap.size, 0, none⟩ = some (.string ⟨p.1.toArray⟩) := cell_of_row _ _ _ _ _ _ (heap_alloc_new wr _)
          have h71 : (wr.alloc (.cells #[.string ⟨p.1.toArray⟩, .int .i64 p.2] 38)).cell? ⟨wr.heap.size, 1, none⟩ = some (.int .i64 p.2) := cell_of_row _ _ _ _ _ _ (heap_alloc_new wr _)
          have hb7 : wr.heap.size < (wr.alloc (.cells #[.string ⟨p.1.toArray⟩, .int .i64 p.2] 38)).heap.size := by simp
          generalize wr.alloc (.cells #[.string ⟨p.1.toArray⟩, .int .i64 p.2] 38) = wq at hbq hrowq h70 h71 hb7 ⊢
          generalize wr.heap.size = b7 at h70 h71 hb7 ⊢
          clear hrow hbi hcell2 hc0 hc1
          obtain ⟨A4, c4, rfl, ho1, ho2, hoz⟩ := own_form hrowq
          have hP4 : PSl wq wq.heap.size (.slice A4 out.length c4) out := PSl.own hrowq
          have hnn : out.length ≤ 1048576 := by omega
          have HNI := Lib.hid (hbr.size)
          go_cut [8] (fun a wx => ∃ t : Nat, t ≤ out.length ∧ a = .int .i64 t ∧ Below wq.heap.size wq wx ∧ Hid (∀ (j : Nat) (q : Pt), j < t → out[j]? = some q → q.1 < p.1) ∧ Hid (t = out.length ∨ ∃ q, out[t]? = some q ∧ ¬ q.1 < p.1))
          case first =>
            go_wp2
            go_loopw [8] (fun a wz => ∃ t : Nat, t ≤ out.length ∧ a = .int .i64 t ∧ Below wq.heap.size wq wz ∧ Hid (∀ (j : Nat) (q : Pt), j < t → out[j]? = some q → q.1 < p.1)) (fun a _ => out.length - (intOf a).toNat)
            case atStart => exact ⟨0, Nat.zero_le _, rfl, Below.refl _ _, Lib.hid (fun j q hj => absurd hj (by omega))⟩
            case round =>
              obtain ⟨t, ht, rfl, hbz, HLT⟩ := hrel
              by_cases htl : t < out.length
              · obtain ⟨q, hq⟩ : ∃ q, out[t]? = some q := ⟨_, List.getElem?_eq_getElem htl⟩
                obtain ⟨aq, cq, hvq, _, _, hq0, _⟩ := (hP4.below hbz).cells hq
                injection hvq with hA' _ hC'
                subst hA' hC'
                have hz0 := (hbz.cell (p := ⟨b7, 0, none⟩) hb7).trans h70
                have HQ := Lib.hid hq
                clear hq
                have hd1 : decide (t < out.length) = true := decide_eq_true htl
                by_cases hlq : q.1 < p.1
                · have hbl : Op.bytesLess q.1 p.1 = true := by rw [bytesLess_eq]; exact decide_eq_true hlq
                  have HLQ := Lib.hid hlq
                  clear hlq
                  go_wp2
                  go_quiet (fail)
                  go_wp2
                  go_roundw
                  case rel => exact ⟨t + 1, by omega, by go_num, below_draws hbz _, Lib.hid (fun j r hj hrj => by
                    rcases Nat.lt_or_ge j t with h | h
                    · exact HLT.out j r h hrj
                    · obtain rfl : j = t := by omega
                      rw [HQ.out] at hrj
                      cases hrj
                      exact HLQ.out)⟩
                  case measure => simp [intOf]; omega
                · have hbl : Op.bytesLess q.1 p.1 = false := by rw [bytesLess_eq]; exact decide_eq_false hlq
                  have HLQ := Lib.hid hlq
                  clear hlq
                  go_wp2
                  go_quiet (fail)
                  go_wp2
                  go_meet
                  exact ⟨t, ht, rfl, below_draws hbz _, HLT, Lib.hid (.inr ⟨q, HQ.out, HLQ.out⟩)⟩
              · have hd1 : decide (t < out.length) = false := decide_eq_false htl
                go_wp2
                go_quiet (fail)
                go_wp2
                go_meet
                exact ⟨t, ht, rfl, below_draws hbz _, HLT, Lib.hid (.inl (by omega))⟩
          case rest =>
            obtain ⟨t, ht, rfl, hbz, HLT, HEX⟩ := hcut
            go_upto_if 63 with (fail)
            go_cut [63] (fun s wx => ∃ b : Bool, s = .bool b ∧ Below wq.heap.size wq wx ∧ Hid (b = false → ∃ q, out[t]? = some q ∧ q.1 = p.1) ∧ Hid (b = true → ∀ q, out[t]? = some q → ¬ q.1 < p.1 ∧ q.1 ≠ p.1))
            case first =>
              by_cases htl : t < out.length
              · obtain ⟨q, hq⟩ : ∃ q, out[t]? = some q := ⟨_, List.getElem?_eq_getElem htl⟩
                have hnl : Hid (¬ q.1 < p.1) := Lib.hid (by
                  rcases HEX.out with h | ⟨r, hr, h⟩
                  · omega
                  · rw [hq] at hr; cases hr; exact h)
                obtain ⟨aq, cq, hvq, _, _, hq0, _⟩ := (hP4.below hbz).cells hq
                injection hvq with hA' _ hC'
                subst hA' hC'
                have hz0 := (hbz.cell (p := ⟨b7, 0, none⟩) hb7).trans h70
                have HQ := Lib.hid hq
                clear hq
                have hd1 : decide (t = out.length) = false := decide_eq_false (by omega)
                have hd2 : (t == out.length) = false := by simp; omega
                have hd3 : ((t : Int) == (out.length : Int)) = false := by simp; omega
                by_cases heq : q.1 = p.1
                · have hb1 : (q.1 == p.1) = true := by simpa using heq
                  have hb2 : (q.1 != p.1) = false := by simp [heq]
                  have HEQ := Lib.hid heq
                  clear heq
                  go_quiet (fail)
                  go_wp2
                  go_meet
                  exact ⟨false, rfl, below_draws hbz _, Lib.hid (fun _ => ⟨q, HQ.out, HEQ.out⟩), Lib.hid (fun h => by cases h)⟩
                · have hb1 : (q.1 == p.1) = false := by simpa using heq
                  have hb2 : (q.1 != p.1) = true := by simp [heq]
                  have HEQ := Lib.hid heq
                  clear heq
                  go_quiet (fail)
                  go_wp2
                  go_meet
                  exact ⟨true, rfl, below_draws hbz _, Lib.hid (fun h => by cases h), Lib.hid (fun _ r hr => by rw [HQ.out] at hr; cases hr; exact ⟨hnl.out, HEQ.out⟩)⟩
              · obtain rfl : t = out.length := by omega
                have hd2 : (out.length == out.length) = true := by simp
                have hd3 : ((out.length : Int) == (out.length : Int)) = true := by simp
                go_quiet (fail)
                go_wp2
                go_meet
                exact ⟨true, rfl, below_draws hbz _, Lib.hid (fun h => by cases h), Lib.hid (fun _ r hr => by rw [List.getElem?_eq_none (Nat.le_refl _)] at hr; cases hr)⟩
            case rest =>
              obtain ⟨b, rfl, hbx, HB0, HB1⟩ := hcut
              clear hbz
              go_upto_if 63 with (fail)
              go_cut [4] (fun v wx => ∃ mid : List Pt, Hid (Mid (upTo ls k ++ l.take j) p.1 mid t) ∧ mid.length ≤ (upTo ls k).length + j + 1 ∧ Below wq.heap.size wq wx ∧ wx.ownsRow w.heap.size 38 2 v mid.length (pcells mid))
              case first =>
                cases b
                · go_wp2
                  go_meet
                  exact ⟨out, Lib.hid (by obtain ⟨q, hq, he⟩ := HB0.out trivial; exact mid_old hji hq he), by omega, hbx, hrowq.kept (grown_below hbx (Nat.le_refl _)) (by cases h : (Value.slice A4 out.length c4).ownBlock <;> simp)⟩
                · have hP4c := hP4.below hbx
                  obtain ⟨A2, c2, hrun2, hto⟩ := cut_to A4 c4 out t (by omega) ht
                  obtain ⟨A1, c1, hrun1, hfrom⟩ := cut_from A4 c4 out t ht
                  obtain ⟨A2', c2', hv2, hk2, _, hz2, hl2⟩ := hto _ _ hP4c
                  obtain ⟨A1', c1', hv1, hk1, _, hz1', hl1⟩ := hfrom _ _ hP4c
                  injection hv2 with e1 e2 e3
                  subst e1 e3
                  injection hv1 with e4 e5 e6
                  subst e4 e6
                  have hk2 : t ≤ c2 := by rw [List.length_take] at hk2; omega
                  have hk1 : out.length - t ≤ c1 := by rw [List.length_drop] at hk1; exact hk1
                  clear hto hfrom hP4c e2 e5
                  have hxs := hbx.size
                  have htk : (pcells (out.take t)).length = t * 2 := by rw [pcells_length, List.length_take]; omega
                  have hdr : (pcells (out.drop t)).length = (out.length - t) * 2 := by rw [pcells_length, List.length_drop]
                  have HTK := Lib.hid htk
                  have HDR := Lib.hid hdr
                  have HZ1 := Lib.hid hz1'
                  have HZ2 := Lib.hid hz2
                  clear htk hdr hz1' hz2
                  have hmk := World.ownsRow_made (w := wc) (base := wc.heap.size) (e := 38) (size := 2) #[] 0 (Nat.le_refl _) (Nat.zero_le _) rfl
                  go_wp2_with (first
                    | (at_builtin; refine wpList_append_lies _ rfl (.tmp 64) (.tmp 67) 22 rfl wc.heap.size 38 i0 _ 2 24 Tryz.underlying22 H1.out H2.out H3.out H4.out rfl (by decide) _ 0 [] rfl hmk wq.heap.size A2 t c2 (pcells (out.take t)) rfl (fun h => ⟨by have := HZ2.out h; omega, HZ2.out h⟩) HTK.out (hl2.alloc_ hxs _) (pcells_one _) (by unfold maxLen; omega) (by omega) (by simp only [World.size_alloc]; omega) ?_; intro v1 w1 hown1 hg1 hat1; have hb1 : Below wc.heap.size wc w1 := ((Below.refl _ _).alloc (Nat.le_refl _) _).grown hg1 (by simp) (fun j hj => by cases hj; exact Nat.le_refl _); have h701 : w1.cell? ⟨b7, 0, none⟩ = some (.string ⟨p.1.toArray⟩) := ((hbx.trans (hb1.mono hxs)).cell (p := ⟨b7, 0, none⟩) hb7).trans h70)
                    | (at_builtin; refine wpList_append_own_at _ rfl (.tmp 69) (.tmp 73) 22 rfl wc.heap.size 38 i0 _ 2 24 Tryz.underlying22 H1.out H2.out H3.out H4.out rfl (by decide) _ (0 + t) _ rfl (hown1.alloc _) ⟨w1.heap.size, 0, none⟩ 1 1 [.string ⟨p.1.toArray⟩, .int .i64 0] rfl rfl (two_new _ _ _ _) (two_one _ _) (by unfold maxLen; omega) (by omega) (by simp only [World.size_alloc]; have := hb1.size; omega) ?_; intro v2 w2 hown2 hg2 _ hat2; have hb2 : Below wc.heap.size wc w2 := (hb1.alloc hb1.size _).grown hg2 (by simp only [World.size_alloc]; have := hb1.size; omega) (fun j hj => (hown1.lt j hj).1))
                    | (at_builtin; refine wpList_append_lies _ rfl (.tmp 75) (.tmp 78) 22 rfl wc.heap.size 38 i0 _ 2 24 Tryz.underlying22 H1.out H2.out H3.out H4.out rfl (by decide) _ (0 + t + 1) _ rfl hown2 wq.heap.size A1 (out.length - t) c1 (pcells (out.drop t)) rfl (fun h => ⟨by have := HZ1.out h; omega, HZ1.out h⟩) HDR.out (hl1.below (hb2.mono hxs)) (pcells_one _) (by unfold maxLen; omega) (by omega) hb2.size ?_; intro v3 w3 hown3 hg3 hat3))
                  have hmid : pcells (out.take t ++ ([(p.1, 0)] ++ out.drop t)) = ([] ++ pcells (out.take t) ++ [.string ⟨p.1.toArray⟩, .int .i64 0]) ++ pcells (out.drop t) := by
                    rw [pcells_append, pcells_append, List.nil_append, List.append_assoc]; rfl
                  have hmln : (out.take t ++ ([(p.1, (0 : Int))] ++ out.drop t)).length = 0 + t + 1 + (out.length - t) := by simp; omega
                  rw [← hmid, ← hmln] at hown3
                  have hmle : (out.take t ++ ([(p.1, (0 : Int))] ++ out.drop t)).length ≤ (upTo ls k).length + j + 1 := by omega
                  have hb3 : Below wq.heap.size wq w3 := (hbx.trans (hb2.mono hxs)).grown hg3 (Nat.le_trans hxs hb2.size) (fun i hi => Nat.le_trans hxs (hown2.lt i hi).1)
                  have hwq := hbq.size
                  have HMD := Lib.hid hmid
                  have HML := Lib.hid hmln
                  clear hmid hmln
                  go_meet
                  exact ⟨_, Lib.hid (mid_new hji ht HLT.out (HB1.out trivial)), hmle, hb3, base_less hown3 (by omega)⟩
              case rest =>
                obtain ⟨mid, HMID, hml, hbm, hrowm⟩ := hcut
                have hmt := List.getElem?_eq_some_iff.1 HMID.out.at_
                obtain ⟨htm, _⟩ := hmt
                have hlen2 := hrowm.1
                obtain ⟨g, cap, hv, hbg⟩ : ∃ g cap, _ = Value.slice (some ⟨g, 0, none⟩) mid.length cap ∧ w.heap.size ≤ g := by
                  rcases hrowm.2 with ⟨_, h⟩ | ⟨g, cap, cur, hv, hbg, _⟩
                  · omega
                  · exact ⟨g, cap, hv, hbg⟩
                subst hv
                have hq1 := (hrowm.cellAt (t * 2 + 1) (by omega)).trans (pcells_qty mid t _ HMID.out.at_)
                have hf1 := hrowm.frozenAt (t * 2 + 1)
                have h711 := (hbm.cell (p := ⟨b7, 1, none⟩) hb7).trans h71
                have hgl := (hrowm.lt g rfl).2
                have HLN := Lib.hid hlen2
                clear hlen2
                have hq1 : wc.cell? ⟨g, t * 2 + 1, none⟩ = some (.int .i64 (tot p.1 (upTo ls k ++ l.take j))) := hq1
                have hbw : Below w.heap.size w wc := hbq.trans (hbm.mono hbq.size)
                by_cases ha : addB (tot p.1 (upTo ls k ++ l.take j)) p.2 = true
                · have HA := Lib.hid ha
                  clear ha
                  go_wp2
                  go_quiet ((go_at_call 22; exact Calls.quiet_of_same (radd_yes_q _ _ _ HA.out)))
                  go_wp2
                  have e1 : upTo ls k ++ l.take (j + 1) = (upTo ls k ++ l.take j) ++ [(p.1, p.2)] := by rw [List.take_add_one, HP.out]; simp
                  have hj1 : JoinOk (upTo ls k ++ l.take (j + 1)) := by rw [e1]; exact joinOk_of_add hoki HA.out
                  have hi1 : IsJoin (upTo ls k ++ l.take (j + 1)) (mid.set t (p.1, tot p.1 (upTo ls k ++ l.take j) + p.2)) := by rw [e1]; exact HMID.out.step p.2
                  have hrs := (hrowm.stored (t * 2 + 1) (.int .i64 (tot p.1 (upTo ls k ++ l.take j) + p.2))).1
                  rw [pcells_set mid t p.1 _ _ HMID.out.at_] at hrs
                  have hls : (mid.set t (p.1, tot p.1 (upTo ls k ++ l.take j) + p.2)).length = mid.length := by simp
                  have hle : (mid.set t (p.1, tot p.1 (upTo ls k ++ l.take j) + p.2)).length ≤ (upTo ls k).length + (j + 1) := by rw [hls]; omega
                  have HE1 := Lib.hid e1
                  have HRS := Lib.hid hrs
                  have HLS := Lib.hid hls
                  clear e1 hrs hls
                  go_roundw
                  case rel => exact ⟨j + 1, _, by omega, by go_num, below_draws (hbw.setCell (p := ⟨g, t * 2 + 1, none⟩) hbg _) _, hj1, hi1, hle, by rw [HLS.out]; exact HRS.out⟩
                  case measure => simp [intOf]; omega
                · have ha : addB (tot p.1 (upTo ls k ++ l.take j)) p.2 = false := by simpa using ha
                  have hno : Hid (¬ JoinOk ls.flatten) := Lib.hid (by
                    obtain ⟨m, hm⟩ := upTo_split HLK.out HP.out
                    rw [hm]
                    exact not_joinOk_snoc ha)
                  have HA := Lib.hid ha
                  clear ha
                  go_wp2
                  go_quiet ((go_at_call 22; exact Calls.quiet_of_same (radd_no_q _ _ _ HA.out)))
                  go_wp2
                  go_ret2
                  exact ⟨below_draws hbw _, .inr ⟨hno.out, rfl⟩⟩
        · obtain rfl : j = l.length := by omega
          rw [List.take_of_length_le (Nat.le_refl _), ← upTo_succ HLK.out] at hoki hji
          have hlen1 : (upTo ls (k + 1)).length = (upTo ls k).length + l.length := by rw [upTo_succ HLK.out, List.length_append]
          rw [← hlen1] at hoi
          have HN1 := Lib.hid hlen1
          clear hlen1
          go_wp2
          go_roundw
          case rel => exact ⟨k + 1, out, by omega, by go_num, hbi, hoki, hji, hoi, hrow⟩
          case measure => simp [intOf]; omega
    · obtain rfl : k = ls.length := by omega
      rw [upTo_all] at hok hj
      go_wp2
      go_ret2
      exact ⟨hbr, .inl ⟨hok, _, out, rfl, hj, hrow⟩⟩
end Go.Proofs.YtfppiigmibjbnaaGreat
