/- amount.Join: the parts of all lists, one for each item, by rising items; or that there are none. -/
import Derived.Test.YtfppiigmibjbnaaGreatRising
import Derived.Test.YtfppiigmibjbnaaGreatSc
namespace Go.Proofs.YtfppiigmibjbnaaGreat
open Go.ChangeShapes Go.WideShapes Go.ChangeAt Go.RowKit Go.Maps
set_option linter.unusedVariables false

/-- A slice value that reads as parts. -/
def PSl (w : World) (B : Nat) (v : Value) (l : List Pt) : Prop := ∃ A c, v = .slice A l.length c ∧ l.length ≤ c ∧ c ≤ maxLen ∧ (A = none → c = 0) ∧ Lies w B A (pcells l)
theorem PSl.below {w w' : World} {B : Nat} {v : Value} {l : List Pt} (h : PSl w B v l) (hb : Below B w w') : PSl w' B v l := by
  obtain ⟨A, c, h1, h2, h3, hz, h4⟩ := h
  exact ⟨A, c, h1, h2, h3, hz, h4.below hb⟩
theorem PSl.mono {w : World} {B B' : Nat} {v : Value} {l : List Pt} (h : PSl w B v l) (hB : B ≤ B') : PSl w B' v l := by
  obtain ⟨A, c, h1, h2, h3, hz, h4⟩ := h
  exact ⟨A, c, h1, h2, h3, hz, h4.mono hB⟩
theorem PSl.own {w : World} {base e : Nat} {v : Value} {l : List Pt} (h : w.ownsRow base e 2 v l.length (pcells l)) : PSl w w.heap.size v l := by
  obtain ⟨A, c, rfl, h1, h2, hz⟩ := own_form h
  exact ⟨A, c, rfl, h1, h2, hz, Lies.own h⟩
theorem PSl.nil {w : World} {B : Nat} : PSl w B (.slice none 0 0) [] := ⟨none, 0, rfl, Nat.le_refl _, by simp [maxLen], fun _ => rfl, Lies.none⟩

/-- Lists of parts that lie one behind the other. -/
def PRows (w : World) (B : Nat) (A : Option Addr) (ls : List (List Pt)) : Prop :=
  ∃ vs : List Value, vs.length = ls.length ∧ Lies w B A vs ∧ ∀ (i : Nat) (v : Value) (l : List Pt), vs[i]? = some v → ls[i]? = some l → PSl w B v l
theorem PRows.below {w w' : World} {B : Nat} {A : Option Addr} {ls : List (List Pt)} (h : PRows w B A ls) (hb : Below B w w') : PRows w' B A ls := by
  obtain ⟨vs, h1, h2, h3⟩ := h
  exact ⟨vs, h1, h2.below hb, fun i v l hv hl => (h3 i v l hv hl).below hb⟩
theorem PRows.get {w : World} {B : Nat} {A : Option Addr} {ls : List (List Pt)} (h : PRows w B A ls) {k : Nat} {l : List Pt} (hk : ls[k]? = some l) :
    ∃ ad Ai c, A = some ad ∧ ad.block < B ∧ w.cell? (ad.add k) = some (.slice Ai l.length c) ∧ c ≤ maxLen ∧ Lies w B Ai (pcells l) := by
  obtain ⟨vs, h1, h2, h3⟩ := h
  have hlt : k < ls.length := (List.getElem?_eq_some_iff.1 hk).1
  have hv : vs[k]? = some (vs[k]'(by omega)) := List.getElem?_eq_getElem (by omega)
  obtain ⟨Ai, c, hvv, _, hc, _, hl⟩ := h3 k _ l hv hk
  obtain ⟨ad, hA, hab, hcell⟩ := h2.get hv
  exact ⟨ad, Ai, c, hA, hab, by rw [hcell, hvv], hc, hl⟩

/-- The map of sums says the totals. -/
structure MapIs {H : Type} (D : DataW H) (l : List Pt) : Prop where
  isMap : IsMap D
  at_ : ∀ it, D.atKey (.string it) (.lit (.int .i64 0)) = .lit (.int .i64 (tot it l))
  has_ : ∀ it, Maps.has D (.string it) = true ↔ it ∈ l.map (·.1)

theorem mapIs_nil {H : Type} : MapIs (.map [] : DataW H) [] := ⟨isMap_empty, fun it => rfl, fun it => by simp [Maps.has]⟩
theorem MapIs.step {H : Type} {D : DataW H} {l : List Pt} (h : MapIs D l) (p : Pt) : MapIs (D.put (.string p.1) (.lit (.int .i64 (tot p.1 l + p.2)))) (l ++ [p]) := by
  have hkl : WideAt.IsKeyLit (.string p.1) := by simp [WideAt.IsKeyLit]
  refine ⟨h.isMap.put _ _, fun it => ?_, fun it => ?_⟩
  · by_cases e : it = p.1
    · subst e
      rw [atKey_put_same h.isMap hkl, tot_append]
      simp [tot]
    · rw [atKey_put_other (by simpa using e), h.at_, tot_append]
      simp [tot, Ne.symm e]
  · by_cases e : it = p.1
    · subst e
      rw [has_put_same h.isMap hkl]
      simp
    · rw [has_put_other (by simpa using e), h.has_]
      simp [e]
theorem MapIs.join {H : Type} {D : DataW H} {l : List Pt} (h : MapIs D l) {ss : List (List UInt8)} (hp : ss.Perm (strKeys D)) (hk : (strKeys D).Nodup ∧ ∀ x, x ∈ strKeys D ↔ Maps.has D (.string x) = true) :
    IsJoin l ((srt ss).map fun it => (it, tot it l)) := by
  have hperm : (srt ss).Perm (strKeys D) := (List.mergeSort_perm _ _).trans hp
  have hnd : (srt ss).Nodup := hperm.nodup_iff.2 hk.1
  have hmem : ∀ x, x ∈ srt ss ↔ x ∈ l.map (·.1) := fun x => by rw [hperm.mem_iff, hk.2, h.has_]
  constructor
  · unfold Rising
    rw [List.pairwise_map]
    have hs : (srt ss).Pairwise (fun x y => decide (x ≤ y) = true) := List.pairwise_mergeSort (fun a b c h1 h2 => by simp only [decide_eq_true_eq] at *; exact List.le_trans h1 h2) (fun a b => by simp only [Bool.or_eq_true, decide_eq_true_eq]; exact List.le_total a b) ss
    refine (hs.and hnd).imp fun {a b} hab => ?_
    obtain ⟨h1, h2⟩ := hab
    simp only [decide_eq_true_eq] at h1
    by_cases h3 : a < b
    · exact h3
    · exact absurd (List.le_antisymm h1 (List.not_lt.1 h3)) h2
  · intro it q
    simp only [List.mem_map, Prod.mk.injEq]
    constructor
    · rintro ⟨x, hx, rfl, rfl⟩
      exact ⟨by have := (hmem x).1 hx; simpa using this, rfl⟩
    · rintro ⟨hx, rfl⟩
      exact ⟨it, (hmem it).2 (by simpa using hx), rfl, rfl⟩

/-- What Join answers of the parts l. -/
def JoinPost (l : List Pt) (w : World) (e : Ending) (w' : World) : Prop :=
  Below w.heap.size w w' ∧
  ((JoinOk l ∧ ∃ v out, e = .returned (.tuple #[v, .bool true]) ∧ IsJoin l out ∧ out.length ≤ l.length ∧ w'.ownsRow w.heap.size 38 2 v out.length (pcells out)) ∨
   (¬ JoinOk l ∧ e = .returned (.tuple #[.slice none 0 0, .bool false])))
theorem JoinPost.yes {l : List Pt} {w w' : World} {v : Value} {out : List Pt} (h : JoinOk l) (hj : IsJoin l out) (hl : out.length ≤ l.length) (ho : w'.ownsRow w.heap.size 38 2 v out.length (pcells out)) (hb : Below w.heap.size w w') :
    JoinPost l w (.returned (.tuple #[v, .bool true])) w' := ⟨hb, .inl ⟨h, v, out, rfl, hj, hl, ho⟩⟩
theorem JoinPost.no {l : List Pt} {w w' : World} (h : ¬ JoinOk l) (hb : Below w.heap.size w w') : JoinPost l w (.returned (.tuple #[.slice none 0 0, .bool false])) w' := ⟨hb, .inr ⟨h, rfl⟩⟩

/-- The rising contract, for the map of the totals of l. -/
theorem rising_tot {H : Type} (b nn : Nat) (D0 : DataW H) (l : List Pt) (w : World) (hown : w.ownsMap Tryz.prog 9 (plainElem Tryz.prog 2) b nn D0) (hmax : nn ≤ 1099511627776) (hm : MapIs D0 l) :
    Calls Tryz.prog 21 #[.map (some b)] w fun e w' => ∃ (v : Value) (out : List Pt), e = .returned v ∧ IsJoin l out ∧ out.length ≤ nn ∧
      w'.ownsRow w.heap.size 38 2 v out.length (pcells out) ∧ Below w.heap.size w w' := by
  refine (rising_any b nn D0 w hown hmax (fun it => tot it l) hm.at_).mono ?_
  rintro e w' ⟨v, ss, rfl, hp, hrow, hb⟩
  have hs := size_strKeys hown
  have hl := hp.length_eq
  have e : ((srt ss).map fun it => (it, tot it l)).length = ss.length := by rw [List.length_map, srt, List.length_mergeSort]
  exact ⟨v, _, rfl, hm.join hp (keys_of hown skeyed Tryz.underlying9), by omega, by rw [e]; exact hrow, hb⟩

theorem wf_addV (a b : Int) : (Lit.int .i64 (addV a b)).wf = true := by
  unfold addV
  split
  · rename_i h
    simp only [addB, Bool.and_eq_true] at h
    have := of_rightB h.2.2
    exact WalkArith.wf_i64 (by omega)
  · rfl

/-- The parts of the first k lists, and j parts of the next one. -/
def upTo (ls : List (List Pt)) (k : Nat) : List Pt := (ls.take k).flatten
theorem upTo_succ {ls : List (List Pt)} {k : Nat} {l : List Pt} (h : ls[k]? = some l) : upTo ls (k + 1) = upTo ls k ++ l := by
  unfold upTo; rw [List.take_add_one, h]; simp
theorem upTo_all (ls : List (List Pt)) : upTo ls ls.length = ls.flatten := by unfold upTo; rw [List.take_of_length_le (Nat.le_refl _)]
theorem upTo_len {ls : List (List Pt)} {k : Nat} {l : List Pt} (h : ls[k]? = some l) : (upTo ls k).length + l.length ≤ ls.flatten.length := by
  have hlt := (List.getElem?_eq_some_iff.1 h).1
  have e : ls = ls.take (k + 1) ++ ls.drop (k + 1) := (List.take_append_drop _ _).symm
  have h2 : ls.flatten = upTo ls (k + 1) ++ (ls.drop (k + 1)).flatten := by
    conv => lhs; rw [e]
    rw [List.flatten_append]; rfl
  rw [h2, upTo_succ h, List.length_append, List.length_append]; omega
theorem upTo_split {ls : List (List Pt)} {k : Nat} {l : List Pt} (h : ls[k]? = some l) {j : Nat} {p : Pt} (hj : l[j]? = some p) : ∃ m, ls.flatten = (upTo ls k ++ l.take j) ++ p :: m := by
  have hlt := (List.getElem?_eq_some_iff.1 h).1
  have hjl := List.getElem?_eq_some_iff.1 hj
  have e : ls = ls.take (k + 1) ++ ls.drop (k + 1) := (List.take_append_drop _ _).symm
  have h2 : ls.flatten = upTo ls (k + 1) ++ (ls.drop (k + 1)).flatten := by
    conv => lhs; rw [e]
    rw [List.flatten_append]; rfl
  refine ⟨l.drop (j + 1) ++ (ls.drop (k + 1)).flatten, ?_⟩
  have h3 : l = l.take j ++ p :: l.drop (j + 1) := by
    conv => lhs; rw [← List.take_append_drop j l, List.drop_eq_getElem_cons hjl.1, hjl.2]
  rw [h2, upTo_succ h]
  conv => lhs; rw [h3]
  simp

set_option maxHeartbeats 2000000 in
theorem join_any {H : Type} (A : Option Addr) (c : Nat) (ls : List (List Pt)) (w : World) (hr : PRows w w.heap.size A ls) (hs : Sized ls.flatten) (hlen : ls.flatten.length ≤ 1099511627776) (hn : ls.length ≤ 1099511627776) :
    Calls Tryz.prog 8 #[.slice A ls.length c] w (JoinPost ls.flatten w) := by
  have hmm := @run_makeMap Tryz.prog
  have hlens : ∀ (k : Nat) (l : List Pt), ls[k]? = some l → l.length ≤ 1099511627776 := fun k l h => by have := upTo_len h; omega
  have HS := Lib.hid hs
  have HL := Lib.hid hlens
  clear hs hlens
  go_enter Tryz.func8, Tryz.ntmps8
  go_wp2
  clear hmm
  go_loopw [14] (fun i wr => ∃ k : Nat, k ≤ ls.length ∧ i = .int .i64 k ∧ Below w.heap.size w wr ∧ w.heap.size < wr.heap.size ∧ JoinOk (upTo ls k) ∧ ∃ D : DataW H, MapIs D (upTo ls k) ∧ wr.ownsMap Tryz.prog 9 (plainElem Tryz.prog 2) w.heap.size (upTo ls k).length D)
    (fun i _ => ls.length - (intOf i).toNat)
  case atStart => exact ⟨0, Nat.zero_le _, rfl, (Below.refl _ _).alloc (Nat.le_refl _) _, by simp, joinOk_nil, _, mapIs_nil, World.ownsMap_made _ _ _ _⟩
  case round =>
    obtain ⟨k, hk, rfl, hbr, hlt0, hok, D, hm, hown⟩ := hrel
    by_cases hlt : k < ls.length
    · obtain ⟨l, hl⟩ : ∃ l, ls[k]? = some l := ⟨_, List.getElem?_eq_getElem hlt⟩
      obtain ⟨ad, Ai, ci, rfl, hab, hcellw, hci, hli⟩ := hr.get hl
      have hcell := (hbr.cell (p := ad.add k) (by rw [addr_block]; exact hab)).trans hcellw
      clear hcellw
      have hll := HL.out k l hl
      have hul := upTo_len hl
      have HLK := Lib.hid hl
      clear hl
      obtain ⟨wo, rfl⟩ : ∃ wo : World, wo = wr := ⟨_, rfl⟩
      go_wp2
      go_loopw [20] (fun i wr => ∃ j : Nat, j ≤ l.length ∧ i = .int .i64 j ∧ Below w.heap.size w wr ∧ w.heap.size < wr.heap.size ∧ JoinOk (upTo ls k ++ l.take j) ∧ ∃ D : DataW H, MapIs D (upTo ls k ++ l.take j) ∧ wr.ownsMap Tryz.prog 9 (plainElem Tryz.prog 2) w.heap.size ((upTo ls k).length + j) D)
        (fun i _ => l.length - (intOf i).toNat)
      case atStart => exact ⟨0, Nat.zero_le _, rfl, hbr, hlt0, by simpa using hok, D, by simpa using hm, hown⟩
      case round =>
        obtain ⟨j, hj, rfl, hbi, hlti, hoki, Di, hmi, howni⟩ := hrel
        by_cases hjl : j < l.length
        · obtain ⟨p, hp⟩ : ∃ p, l[j]? = some p := ⟨_, List.getElem?_eq_getElem hjl⟩
          obtain ⟨ap, rfl, hapb, hc0⟩ := (hli.below hbi).get (pcells_item l j p hp)
          obtain ⟨ap', hap, _, hc1⟩ := (hli.below hbi).get (pcells_qty l j p hp)
          obtain rfl : ap = ap' := by simpa using hap
          rw [← addr_add] at hc1
          have hc1 : wr.cell? ⟨(ap.add (j * 2)).block, (ap.add (j * 2)).off + 1, none⟩ = some (.int .i64 p.2) := hc1
          have hpl : p.1.length ≤ maxLen := by
            have h1 : p ∈ ls.flatten := by obtain ⟨m, hm⟩ := upTo_split HLK.out hp; rw [hm]; simp
            exact (HS.out p h1).1
          have HP := Lib.hid hp
          clear hp hap
          go_wp2_with (first
            | (at_lookup; refine wpList_lookup_own_int _ rfl _ _ 44 rfl 9 2 .i64 skeyed Tryz.underlying44 Tryz.underlying2 (zero64 _) w.heap.size ((upTo ls k).length + j) Di rfl (howni.alloc _) _ _ rfl (key_of p.1 hpl) ?_; intro c hat hwc; obtain rfl : tot p.1 (upTo ls k ++ l.take j) = c := by (rw [hmi.at_] at hat; simpa using hat))
            | (go_at_call 18; ((with_reducible refine (add_any (tot p.1 (upTo ls k ++ l.take j)) p.2 _).mono ?_); rintro e w' ⟨rfl, rfl⟩))
            | (at_mapUpdate; refine wpList_mapUpdate_own _ rfl _ _ _ 44 rfl 9 2 skeyed Tryz.underlying44 (plainElem Tryz.prog 2) w.heap.size ((upTo ls k).length + j) Di rfl (howni.alloc _) (by unfold maxLen; omega) _ _ _ rfl rfl (key_of p.1 hpl) (.lit (.int .i64 (addV (tot p.1 (upTo ls k ++ l.take j)) p.2))) [] (plainElem_int Tryz.underlying2 (wf_addV _ _)) ?_; intro w2 hown2 hg2))
          · have hno : ¬ JoinOk ls.flatten := by
              obtain ⟨m, hm⟩ := upTo_split HLK.out HP.out
              rw [hm]
              exact not_joinOk_snoc (by simp_all)
            go_ret2
            exact JoinPost.no hno (hbi.alloc hbi.size _)
          · have ha : addB (tot p.1 (upTo ls k ++ l.take j)) p.2 = true := by simp_all
            have e1 : upTo ls k ++ l.take (j + 1) = (upTo ls k ++ l.take j) ++ [p] := by rw [List.take_add_one, HP.out]; simp
            have e2 : addV (tot p.1 (upTo ls k ++ l.take j)) p.2 = tot p.1 (upTo ls k ++ l.take j) + p.2 := by unfold addV; rw [if_pos ha]
            rw [e2] at hown2
            have hj1 := joinOk_of_add hoki ha
            have hm1 := hmi.step p
            rw [← e1] at hj1 hm1
            have hb2 : Below w.heap.size w w2 := (hbi.alloc hbi.size _).grown hg2 (by simp only [World.size_alloc]; omega) (fun j hj => by cases hj; exact Nat.le_refl _)
            have hz2 := hg2.size
            simp only [World.size_alloc] at hz2
            have HE := Lib.hid e1
            have HF := Lib.hid e2
            have HA := Lib.hid ha
            clear e1 e2 ha
            go_roundw
            case rel => exact ⟨j + 1, by omega, by go_num, hb2, by omega, hj1, _, hm1, hown2⟩
            case measure => simp [intOf]; omega
        · obtain rfl : j = l.length := by omega
          rw [List.take_of_length_le (Nat.le_refl _), ← upTo_succ HLK.out] at hoki hmi
          have hlen1 : (upTo ls (k + 1)).length = (upTo ls k).length + l.length := by rw [upTo_succ HLK.out, List.length_append]
          rw [← hlen1] at howni
          have HN := Lib.hid hlen1
          clear hlen1
          go_wp2
          go_roundw
          case rel => exact ⟨k + 1, by omega, by go_num, hbi, hlti, hoki, Di, hmi, howni⟩
          case measure => simp [intOf]; omega
    · obtain rfl : k = ls.length := by omega
      rw [upTo_all] at hok hm hown
      go_wp2_with (go_at_call 21; ((with_reducible refine (rising_tot w.heap.size ls.flatten.length D ls.flatten wr hown hlen hm).mono ?_); rintro e w' ⟨v, out, rfl, hj, hol, hrow, hb⟩))
      go_ret2
      exact JoinPost.yes hok hj hol (base_less hrow (by omega)) (hbr.trans (hb.mono (by omega)))
end Go.Proofs.YtfppiigmibjbnaaGreat
