/- Merging in place (slices.symMergeCmpFunc), whatever rows. -/
import Derived.Test.YtdmgnafafafdpaaStM3
namespace Go.Proofs.Ytdmgnafafafdpaa
open Go.ChangeShapes Go.WideShapes Go.ChangeAt Go.RowKit Go.Shelf Go.Lib Go.Sort Go.Proofs
set_option linter.unusedVariables false
variable {α : Type} [Inhabited α]

theorem merges (k : Nat) (aE : ∀ w, (isAgg 25).run Try.prog w = .ok true w) (zE : ∀ w, (Go.sizeOf 25).run Try.prog w = .ok k w) (enc : α → List Value) (cf : α → α → Int) (lt : α → α → Bool) (hS : SWO lt) (g : Nat) (cb : Array Value) (blk off cap : Nat) (d0 : Array α) (w0 : World)
    (eg : ∀ args w, (callFunc g args).run Try.prog w = .ok (.enter g args) w) (hcmp : CmpLays Try.prog g cb enc k cf blk off d0.size w0) (R : RowK enc k w0 blk off d0) (hsz : d0.size < 1152921504606846976) :
    ∀ N, MergesBelow lt enc k cf g cb blk off cap d0.size N w0
  | 0 => fun xa xm xb a m b d w _ _ _ h => by omega
  | N + 1 => fun xa xm xb a m b d w ea em eb hN hs S ham hmb hb hM => by
    subst ea em eb
    by_cases h1 : m = a + 1
    · have := symMerge_one k aE zE enc cf lt hS g cb blk off cap a m b d0 d w0 w eg hcmp R hs S h1 hmb (by omega) (by omega) hM
      rwa [hs] at this
    · by_cases h2 : b = m + 1
      · have := symMerge_last k aE zE enc cf lt hS g cb blk off cap a m b d0 d w0 w eg hcmp R hs S h2 (by omega) (by omega) (by omega) hM
        rwa [hs] at this
      · have IH := merges k aE zE enc cf lt hS g cb blk off cap d0 w0 eg hcmp R hsz N
        have hI : MergesBelow lt enc k cf g cb blk off cap d.size (b - a) w0 := by
          rw [hs]
          intro xa xm xb a' m' b' d' w' e1 e2 e3 hlt h4 h5 h6 h7 h8 h9
          exact IH xa xm xb a' m' b' d' w' e1 e2 e3 (by omega) h4 h5 h6 h7 h8 h9
        have hT : Turns enc k g cb blk off cap d.size w0 := by
          intro xa xm xb a' m' b' d' w' e1 e2 e3 h4 h5 h6 h7 h8
          subst e1 e2 e3
          have := rotate_any k aE zE enc g cb blk off cap a' m' b' d0 d' w0 w' R (h4.trans hs) h5 h6 h7 (by omega) (by omega)
          rwa [h4] at this
        have := symMerge_step k aE zE enc cf lt hS g cb blk off cap a m b ((a + b) / 2) d0 d w0 w eg hcmp R hs S rfl (by omega) (by omega) (by omega) (by omega) hM hI hT
        rwa [hs] at this
end Go.Proofs.Ytdmgnafafafdpaa
