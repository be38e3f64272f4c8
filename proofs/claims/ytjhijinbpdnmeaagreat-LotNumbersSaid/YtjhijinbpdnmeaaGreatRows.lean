/-
  No cell of these rows narrows 'for every input' (looked for: loops, veiled, ifaces, maps, wideKeys, modest, calm, conditions, laid).
  DERIVED. THE GIVEN ROWS OF THIS SEAT. 2 by the template 'for every input the law returns true; each argument reads behind the call as it read before'; 0 by the template 'total and deterministic' (their statements: YtjhijinbpdnmeaaGreatTotals.lean).
  GIVEN WITH THE SEED: the statements are not yours to turn. If you find one false, say at which input.
  Laid BY PROGRAM, IN A SANDBOX (cutbox-rows.mjs): the forced cells as the released guide's own fill.sh prints them over the translation 5fd26cc59bf4995a… (all of the seat's roots in one cut). By AI agents, Wed Nov 11 2026. No macro, syntax, notation, axiom, sorry.
-/
import Derived.Test.YtjhijinbpdnmeaaGreatChecked
import GoSem.Claim
import GoSem.ClaimJoined
import GoSem.ClaimMapViews
import Derived.JoinedTies
import Derived.KernelRfl
namespace Go.Proofs.YtjhijinbpdnmeaaGreat
/- THE CELL 'sum', in the pinned program and in every row, IS THE sha256 OF THE DUMP (.gsa) THAT YtjhijinbpdnmeaaGreatProg.lean LOADS. Nothing in Lean hashes anything: it is a label: what it is worth is what the hold of that sum in a sandbox is worth. -/
noncomputable def Tryz.pinned : Pinned := { name := "ytjhijinbpdnmeaagreat", sum := "5fd26cc59bf4995a2c76b3d3e969d1b8697786cddac27a06e9df80a8f1e0b379", checked := Tryz.checked }
namespace Rows
def none {H : Type} : Left H := { results := [], args := [] }

/-- 'storemanlaw04.LotLists': WHATEVER THE INPUT: true; the input reads as it did. -/
def lotListsSpec : ChangeSpec := { name := "lotLists", fn := fun _ => fun
  | [d1, d2, d3] => { results := [.lit (.bool true)], args := [d1, d2, d3] }
  | _ => none }
def lotListsRow : OpenClaim := { program := "ytjhijinbpdnmeaagreat", sum := "5fd26cc59bf4995a2c76b3d3e969d1b8697786cddac27a06e9df80a8f1e0b379", func := "storeman/storemanlaw04.LotLists", spec := "lotLists", unfollowed := true, recurses := true, apart := false }
def LotListsSaid : Prop := lotListsRow.holds Tryz.pinned (OpenSpec.ofChange lotListsSpec)

/-- ITS FALSE NEIGHBOUR: 'it returns false'. Refute it at one input. -/
def lotListsWrong : ChangeSpec := { name := "lotLists", fn := fun _ => fun
  | [d1, d2, d3] => { results := [.lit (.bool false)], args := [d1, d2, d3] }
  | _ => none }
def LotListsWrongFalsely : Prop := lotListsRow.holds Tryz.pinned (OpenSpec.ofChange lotListsWrong)

/-- 'storemanlaw04.LotNumbers': WHATEVER THE INPUT: true; the input reads as it did. -/
def lotNumbersSpec : ChangeSpec := { name := "lotNumbers", fn := fun _ => fun
  | [] => { results := [.lit (.bool true)], args := [] }
  | _ => none }
def lotNumbersRow : OpenClaim := { program := "ytjhijinbpdnmeaagreat", sum := "5fd26cc59bf4995a2c76b3d3e969d1b8697786cddac27a06e9df80a8f1e0b379", func := "storeman/storemanlaw04.LotNumbers", spec := "lotNumbers", unfollowed := true, recurses := true, apart := false }
def LotNumbersSaid : Prop := lotNumbersRow.holds Tryz.pinned (OpenSpec.ofChange lotNumbersSpec)

/-- ITS FALSE NEIGHBOUR: 'it returns false'. Refute it at one input. -/
def lotNumbersWrong : ChangeSpec := { name := "lotNumbers", fn := fun _ => fun
  | [] => { results := [.lit (.bool false)], args := [] }
  | _ => none }
def LotNumbersWrongFalsely : Prop := lotNumbersRow.holds Tryz.pinned (OpenSpec.ofChange lotNumbersWrong)

/- THE SECOND FORM. 'bulk': how many values and letters a reading holds, each counted each time it is reached (what is shared counts as often as it is met; a slice's spare places count too). A statement '..UptoSaid' is the law's where the arguments, and the package variables that the reading takes, are together of bulk at most 1048576: NARROWER than '..Said'. Prove '..Said' where nothing that the law and all that it calls make is longer than what came in: it says more and counts as full. Else prove '..UptoSaid'. A law counts once. -/
mutual
def uptoBulk {H : Type} : DataW H → Nat
  | .lit (.string bytes) => bytes.length + 1
  | .lit _ => 1
  | .nil => 1
  | .ptr d => uptoBulk d + 1
  | .slice elems spare => uptoBulkAll elems + uptoBulkAll spare + 1
  | .agg parts => uptoBulkAll parts + 1
  | .iface _ d => uptoBulk d + 1
  | .map entries => uptoBulkEntries entries + 1
  | .held _ => 1
def uptoBulkAll {H : Type} : List (DataW H) → Nat
  | [] => 0
  | d :: r => uptoBulk d + uptoBulkAll r
def uptoBulkEntries {H : Type} : List (Lit × DataW H) → Nat
  | [] => 0
  | x :: r => uptoBulkEntry x + uptoBulkEntries r
def uptoBulkEntry {H : Type} : Lit × DataW H → Nat
  | (.string bytes, d) => bytes.length + uptoBulk d + 1
  | (_, d) => uptoBulk d + 1
 end
def uptoSmall : (H : Type) → List (DataW H) → Bool := fun _ ds => decide (uptoBulkAll ds ≤ 1048576)
def OpenSpec.upto (s : _root_.Go.ChangeSpec) : _root_.Go.OpenSpec := { _root_.Go.OpenSpec.ofChange s with cond := some uptoSmall }

/-- 'storemanlaw04.LotLists', WHERE WHAT IT READS IS OF BULK AT MOST 1048576: true; the input reads as it did. -/
def lotListsUptoRow : OpenClaim := { program := "ytjhijinbpdnmeaagreat", sum := "5fd26cc59bf4995a2c76b3d3e969d1b8697786cddac27a06e9df80a8f1e0b379", func := "storeman/storemanlaw04.LotLists", spec := "lotLists", unfollowed := true, recurses := true, apart := false, narrowed := true }
def LotListsUptoSaid : Prop := lotListsUptoRow.holds Tryz.pinned (OpenSpec.upto lotListsSpec)

/-- 'storemanlaw04.LotNumbers', WHERE WHAT IT READS IS OF BULK AT MOST 1048576: true; the input reads as it did. -/
def lotNumbersUptoRow : OpenClaim := { program := "ytjhijinbpdnmeaagreat", sum := "5fd26cc59bf4995a2c76b3d3e969d1b8697786cddac27a06e9df80a8f1e0b379", func := "storeman/storemanlaw04.LotNumbers", spec := "lotNumbers", unfollowed := true, recurses := true, apart := false, narrowed := true }
def LotNumbersUptoSaid : Prop := lotNumbersUptoRow.holds Tryz.pinned (OpenSpec.upto lotNumbersSpec)

end Rows
end Go.Proofs.YtjhijinbpdnmeaaGreat
