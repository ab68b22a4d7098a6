/-
  No cell of these rows narrows 'for every input' (looked for: loops, veiled, ifaces, maps, wideKeys, modest, calm, conditions, laid).
  DERIVED. THE GIVEN ROWS OF THIS SEAT. 3 by the template 'for every input the law returns true; each argument reads behind the call as it read before'; 0 by the template 'total and deterministic' (their statements: YtbfnhkmehjggeaaTotals.lean).
  GIVEN WITH THE SEED: the statements are not yours to turn. If you find one false, say at which input.
  Laid BY PROGRAM, IN A SANDBOX (cutbox-rows.mjs): the forced cells as the released guide's own fill.sh prints them over the translation c60ef1739f320a47… (all of the seat's roots in one cut). By AI agents, Wed Nov 11 2026. No macro, syntax, notation, axiom, sorry.
-/
import Derived.Test.YtbfnhkmehjggeaaChecked
import GoSem.Claim
import GoSem.ClaimJoined
import GoSem.ClaimMapViews
import Derived.JoinedTies
import Derived.KernelRfl
namespace Go.Proofs.Ytbfnhkmehjggeaa
/- THE CELL 'sum', in the pinned program and in every row, IS THE sha256 OF THE DUMP (.gsa) THAT YtbfnhkmehjggeaaProg.lean LOADS. Nothing in Lean hashes anything: it is a label: what it is worth is what the hold of that sum in a sandbox is worth. -/
noncomputable def Try.pinned : Pinned := { name := "ytbfnhkmehjggeaa", sum := "c60ef1739f320a47052657f0cb04f586a586412f415086469ac3939f7cc58a8d", checked := Try.checked }
namespace Rows
def none {H : Type} : Left H := { results := [], args := [] }

/-- 'pestlelaw04.FeedBlocks': WHATEVER THE INPUT: true; the input reads as it did. -/
def feedBlocksSpec : ChangeSpec := { name := "feedBlocks", fn := fun _ => fun
  | [d1, d2, d3] => { results := [.lit (.bool true)], args := [d1, d2, d3] }
  | _ => none }
def feedBlocksRow : OpenClaim := { program := "ytbfnhkmehjggeaa", sum := "c60ef1739f320a47052657f0cb04f586a586412f415086469ac3939f7cc58a8d", func := "pestle/pestlelaw04.FeedBlocks", spec := "feedBlocks", apart := false }
def FeedBlocksSaid : Prop := feedBlocksRow.holds Try.pinned (OpenSpec.ofChange feedBlocksSpec)

/-- ITS FALSE NEIGHBOUR: 'it returns false'. Refute it at one input. -/
def feedBlocksWrong : ChangeSpec := { name := "feedBlocks", fn := fun _ => fun
  | [d1, d2, d3] => { results := [.lit (.bool false)], args := [d1, d2, d3] }
  | _ => none }
def FeedBlocksWrongFalsely : Prop := feedBlocksRow.holds Try.pinned (OpenSpec.ofChange feedBlocksWrong)

/-- 'pestlelaw04.FeedParts': WHATEVER THE INPUT: true; the input reads as it did. -/
def feedPartsSpec : ChangeSpec := { name := "feedParts", fn := fun _ => fun
  | [d1, d2, d3] => { results := [.lit (.bool true)], args := [d1, d2, d3] }
  | _ => none }
def feedPartsRow : OpenClaim := { program := "ytbfnhkmehjggeaa", sum := "c60ef1739f320a47052657f0cb04f586a586412f415086469ac3939f7cc58a8d", func := "pestle/pestlelaw04.FeedParts", spec := "feedParts", apart := false }
def FeedPartsSaid : Prop := feedPartsRow.holds Try.pinned (OpenSpec.ofChange feedPartsSpec)

/-- ITS FALSE NEIGHBOUR: 'it returns false'. Refute it at one input. -/
def feedPartsWrong : ChangeSpec := { name := "feedParts", fn := fun _ => fun
  | [d1, d2, d3] => { results := [.lit (.bool false)], args := [d1, d2, d3] }
  | _ => none }
def FeedPartsWrongFalsely : Prop := feedPartsRow.holds Try.pinned (OpenSpec.ofChange feedPartsWrong)

/-- 'pestlelaw04.FeedCopies': WHATEVER THE INPUT: true; the input reads as it did. -/
def feedCopiesSpec : ChangeSpec := { name := "feedCopies", fn := fun _ => fun
  | [d1, d2, d3, d4] => { results := [.lit (.bool true)], args := [d1, d2, d3, d4] }
  | _ => none }
def feedCopiesRow : OpenClaim := { program := "ytbfnhkmehjggeaa", sum := "c60ef1739f320a47052657f0cb04f586a586412f415086469ac3939f7cc58a8d", func := "pestle/pestlelaw04.FeedCopies", spec := "feedCopies", apart := false }
def FeedCopiesSaid : Prop := feedCopiesRow.holds Try.pinned (OpenSpec.ofChange feedCopiesSpec)

/-- ITS FALSE NEIGHBOUR: 'it returns false'. Refute it at one input. -/
def feedCopiesWrong : ChangeSpec := { name := "feedCopies", fn := fun _ => fun
  | [d1, d2, d3, d4] => { results := [.lit (.bool false)], args := [d1, d2, d3, d4] }
  | _ => none }
def FeedCopiesWrongFalsely : Prop := feedCopiesRow.holds Try.pinned (OpenSpec.ofChange feedCopiesWrong)

/- THE SECOND FORM. 'bulk': how many values and letters a reading holds, each counted each time it is reached (what is shared counts as often as it is met; a slice's spare places count too). A statement '..UptoSaid' is the law's where the arguments, and the package variables that the reading takes, are together of bulk at most 1048576: NARROWER than '..Said'. Prove '..Said' where nothing that the law and all that it calls make is longer than what came in: it says more and counts as full. Else prove '..UptoSaid'. A law counts once. -/
mutual
def uptoBulk {H : Type} : DataW H → Nat
  | .lit (.string bytes) => bytes.length + 1
  | .lit _ => 1
  | .nil => 1
  | .ptr d => uptoBulk d + 1
  | .slice elems spare => uptoBulkAll elems + uptoBulkAll spare + 1
  | .agg parts => uptoBulkAll parts + 1
  | .iface _ d => uptoBulk d + 1
  | .map entries => uptoBulkEntries entries + 1
  | .held _ => 1
def uptoBulkAll {H : Type} : List (DataW H) → Nat
  | [] => 0
  | d :: r => uptoBulk d + uptoBulkAll r
def uptoBulkEntries {H : Type} : List (Lit × DataW H) → Nat
  | [] => 0
  | x :: r => uptoBulkEntry x + uptoBulkEntries r
def uptoBulkEntry {H : Type} : Lit × DataW H → Nat
  | (.string bytes, d) => bytes.length + uptoBulk d + 1
  | (_, d) => uptoBulk d + 1
 end
def uptoSmall : (H : Type) → List (DataW H) → Bool := fun _ ds => decide (uptoBulkAll ds ≤ 1048576)
def OpenSpec.upto (s : _root_.Go.ChangeSpec) : _root_.Go.OpenSpec := { _root_.Go.OpenSpec.ofChange s with cond := some uptoSmall }

/-- 'pestlelaw04.FeedBlocks', WHERE WHAT IT READS IS OF BULK AT MOST 1048576: true; the input reads as it did. -/
def feedBlocksUptoRow : OpenClaim := { program := "ytbfnhkmehjggeaa", sum := "c60ef1739f320a47052657f0cb04f586a586412f415086469ac3939f7cc58a8d", func := "pestle/pestlelaw04.FeedBlocks", spec := "feedBlocks", apart := false, narrowed := true }
def FeedBlocksUptoSaid : Prop := feedBlocksUptoRow.holds Try.pinned (OpenSpec.upto feedBlocksSpec)

/-- 'pestlelaw04.FeedParts', WHERE WHAT IT READS IS OF BULK AT MOST 1048576: true; the input reads as it did. -/
def feedPartsUptoRow : OpenClaim := { program := "ytbfnhkmehjggeaa", sum := "c60ef1739f320a47052657f0cb04f586a586412f415086469ac3939f7cc58a8d", func := "pestle/pestlelaw04.FeedParts", spec := "feedParts", apart := false, narrowed := true }
def FeedPartsUptoSaid : Prop := feedPartsUptoRow.holds Try.pinned (OpenSpec.upto feedPartsSpec)

/-- 'pestlelaw04.FeedCopies', WHERE WHAT IT READS IS OF BULK AT MOST 1048576: true; the input reads as it did. -/
def feedCopiesUptoRow : OpenClaim := { program := "ytbfnhkmehjggeaa", sum := "c60ef1739f320a47052657f0cb04f586a586412f415086469ac3939f7cc58a8d", func := "pestle/pestlelaw04.FeedCopies", spec := "feedCopies", apart := false, narrowed := true }
def FeedCopiesUptoSaid : Prop := feedCopiesUptoRow.holds Try.pinned (OpenSpec.upto feedCopiesSpec)

end Rows
end Go.Proofs.Ytbfnhkmehjggeaa
