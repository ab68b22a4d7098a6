/-
  No cell of these rows narrows 'for every input' (looked for: loops, veiled, ifaces, maps, wideKeys, modest, calm, conditions, laid).
  DERIVED. THE GIVEN ROWS OF THIS SEAT. 3 by the template 'for every input the law returns true; each argument reads behind the call as it read before'; 0 by the template 'total and deterministic' (their statements: YticjndlgjbbemaaTotals.lean).
  GIVEN WITH THE SEED: the statements are not yours to turn. If you find one false, say at which input.
  Laid BY PROGRAM, IN A SANDBOX (cutbox-rows.mjs): the forced cells as the released guide's own fill.sh prints them over the translation 6a33f4ed6bc66293… (all of the seat's roots in one cut). By AI agents, Wed Nov 11 2026. No macro, syntax, notation, axiom, sorry.
-/
import Derived.Test.YticjndlgjbbemaaChecked
import GoSem.Claim
import GoSem.ClaimJoined
import GoSem.ClaimMapViews
import Derived.JoinedTies
import Derived.KernelRfl
namespace Go.Proofs.Yticjndlgjbbemaa
/- THE CELL 'sum', in the pinned program and in every row, IS THE sha256 OF THE DUMP (.gsa) THAT YticjndlgjbbemaaProg.lean LOADS. Nothing in Lean hashes anything: it is a label: what it is worth is what the hold of that sum in a sandbox is worth. -/
noncomputable def Try.pinned : Pinned := { name := "yticjndlgjbbemaa", sum := "6a33f4ed6bc662935abf6dcacfc58371cac0b71aeb2d16a33166ed858219cf32", checked := Try.checked }
namespace Rows
def none {H : Type} : Left H := { results := [], args := [] }

/-- 'pestlelaw13.EqualTells': WHATEVER THE INPUT: true; the input reads as it did. -/
def equalTellsSpec : ChangeSpec := { name := "equalTells", fn := fun _ => fun
  | [d1, d2] => { results := [.lit (.bool true)], args := [d1, d2] }
  | _ => none }
def equalTellsRow : OpenClaim := { program := "yticjndlgjbbemaa", sum := "6a33f4ed6bc662935abf6dcacfc58371cac0b71aeb2d16a33166ed858219cf32", func := "pestle/pestlelaw13.EqualTells", spec := "equalTells", apart := false }
def EqualTellsSaid : Prop := equalTellsRow.holds Try.pinned (OpenSpec.ofChange equalTellsSpec)

/-- ITS FALSE NEIGHBOUR: 'it returns false'. Refute it at one input. -/
def equalTellsWrong : ChangeSpec := { name := "equalTells", fn := fun _ => fun
  | [d1, d2] => { results := [.lit (.bool false)], args := [d1, d2] }
  | _ => none }
def EqualTellsWrongFalsely : Prop := equalTellsRow.holds Try.pinned (OpenSpec.ofChange equalTellsWrong)

/-- 'pestlelaw13.EqualBlind': WHATEVER THE INPUT: true; the input reads as it did. -/
def equalBlindSpec : ChangeSpec := { name := "equalBlind", fn := fun _ => fun
  | [d1, d2, d3, d4] => { results := [.lit (.bool true)], args := [d1, d2, d3, d4] }
  | _ => none }
def equalBlindRow : OpenClaim := { program := "yticjndlgjbbemaa", sum := "6a33f4ed6bc662935abf6dcacfc58371cac0b71aeb2d16a33166ed858219cf32", func := "pestle/pestlelaw13.EqualBlind", spec := "equalBlind", apart := false }
def EqualBlindSaid : Prop := equalBlindRow.holds Try.pinned (OpenSpec.ofChange equalBlindSpec)

/-- ITS FALSE NEIGHBOUR: 'it returns false'. Refute it at one input. -/
def equalBlindWrong : ChangeSpec := { name := "equalBlind", fn := fun _ => fun
  | [d1, d2, d3, d4] => { results := [.lit (.bool false)], args := [d1, d2, d3, d4] }
  | _ => none }
def EqualBlindWrongFalsely : Prop := equalBlindRow.holds Try.pinned (OpenSpec.ofChange equalBlindWrong)

/-- 'pestlelaw13.EqualAny': WHATEVER THE INPUT: true; the input reads as it did. -/
def equalAnySpec : ChangeSpec := { name := "equalAny", fn := fun _ => fun
  | [d1, d2, d3, d4, d5] => { results := [.lit (.bool true)], args := [d1, d2, d3, d4, d5] }
  | _ => none }
def equalAnyRow : OpenClaim := { program := "yticjndlgjbbemaa", sum := "6a33f4ed6bc662935abf6dcacfc58371cac0b71aeb2d16a33166ed858219cf32", func := "pestle/pestlelaw13.EqualAny", spec := "equalAny", apart := false }
def EqualAnySaid : Prop := equalAnyRow.holds Try.pinned (OpenSpec.ofChange equalAnySpec)

/-- ITS FALSE NEIGHBOUR: 'it returns false'. Refute it at one input. -/
def equalAnyWrong : ChangeSpec := { name := "equalAny", fn := fun _ => fun
  | [d1, d2, d3, d4, d5] => { results := [.lit (.bool false)], args := [d1, d2, d3, d4, d5] }
  | _ => none }
def EqualAnyWrongFalsely : Prop := equalAnyRow.holds Try.pinned (OpenSpec.ofChange equalAnyWrong)

/- THE SECOND FORM. 'bulk': how many values and letters a reading holds, each counted each time it is reached (what is shared counts as often as it is met; a slice's spare places count too). A statement '..UptoSaid' is the law's where the arguments, and the package variables that the reading takes, are together of bulk at most 1048576: NARROWER than '..Said'. Prove '..Said' where nothing that the law and all that it calls make is longer than what came in: it says more and counts as full. Else prove '..UptoSaid'. A law counts once. -/
mutual
def uptoBulk {H : Type} : DataW H → Nat
  | .lit (.string bytes) => bytes.length + 1
  | .lit _ => 1
  | .nil => 1
  | .ptr d => uptoBulk d + 1
  | .slice elems spare => uptoBulkAll elems + uptoBulkAll spare + 1
  | .agg parts => uptoBulkAll parts + 1
  | .iface _ d => uptoBulk d + 1
  | .map entries => uptoBulkEntries entries + 1
  | .held _ => 1
def uptoBulkAll {H : Type} : List (DataW H) → Nat
  | [] => 0
  | d :: r => uptoBulk d + uptoBulkAll r
def uptoBulkEntries {H : Type} : List (Lit × DataW H) → Nat
  | [] => 0
  | x :: r => uptoBulkEntry x + uptoBulkEntries r
def uptoBulkEntry {H : Type} : Lit × DataW H → Nat
  | (.string bytes, d) => bytes.length + uptoBulk d + 1
  | (_, d) => uptoBulk d + 1
 end
def uptoSmall : (H : Type) → List (DataW H) → Bool := fun _ ds => decide (uptoBulkAll ds ≤ 1048576)
def OpenSpec.upto (s : _root_.Go.ChangeSpec) : _root_.Go.OpenSpec := { _root_.Go.OpenSpec.ofChange s with cond := some uptoSmall }

/-- 'pestlelaw13.EqualTells', WHERE WHAT IT READS IS OF BULK AT MOST 1048576: true; the input reads as it did. -/
def equalTellsUptoRow : OpenClaim := { program := "yticjndlgjbbemaa", sum := "6a33f4ed6bc662935abf6dcacfc58371cac0b71aeb2d16a33166ed858219cf32", func := "pestle/pestlelaw13.EqualTells", spec := "equalTells", apart := false, narrowed := true }
def EqualTellsUptoSaid : Prop := equalTellsUptoRow.holds Try.pinned (OpenSpec.upto equalTellsSpec)

/-- 'pestlelaw13.EqualBlind', WHERE WHAT IT READS IS OF BULK AT MOST 1048576: true; the input reads as it did. -/
def equalBlindUptoRow : OpenClaim := { program := "yticjndlgjbbemaa", sum := "6a33f4ed6bc662935abf6dcacfc58371cac0b71aeb2d16a33166ed858219cf32", func := "pestle/pestlelaw13.EqualBlind", spec := "equalBlind", apart := false, narrowed := true }
def EqualBlindUptoSaid : Prop := equalBlindUptoRow.holds Try.pinned (OpenSpec.upto equalBlindSpec)

/-- 'pestlelaw13.EqualAny', WHERE WHAT IT READS IS OF BULK AT MOST 1048576: true; the input reads as it did. -/
def equalAnyUptoRow : OpenClaim := { program := "yticjndlgjbbemaa", sum := "6a33f4ed6bc662935abf6dcacfc58371cac0b71aeb2d16a33166ed858219cf32", func := "pestle/pestlelaw13.EqualAny", spec := "equalAny", apart := false, narrowed := true }
def EqualAnyUptoSaid : Prop := equalAnyUptoRow.holds Try.pinned (OpenSpec.upto equalAnySpec)

end Rows
end Go.Proofs.Yticjndlgjbbemaa
