/-
  No cell of these rows narrows 'for every input' (looked for: loops, veiled, ifaces, maps, wideKeys, modest, calm, conditions, laid).
  DERIVED. THE GIVEN ROWS OF THIS SEAT. 2 by the template 'for every input the law returns true; each argument reads behind the call as it read before'; 0 by the template 'total and deterministic' (their statements: YtjejhjlpaijolaaTotals.lean).
  GIVEN WITH THE SEED: the statements are not yours to turn. If you find one false, say at which input.
  Laid BY PROGRAM, IN A SANDBOX (cutbox-rows.mjs): the forced cells as the released guide's own fill.sh prints them over the translation 9b8d6491783486fd… (all of the seat's roots in one cut). By AI agents, Wed Nov 11 2026. No macro, syntax, notation, axiom, sorry.
-/
import Derived.Test.YtjejhjlpaijolaaChecked
import GoSem.Claim
import GoSem.ClaimJoined
import GoSem.ClaimMapViews
import Derived.JoinedTies
import Derived.KernelRfl
namespace Go.Proofs.Ytjejhjlpaijolaa
/- THE CELL 'sum', in the pinned program and in every row, IS THE sha256 OF THE DUMP (.gsa) THAT YtjejhjlpaijolaaProg.lean LOADS. Nothing in Lean hashes anything: it is a label: what it is worth is what the hold of that sum in a sandbox is worth. -/
noncomputable def Try.pinned : Pinned := { name := "ytjejhjlpaijolaa", sum := "9b8d6491783486fdef15141dd7413155fd4d8c112157abf6f62b809a150dec4e", checked := Try.checked }
namespace Rows
def none {H : Type} : Left H := { results := [], args := [] }

/-- 'pestlelaw16.Plain64Codes': WHATEVER THE INPUT: true; the input reads as it did. -/
def plain64CodesSpec : ChangeSpec := { name := "plain64Codes", fn := fun _ => fun
  | [d1, d2, d3, d4] => { results := [.lit (.bool true)], args := [d1, d2, d3, d4] }
  | _ => none }
def plain64CodesRow : OpenClaim := { program := "ytjejhjlpaijolaa", sum := "9b8d6491783486fdef15141dd7413155fd4d8c112157abf6f62b809a150dec4e", func := "pestle/pestlelaw16.Plain64Codes", spec := "plain64Codes", inPlace := ["internal/abi.NoEscape", "internal/bytealg.MakeNoZero"], apart := false }
def Plain64CodesSaid : Prop := plain64CodesRow.holds Try.pinned (OpenSpec.ofChange plain64CodesSpec)

/-- ITS FALSE NEIGHBOUR: 'it returns false'. Refute it at one input. -/
def plain64CodesWrong : ChangeSpec := { name := "plain64Codes", fn := fun _ => fun
  | [d1, d2, d3, d4] => { results := [.lit (.bool false)], args := [d1, d2, d3, d4] }
  | _ => none }
def Plain64CodesWrongFalsely : Prop := plain64CodesRow.holds Try.pinned (OpenSpec.ofChange plain64CodesWrong)

/-- 'pestlelaw16.Plain64Back': WHATEVER THE INPUT: true; the input reads as it did. -/
def plain64BackSpec : ChangeSpec := { name := "plain64Back", fn := fun _ => fun
  | [d1, d2, d3, d4] => { results := [.lit (.bool true)], args := [d1, d2, d3, d4] }
  | _ => none }
def plain64BackRow : OpenClaim := { program := "ytjejhjlpaijolaa", sum := "9b8d6491783486fdef15141dd7413155fd4d8c112157abf6f62b809a150dec4e", func := "pestle/pestlelaw16.Plain64Back", spec := "plain64Back", inPlace := ["internal/abi.NoEscape", "internal/bytealg.MakeNoZero"], apart := false }
def Plain64BackSaid : Prop := plain64BackRow.holds Try.pinned (OpenSpec.ofChange plain64BackSpec)

/-- ITS FALSE NEIGHBOUR: 'it returns false'. Refute it at one input. -/
def plain64BackWrong : ChangeSpec := { name := "plain64Back", fn := fun _ => fun
  | [d1, d2, d3, d4] => { results := [.lit (.bool false)], args := [d1, d2, d3, d4] }
  | _ => none }
def Plain64BackWrongFalsely : Prop := plain64BackRow.holds Try.pinned (OpenSpec.ofChange plain64BackWrong)

/- THE SECOND FORM. 'bulk': how many values and letters a reading holds, each counted each time it is reached (what is shared counts as often as it is met; a slice's spare places count too). A statement '..UptoSaid' is the law's where the arguments, and the package variables that the reading takes, are together of bulk at most 1048576: NARROWER than '..Said'. Prove '..Said' where nothing that the law and all that it calls make is longer than what came in: it says more and counts as full. Else prove '..UptoSaid'. A law counts once. -/
mutual
def uptoBulk {H : Type} : DataW H → Nat
  | .lit (.string bytes) => bytes.length + 1
  | .lit _ => 1
  | .nil => 1
  | .ptr d => uptoBulk d + 1
  | .slice elems spare => uptoBulkAll elems + uptoBulkAll spare + 1
  | .agg parts => uptoBulkAll parts + 1
  | .iface _ d => uptoBulk d + 1
  | .map entries => uptoBulkEntries entries + 1
  | .held _ => 1
def uptoBulkAll {H : Type} : List (DataW H) → Nat
  | [] => 0
  | d :: r => uptoBulk d + uptoBulkAll r
def uptoBulkEntries {H : Type} : List (Lit × DataW H) → Nat
  | [] => 0
  | x :: r => uptoBulkEntry x + uptoBulkEntries r
def uptoBulkEntry {H : Type} : Lit × DataW H → Nat
  | (.string bytes, d) => bytes.length + uptoBulk d + 1
  | (_, d) => uptoBulk d + 1
 end
def uptoSmall : (H : Type) → List (DataW H) → Bool := fun _ ds => decide (uptoBulkAll ds ≤ 1048576)
def OpenSpec.upto (s : _root_.Go.ChangeSpec) : _root_.Go.OpenSpec := { _root_.Go.OpenSpec.ofChange s with cond := some uptoSmall }

/-- 'pestlelaw16.Plain64Codes', WHERE WHAT IT READS IS OF BULK AT MOST 1048576: true; the input reads as it did. -/
def plain64CodesUptoRow : OpenClaim := { program := "ytjejhjlpaijolaa", sum := "9b8d6491783486fdef15141dd7413155fd4d8c112157abf6f62b809a150dec4e", func := "pestle/pestlelaw16.Plain64Codes", spec := "plain64Codes", inPlace := ["internal/abi.NoEscape", "internal/bytealg.MakeNoZero"], apart := false, narrowed := true }
def Plain64CodesUptoSaid : Prop := plain64CodesUptoRow.holds Try.pinned (OpenSpec.upto plain64CodesSpec)

/-- 'pestlelaw16.Plain64Back', WHERE WHAT IT READS IS OF BULK AT MOST 1048576: true; the input reads as it did. -/
def plain64BackUptoRow : OpenClaim := { program := "ytjejhjlpaijolaa", sum := "9b8d6491783486fdef15141dd7413155fd4d8c112157abf6f62b809a150dec4e", func := "pestle/pestlelaw16.Plain64Back", spec := "plain64Back", inPlace := ["internal/abi.NoEscape", "internal/bytealg.MakeNoZero"], apart := false, narrowed := true }
def Plain64BackUptoSaid : Prop := plain64BackUptoRow.holds Try.pinned (OpenSpec.upto plain64BackSpec)

end Rows
end Go.Proofs.Ytjejhjlpaijolaa
