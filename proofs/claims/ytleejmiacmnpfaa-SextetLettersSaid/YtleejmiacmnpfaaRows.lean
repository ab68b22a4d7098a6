/-
  No cell of these rows narrows 'for every input' (looked for: loops, veiled, ifaces, maps, wideKeys, modest, calm, conditions, laid).
  DERIVED. THE GIVEN ROWS OF THIS SEAT. 3 by the template 'for every input the law returns true; each argument reads behind the call as it read before'; 0 by the template 'total and deterministic' (their statements: YtleejmiacmnpfaaTotals.lean).
  GIVEN WITH THE SEED: the statements are not yours to turn. If you find one false, say at which input.
  Laid BY PROGRAM, IN A SANDBOX (cutbox-rows.mjs): the forced cells as the released guide's own fill.sh prints them over the translation 1261447a56e9b239… (all of the seat's roots in one cut). By AI agents, Wed Nov 11 2026. No macro, syntax, notation, axiom, sorry.
-/
import Derived.Test.YtleejmiacmnpfaaChecked
import GoSem.Claim
import GoSem.ClaimJoined
import GoSem.ClaimMapViews
import Derived.JoinedTies
import Derived.KernelRfl
namespace Go.Proofs.Ytleejmiacmnpfaa
/- THE CELL 'sum', in the pinned program and in every row, IS THE sha256 OF THE DUMP (.gsa) THAT YtleejmiacmnpfaaProg.lean LOADS. Nothing in Lean hashes anything: it is a label: what it is worth is what the hold of that sum in a sandbox is worth. -/
noncomputable def Try.pinned : Pinned := { name := "ytleejmiacmnpfaa", sum := "1261447a56e9b23943536dbfe988f27b153b989f5ba8a34910c38670b09f0c21", checked := Try.checked }
namespace Rows
def none {H : Type} : Left H := { results := [], args := [] }

/-- 'pestlelaw15.SextetCodes': WHATEVER THE INPUT: true; the input reads as it did. -/
def sextetCodesSpec : ChangeSpec := { name := "sextetCodes", fn := fun _ => fun
  | [d1, d2, d3] => { results := [.lit (.bool true)], args := [d1, d2, d3] }
  | _ => none }
def sextetCodesRow : OpenClaim := { program := "ytleejmiacmnpfaa", sum := "1261447a56e9b23943536dbfe988f27b153b989f5ba8a34910c38670b09f0c21", func := "pestle/pestlelaw15.SextetCodes", spec := "sextetCodes", inPlace := ["internal/abi.NoEscape", "internal/bytealg.MakeNoZero"], apart := false }
def SextetCodesSaid : Prop := sextetCodesRow.holds Try.pinned (OpenSpec.ofChange sextetCodesSpec)

/-- ITS FALSE NEIGHBOUR: 'it returns false'. Refute it at one input. -/
def sextetCodesWrong : ChangeSpec := { name := "sextetCodes", fn := fun _ => fun
  | [d1, d2, d3] => { results := [.lit (.bool false)], args := [d1, d2, d3] }
  | _ => none }
def SextetCodesWrongFalsely : Prop := sextetCodesRow.holds Try.pinned (OpenSpec.ofChange sextetCodesWrong)

/-- 'pestlelaw15.SextetLetters': WHATEVER THE INPUT: true; the input reads as it did. -/
def sextetLettersSpec : ChangeSpec := { name := "sextetLetters", fn := fun _ => fun
  | [d1, d2] => { results := [.lit (.bool true)], args := [d1, d2] }
  | _ => none }
def sextetLettersRow : OpenClaim := { program := "ytleejmiacmnpfaa", sum := "1261447a56e9b23943536dbfe988f27b153b989f5ba8a34910c38670b09f0c21", func := "pestle/pestlelaw15.SextetLetters", spec := "sextetLetters", inPlace := ["internal/abi.NoEscape", "internal/bytealg.MakeNoZero"], apart := false }
def SextetLettersSaid : Prop := sextetLettersRow.holds Try.pinned (OpenSpec.ofChange sextetLettersSpec)

/-- ITS FALSE NEIGHBOUR: 'it returns false'. Refute it at one input. -/
def sextetLettersWrong : ChangeSpec := { name := "sextetLetters", fn := fun _ => fun
  | [d1, d2] => { results := [.lit (.bool false)], args := [d1, d2] }
  | _ => none }
def SextetLettersWrongFalsely : Prop := sextetLettersRow.holds Try.pinned (OpenSpec.ofChange sextetLettersWrong)

/-- 'pestlelaw15.SextetBack': WHATEVER THE INPUT: true; the input reads as it did. -/
def sextetBackSpec : ChangeSpec := { name := "sextetBack", fn := fun _ => fun
  | [d1, d2, d3] => { results := [.lit (.bool true)], args := [d1, d2, d3] }
  | _ => none }
def sextetBackRow : OpenClaim := { program := "ytleejmiacmnpfaa", sum := "1261447a56e9b23943536dbfe988f27b153b989f5ba8a34910c38670b09f0c21", func := "pestle/pestlelaw15.SextetBack", spec := "sextetBack", inPlace := ["internal/abi.NoEscape", "internal/bytealg.MakeNoZero"], apart := false }
def SextetBackSaid : Prop := sextetBackRow.holds Try.pinned (OpenSpec.ofChange sextetBackSpec)

/-- ITS FALSE NEIGHBOUR: 'it returns false'. Refute it at one input. -/
def sextetBackWrong : ChangeSpec := { name := "sextetBack", fn := fun _ => fun
  | [d1, d2, d3] => { results := [.lit (.bool false)], args := [d1, d2, d3] }
  | _ => none }
def SextetBackWrongFalsely : Prop := sextetBackRow.holds Try.pinned (OpenSpec.ofChange sextetBackWrong)

/- THE SECOND FORM. 'bulk': how many values and letters a reading holds, each counted each time it is reached (what is shared counts as often as it is met; a slice's spare places count too). A statement '..UptoSaid' is the law's where the arguments, and the package variables that the reading takes, are together of bulk at most 1048576: NARROWER than '..Said'. Prove '..Said' where nothing that the law and all that it calls make is longer than what came in: it says more and counts as full. Else prove '..UptoSaid'. A law counts once. -/
mutual
def uptoBulk {H : Type} : DataW H → Nat
  | .lit (.string bytes) => bytes.length + 1
  | .lit _ => 1
  | .nil => 1
  | .ptr d => uptoBulk d + 1
  | .slice elems spare => uptoBulkAll elems + uptoBulkAll spare + 1
  | .agg parts => uptoBulkAll parts + 1
  | .iface _ d => uptoBulk d + 1
  | .map entries => uptoBulkEntries entries + 1
  | .held _ => 1
def uptoBulkAll {H : Type} : List (DataW H) → Nat
  | [] => 0
  | d :: r => uptoBulk d + uptoBulkAll r
def uptoBulkEntries {H : Type} : List (Lit × DataW H) → Nat
  | [] => 0
  | x :: r => uptoBulkEntry x + uptoBulkEntries r
def uptoBulkEntry {H : Type} : Lit × DataW H → Nat
  | (.string bytes, d) => bytes.length + uptoBulk d + 1
  | (_, d) => uptoBulk d + 1
 end
def uptoSmall : (H : Type) → List (DataW H) → Bool := fun _ ds => decide (uptoBulkAll ds ≤ 1048576)
def OpenSpec.upto (s : _root_.Go.ChangeSpec) : _root_.Go.OpenSpec := { _root_.Go.OpenSpec.ofChange s with cond := some uptoSmall }

/-- 'pestlelaw15.SextetCodes', WHERE WHAT IT READS IS OF BULK AT MOST 1048576: true; the input reads as it did. -/
def sextetCodesUptoRow : OpenClaim := { program := "ytleejmiacmnpfaa", sum := "1261447a56e9b23943536dbfe988f27b153b989f5ba8a34910c38670b09f0c21", func := "pestle/pestlelaw15.SextetCodes", spec := "sextetCodes", inPlace := ["internal/abi.NoEscape", "internal/bytealg.MakeNoZero"], apart := false, narrowed := true }
def SextetCodesUptoSaid : Prop := sextetCodesUptoRow.holds Try.pinned (OpenSpec.upto sextetCodesSpec)

/-- 'pestlelaw15.SextetLetters', WHERE WHAT IT READS IS OF BULK AT MOST 1048576: true; the input reads as it did. -/
def sextetLettersUptoRow : OpenClaim := { program := "ytleejmiacmnpfaa", sum := "1261447a56e9b23943536dbfe988f27b153b989f5ba8a34910c38670b09f0c21", func := "pestle/pestlelaw15.SextetLetters", spec := "sextetLetters", inPlace := ["internal/abi.NoEscape", "internal/bytealg.MakeNoZero"], apart := false, narrowed := true }
def SextetLettersUptoSaid : Prop := sextetLettersUptoRow.holds Try.pinned (OpenSpec.upto sextetLettersSpec)

/-- 'pestlelaw15.SextetBack', WHERE WHAT IT READS IS OF BULK AT MOST 1048576: true; the input reads as it did. -/
def sextetBackUptoRow : OpenClaim := { program := "ytleejmiacmnpfaa", sum := "1261447a56e9b23943536dbfe988f27b153b989f5ba8a34910c38670b09f0c21", func := "pestle/pestlelaw15.SextetBack", spec := "sextetBack", inPlace := ["internal/abi.NoEscape", "internal/bytealg.MakeNoZero"], apart := false, narrowed := true }
def SextetBackUptoSaid : Prop := sextetBackUptoRow.holds Try.pinned (OpenSpec.upto sextetBackSpec)

end Rows
end Go.Proofs.Ytleejmiacmnpfaa
