/-
  No cell of these rows narrows 'for every input' (looked for: loops, veiled, ifaces, maps, wideKeys, modest, calm, conditions, laid).
  DERIVED. THE GIVEN ROWS OF THIS SEAT. 3 by the template 'for every input the law returns true; each argument reads behind the call as it read before'; 0 by the template 'total and deterministic' (their statements: YticmienihfokjaaTotals.lean).
  GIVEN WITH THE SEED: the statements are not yours to turn. If you find one false, say at which input.
  Laid BY PROGRAM, IN A SANDBOX (cutbox-rows.mjs): the forced cells as the released guide's own fill.sh prints them over the translation fc7a7c2da1101dfe… (all of the seat's roots in one cut). By AI agents, Wed Nov 11 2026. No macro, syntax, notation, axiom, sorry.
-/
import Derived.Test.YticmienihfokjaaChecked
import GoSem.Claim
import GoSem.ClaimJoined
import GoSem.ClaimMapViews
import Derived.JoinedTies
import Derived.KernelRfl
namespace Go.Proofs.Yticmienihfokjaa
/- THE CELL 'sum', in the pinned program and in every row, IS THE sha256 OF THE DUMP (.gsa) THAT YticmienihfokjaaProg.lean LOADS. Nothing in Lean hashes anything: it is a label: what it is worth is what the hold of that sum in a sandbox is worth. -/
noncomputable def Try.pinned : Pinned := { name := "yticmienihfokjaa", sum := "fc7a7c2da1101dfe17a9d7e202a1deca9c76d0d30b6b7aeaf5408fe81e530ae6", checked := Try.checked }
namespace Rows
def none {H : Type} : Left H := { results := [], args := [] }

/-- 'pestlelaw14.HexesReads': WHATEVER THE INPUT: true; the input reads as it did. -/
def hexesReadsSpec : ChangeSpec := { name := "hexesReads", fn := fun _ => fun
  | [d] => { results := [.lit (.bool true)], args := [d] }
  | _ => none }
def hexesReadsRow : OpenClaim := { program := "yticmienihfokjaa", sum := "fc7a7c2da1101dfe17a9d7e202a1deca9c76d0d30b6b7aeaf5408fe81e530ae6", func := "pestle/pestlelaw14.HexesReads", spec := "hexesReads", inPlace := ["internal/abi.NoEscape", "internal/bytealg.MakeNoZero"], apart := false }
def HexesReadsSaid : Prop := hexesReadsRow.holds Try.pinned (OpenSpec.ofChange hexesReadsSpec)

/-- ITS FALSE NEIGHBOUR: 'it returns false'. Refute it at one input. -/
def hexesReadsWrong : ChangeSpec := { name := "hexesReads", fn := fun _ => fun
  | [d] => { results := [.lit (.bool false)], args := [d] }
  | _ => none }
def HexesReadsWrongFalsely : Prop := hexesReadsRow.holds Try.pinned (OpenSpec.ofChange hexesReadsWrong)

/-- 'pestlelaw14.HexesWrites': WHATEVER THE INPUT: true; the input reads as it did. -/
def hexesWritesSpec : ChangeSpec := { name := "hexesWrites", fn := fun _ => fun
  | [d1, d2] => { results := [.lit (.bool true)], args := [d1, d2] }
  | _ => none }
def hexesWritesRow : OpenClaim := { program := "yticmienihfokjaa", sum := "fc7a7c2da1101dfe17a9d7e202a1deca9c76d0d30b6b7aeaf5408fe81e530ae6", func := "pestle/pestlelaw14.HexesWrites", spec := "hexesWrites", inPlace := ["internal/abi.NoEscape", "internal/bytealg.MakeNoZero"], apart := false }
def HexesWritesSaid : Prop := hexesWritesRow.holds Try.pinned (OpenSpec.ofChange hexesWritesSpec)

/-- ITS FALSE NEIGHBOUR: 'it returns false'. Refute it at one input. -/
def hexesWritesWrong : ChangeSpec := { name := "hexesWrites", fn := fun _ => fun
  | [d1, d2] => { results := [.lit (.bool false)], args := [d1, d2] }
  | _ => none }
def HexesWritesWrongFalsely : Prop := hexesWritesRow.holds Try.pinned (OpenSpec.ofChange hexesWritesWrong)

/-- 'pestlelaw14.HexesBack': WHATEVER THE INPUT: true; the input reads as it did. -/
def hexesBackSpec : ChangeSpec := { name := "hexesBack", fn := fun _ => fun
  | [d1, d2] => { results := [.lit (.bool true)], args := [d1, d2] }
  | _ => none }
def hexesBackRow : OpenClaim := { program := "yticmienihfokjaa", sum := "fc7a7c2da1101dfe17a9d7e202a1deca9c76d0d30b6b7aeaf5408fe81e530ae6", func := "pestle/pestlelaw14.HexesBack", spec := "hexesBack", inPlace := ["internal/abi.NoEscape", "internal/bytealg.MakeNoZero"], apart := false }
def HexesBackSaid : Prop := hexesBackRow.holds Try.pinned (OpenSpec.ofChange hexesBackSpec)

/-- ITS FALSE NEIGHBOUR: 'it returns false'. Refute it at one input. -/
def hexesBackWrong : ChangeSpec := { name := "hexesBack", fn := fun _ => fun
  | [d1, d2] => { results := [.lit (.bool false)], args := [d1, d2] }
  | _ => none }
def HexesBackWrongFalsely : Prop := hexesBackRow.holds Try.pinned (OpenSpec.ofChange hexesBackWrong)

/- THE SECOND FORM. 'bulk': how many values and letters a reading holds, each counted each time it is reached (what is shared counts as often as it is met; a slice's spare places count too). A statement '..UptoSaid' is the law's where the arguments, and the package variables that the reading takes, are together of bulk at most 1048576: NARROWER than '..Said'. Prove '..Said' where nothing that the law and all that it calls make is longer than what came in: it says more and counts as full. Else prove '..UptoSaid'. A law counts once. -/
mutual
def uptoBulk {H : Type} : DataW H → Nat
  | .lit (.string bytes) => bytes.length + 1
  | .lit _ => 1
  | .nil => 1
  | .ptr d => uptoBulk d + 1
  | .slice elems spare => uptoBulkAll elems + uptoBulkAll spare + 1
  | .agg parts => uptoBulkAll parts + 1
  | .iface _ d => uptoBulk d + 1
  | .map entries => uptoBulkEntries entries + 1
  | .held _ => 1
def uptoBulkAll {H : Type} : List (DataW H) → Nat
  | [] => 0
  | d :: r => uptoBulk d + uptoBulkAll r
def uptoBulkEntries {H : Type} : List (Lit × DataW H) → Nat
  | [] => 0
  | x :: r => uptoBulkEntry x + uptoBulkEntries r
def uptoBulkEntry {H : Type} : Lit × DataW H → Nat
  | (.string bytes, d) => bytes.length + uptoBulk d + 1
  | (_, d) => uptoBulk d + 1
 end
def uptoSmall : (H : Type) → List (DataW H) → Bool := fun _ ds => decide (uptoBulkAll ds ≤ 1048576)
def OpenSpec.upto (s : _root_.Go.ChangeSpec) : _root_.Go.OpenSpec := { _root_.Go.OpenSpec.ofChange s with cond := some uptoSmall }

/-- 'pestlelaw14.HexesReads', WHERE WHAT IT READS IS OF BULK AT MOST 1048576: true; the input reads as it did. -/
def hexesReadsUptoRow : OpenClaim := { program := "yticmienihfokjaa", sum := "fc7a7c2da1101dfe17a9d7e202a1deca9c76d0d30b6b7aeaf5408fe81e530ae6", func := "pestle/pestlelaw14.HexesReads", spec := "hexesReads", inPlace := ["internal/abi.NoEscape", "internal/bytealg.MakeNoZero"], apart := false, narrowed := true }
def HexesReadsUptoSaid : Prop := hexesReadsUptoRow.holds Try.pinned (OpenSpec.upto hexesReadsSpec)

/-- 'pestlelaw14.HexesWrites', WHERE WHAT IT READS IS OF BULK AT MOST 1048576: true; the input reads as it did. -/
def hexesWritesUptoRow : OpenClaim := { program := "yticmienihfokjaa", sum := "fc7a7c2da1101dfe17a9d7e202a1deca9c76d0d30b6b7aeaf5408fe81e530ae6", func := "pestle/pestlelaw14.HexesWrites", spec := "hexesWrites", inPlace := ["internal/abi.NoEscape", "internal/bytealg.MakeNoZero"], apart := false, narrowed := true }
def HexesWritesUptoSaid : Prop := hexesWritesUptoRow.holds Try.pinned (OpenSpec.upto hexesWritesSpec)

/-- 'pestlelaw14.HexesBack', WHERE WHAT IT READS IS OF BULK AT MOST 1048576: true; the input reads as it did. -/
def hexesBackUptoRow : OpenClaim := { program := "yticmienihfokjaa", sum := "fc7a7c2da1101dfe17a9d7e202a1deca9c76d0d30b6b7aeaf5408fe81e530ae6", func := "pestle/pestlelaw14.HexesBack", spec := "hexesBack", inPlace := ["internal/abi.NoEscape", "internal/bytealg.MakeNoZero"], apart := false, narrowed := true }
def HexesBackUptoSaid : Prop := hexesBackUptoRow.holds Try.pinned (OpenSpec.upto hexesBackSpec)

end Rows
end Go.Proofs.Yticmienihfokjaa
