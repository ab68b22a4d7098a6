/-
  No cell of these rows narrows 'for every input' (looked for: loops, veiled, ifaces, maps, wideKeys, modest, calm, conditions, laid).
  DERIVED. THE GIVEN ROWS OF THIS SEAT. 2 by the template 'for every input the law returns true; each argument reads behind the call as it read before'; 0 by the template 'total and deterministic' (their statements: YtjknpbaegnkdnaaTotals.lean).
  GIVEN WITH THE SEED: the statements are not yours to turn. If you find one false, say at which input.
  Laid BY PROGRAM, IN A SANDBOX (cutbox-rows.mjs): the forced cells as the released guide's own fill.sh prints them over the translation 5c7d271717b4c0bf… (all of the seat's roots in one cut). By AI agents, Wed Nov 11 2026. No macro, syntax, notation, axiom, sorry.
-/
import Derived.Test.YtjknpbaegnkdnaaChecked
import GoSem.Claim
import GoSem.ClaimJoined
import GoSem.ClaimMapViews
import Derived.JoinedTies
import Derived.KernelRfl
namespace Go.Proofs.Ytjknpbaegnkdnaa
/- THE CELL 'sum', in the pinned program and in every row, IS THE sha256 OF THE DUMP (.gsa) THAT YtjknpbaegnkdnaaProg.lean LOADS. Nothing in Lean hashes anything: it is a label: what it is worth is what the hold of that sum in a sandbox is worth. -/
noncomputable def Try.pinned : Pinned := { name := "ytjknpbaegnkdnaa", sum := "5c7d271717b4c0bf6da3bd1e4f19cd670fe59c5771a8020d47ab4e4bda269563", checked := Try.checked }
namespace Rows
def none {H : Type} : Left H := { results := [], args := [] }

/-- 'pestlelaw17.Crypt64Codes': WHATEVER THE INPUT: true; the input reads as it did. -/
def crypt64CodesSpec : ChangeSpec := { name := "crypt64Codes", fn := fun _ => fun
  | [d1, d2, d3] => { results := [.lit (.bool true)], args := [d1, d2, d3] }
  | _ => none }
def crypt64CodesRow : OpenClaim := { program := "ytjknpbaegnkdnaa", sum := "5c7d271717b4c0bf6da3bd1e4f19cd670fe59c5771a8020d47ab4e4bda269563", func := "pestle/pestlelaw17.Crypt64Codes", spec := "crypt64Codes", inPlace := ["internal/abi.NoEscape", "internal/bytealg.MakeNoZero"], apart := false }
def Crypt64CodesSaid : Prop := crypt64CodesRow.holds Try.pinned (OpenSpec.ofChange crypt64CodesSpec)

/-- ITS FALSE NEIGHBOUR: 'it returns false'. Refute it at one input. -/
def crypt64CodesWrong : ChangeSpec := { name := "crypt64Codes", fn := fun _ => fun
  | [d1, d2, d3] => { results := [.lit (.bool false)], args := [d1, d2, d3] }
  | _ => none }
def Crypt64CodesWrongFalsely : Prop := crypt64CodesRow.holds Try.pinned (OpenSpec.ofChange crypt64CodesWrong)

/-- 'pestlelaw17.Crypt64Back': WHATEVER THE INPUT: true; the input reads as it did. -/
def crypt64BackSpec : ChangeSpec := { name := "crypt64Back", fn := fun _ => fun
  | [d1, d2, d3] => { results := [.lit (.bool true)], args := [d1, d2, d3] }
  | _ => none }
def crypt64BackRow : OpenClaim := { program := "ytjknpbaegnkdnaa", sum := "5c7d271717b4c0bf6da3bd1e4f19cd670fe59c5771a8020d47ab4e4bda269563", func := "pestle/pestlelaw17.Crypt64Back", spec := "crypt64Back", inPlace := ["internal/abi.NoEscape", "internal/bytealg.MakeNoZero"], apart := false }
def Crypt64BackSaid : Prop := crypt64BackRow.holds Try.pinned (OpenSpec.ofChange crypt64BackSpec)

/-- ITS FALSE NEIGHBOUR: 'it returns false'. Refute it at one input. -/
def crypt64BackWrong : ChangeSpec := { name := "crypt64Back", fn := fun _ => fun
  | [d1, d2, d3] => { results := [.lit (.bool false)], args := [d1, d2, d3] }
  | _ => none }
def Crypt64BackWrongFalsely : Prop := crypt64BackRow.holds Try.pinned (OpenSpec.ofChange crypt64BackWrong)

/- THE SECOND FORM. 'bulk': how many values and letters a reading holds, each counted each time it is reached (what is shared counts as often as it is met; a slice's spare places count too). A statement '..UptoSaid' is the law's where the arguments, and the package variables that the reading takes, are together of bulk at most 1048576: NARROWER than '..Said'. Prove '..Said' where nothing that the law and all that it calls make is longer than what came in: it says more and counts as full. Else prove '..UptoSaid'. A law counts once. -/
mutual
def uptoBulk {H : Type} : DataW H → Nat
  | .lit (.string bytes) => bytes.length + 1
  | .lit _ => 1
  | .nil => 1
  | .ptr d => uptoBulk d + 1
  | .slice elems spare => uptoBulkAll elems + uptoBulkAll spare + 1
  | .agg parts => uptoBulkAll parts + 1
  | .iface _ d => uptoBulk d + 1
  | .map entries => uptoBulkEntries entries + 1
  | .held _ => 1
def uptoBulkAll {H : Type} : List (DataW H) → Nat
  | [] => 0
  | d :: r => uptoBulk d + uptoBulkAll r
def uptoBulkEntries {H : Type} : List (Lit × DataW H) → Nat
  | [] => 0
  | x :: r => uptoBulkEntry x + uptoBulkEntries r
def uptoBulkEntry {H : Type} : Lit × DataW H → Nat
  | (.string bytes, d) => bytes.length + uptoBulk d + 1
  | (_, d) => uptoBulk d + 1
 end
def uptoSmall : (H : Type) → List (DataW H) → Bool := fun _ ds => decide (uptoBulkAll ds ≤ 1048576)
def OpenSpec.upto (s : _root_.Go.ChangeSpec) : _root_.Go.OpenSpec := { _root_.Go.OpenSpec.ofChange s with cond := some uptoSmall }

/-- 'pestlelaw17.Crypt64Codes', WHERE WHAT IT READS IS OF BULK AT MOST 1048576: true; the input reads as it did. -/
def crypt64CodesUptoRow : OpenClaim := { program := "ytjknpbaegnkdnaa", sum := "5c7d271717b4c0bf6da3bd1e4f19cd670fe59c5771a8020d47ab4e4bda269563", func := "pestle/pestlelaw17.Crypt64Codes", spec := "crypt64Codes", inPlace := ["internal/abi.NoEscape", "internal/bytealg.MakeNoZero"], apart := false, narrowed := true }
def Crypt64CodesUptoSaid : Prop := crypt64CodesUptoRow.holds Try.pinned (OpenSpec.upto crypt64CodesSpec)

/-- 'pestlelaw17.Crypt64Back', WHERE WHAT IT READS IS OF BULK AT MOST 1048576: true; the input reads as it did. -/
def crypt64BackUptoRow : OpenClaim := { program := "ytjknpbaegnkdnaa", sum := "5c7d271717b4c0bf6da3bd1e4f19cd670fe59c5771a8020d47ab4e4bda269563", func := "pestle/pestlelaw17.Crypt64Back", spec := "crypt64Back", inPlace := ["internal/abi.NoEscape", "internal/bytealg.MakeNoZero"], apart := false, narrowed := true }
def Crypt64BackUptoSaid : Prop := crypt64BackUptoRow.holds Try.pinned (OpenSpec.upto crypt64BackSpec)

end Rows
end Go.Proofs.Ytjknpbaegnkdnaa
