/-
  No cell of these rows narrows 'for every input' (looked for: loops, veiled, ifaces, maps, wideKeys, modest, calm, conditions, laid).
  DERIVED. THE GIVEN ROWS OF THIS SEAT. 4 by the template 'for every input the law returns true; each argument reads behind the call as it read before'; 0 by the template 'total and deterministic' (their statements: YtkmaghjdnknjjaaTotals.lean).
  GIVEN WITH THE SEED: the statements are not yours to turn. If you find one false, say at which input.
  Laid BY PROGRAM, IN A SANDBOX (cutbox-rows.mjs): the forced cells as the released guide's own fill.sh prints them over the translation b19c4b5befc959b7… (all of the seat's roots in one cut). By AI agents, Wed Nov 11 2026. No macro, syntax, notation, axiom, sorry.
-/
import Derived.Test.YtkmaghjdnknjjaaChecked
import GoSem.Claim
import GoSem.ClaimJoined
import GoSem.ClaimMapViews
import Derived.JoinedTies
import Derived.KernelRfl
namespace Go.Proofs.Ytkmaghjdnknjjaa
/- THE CELL 'sum', in the pinned program and in every row, IS THE sha256 OF THE DUMP (.gsa) THAT YtkmaghjdnknjjaaProg.lean LOADS. Nothing in Lean hashes anything: it is a label: what it is worth is what the hold of that sum in a sandbox is worth. -/
noncomputable def Try.pinned : Pinned := { name := "ytkmaghjdnknjjaa", sum := "b19c4b5befc959b7c3fd0575c4c99eaf38710a1e395688a062db553e57076a3b", checked := Try.checked }
namespace Rows
def none {H : Type} : Left H := { results := [], args := [] }

/-- 'pestlelaw18.DecCodes': WHATEVER THE INPUT: true; the input reads as it did. -/
def decCodesSpec : ChangeSpec := { name := "decCodes", fn := fun _ => fun
  | [d1, d2] => { results := [.lit (.bool true)], args := [d1, d2] }
  | _ => none }
def decCodesRow : OpenClaim := { program := "ytkmaghjdnknjjaa", sum := "b19c4b5befc959b7c3fd0575c4c99eaf38710a1e395688a062db553e57076a3b", func := "pestle/pestlelaw18.DecCodes", spec := "decCodes", recurses := true, apart := false }
def DecCodesSaid : Prop := decCodesRow.holds Try.pinned (OpenSpec.ofChange decCodesSpec)

/-- ITS FALSE NEIGHBOUR: 'it returns false'. Refute it at one input. -/
def decCodesWrong : ChangeSpec := { name := "decCodes", fn := fun _ => fun
  | [d1, d2] => { results := [.lit (.bool false)], args := [d1, d2] }
  | _ => none }
def DecCodesWrongFalsely : Prop := decCodesRow.holds Try.pinned (OpenSpec.ofChange decCodesWrong)

/-- 'pestlelaw18.DecBetween': WHATEVER THE INPUT: true; the input reads as it did. -/
def decBetweenSpec : ChangeSpec := { name := "decBetween", fn := fun _ => fun
  | [d1, d2, d3] => { results := [.lit (.bool true)], args := [d1, d2, d3] }
  | _ => none }
def decBetweenRow : OpenClaim := { program := "ytkmaghjdnknjjaa", sum := "b19c4b5befc959b7c3fd0575c4c99eaf38710a1e395688a062db553e57076a3b", func := "pestle/pestlelaw18.DecBetween", spec := "decBetween", apart := false }
def DecBetweenSaid : Prop := decBetweenRow.holds Try.pinned (OpenSpec.ofChange decBetweenSpec)

/-- ITS FALSE NEIGHBOUR: 'it returns false'. Refute it at one input. -/
def decBetweenWrong : ChangeSpec := { name := "decBetween", fn := fun _ => fun
  | [d1, d2, d3] => { results := [.lit (.bool false)], args := [d1, d2, d3] }
  | _ => none }
def DecBetweenWrongFalsely : Prop := decBetweenRow.holds Try.pinned (OpenSpec.ofChange decBetweenWrong)

/-- 'pestlelaw18.DecTwos': WHATEVER THE INPUT: true; the input reads as it did. -/
def decTwosSpec : ChangeSpec := { name := "decTwos", fn := fun _ => fun
  | [d1, d2, d3] => { results := [.lit (.bool true)], args := [d1, d2, d3] }
  | _ => none }
def decTwosRow : OpenClaim := { program := "ytkmaghjdnknjjaa", sum := "b19c4b5befc959b7c3fd0575c4c99eaf38710a1e395688a062db553e57076a3b", func := "pestle/pestlelaw18.DecTwos", spec := "decTwos", inPlace := ["internal/abi.NoEscape"], recurses := true, apart := false }
def DecTwosSaid : Prop := decTwosRow.holds Try.pinned (OpenSpec.ofChange decTwosSpec)

/-- ITS FALSE NEIGHBOUR: 'it returns false'. Refute it at one input. -/
def decTwosWrong : ChangeSpec := { name := "decTwos", fn := fun _ => fun
  | [d1, d2, d3] => { results := [.lit (.bool false)], args := [d1, d2, d3] }
  | _ => none }
def DecTwosWrongFalsely : Prop := decTwosRow.holds Try.pinned (OpenSpec.ofChange decTwosWrong)

/-- 'pestlelaw18.DecBack': WHATEVER THE INPUT: true; the input reads as it did. -/
def decBackSpec : ChangeSpec := { name := "decBack", fn := fun _ => fun
  | [d1, d2] => { results := [.lit (.bool true)], args := [d1, d2] }
  | _ => none }
def decBackRow : OpenClaim := { program := "ytkmaghjdnknjjaa", sum := "b19c4b5befc959b7c3fd0575c4c99eaf38710a1e395688a062db553e57076a3b", func := "pestle/pestlelaw18.DecBack", spec := "decBack", apart := false }
def DecBackSaid : Prop := decBackRow.holds Try.pinned (OpenSpec.ofChange decBackSpec)

/-- ITS FALSE NEIGHBOUR: 'it returns false'. Refute it at one input. -/
def decBackWrong : ChangeSpec := { name := "decBack", fn := fun _ => fun
  | [d1, d2] => { results := [.lit (.bool false)], args := [d1, d2] }
  | _ => none }
def DecBackWrongFalsely : Prop := decBackRow.holds Try.pinned (OpenSpec.ofChange decBackWrong)

/- THE SECOND FORM. 'bulk': how many values and letters a reading holds, each counted each time it is reached (what is shared counts as often as it is met; a slice's spare places count too). A statement '..UptoSaid' is the law's where the arguments, and the package variables that the reading takes, are together of bulk at most 1048576: NARROWER than '..Said'. Prove '..Said' where nothing that the law and all that it calls make is longer than what came in: it says more and counts as full. Else prove '..UptoSaid'. A law counts once. -/
mutual
def uptoBulk {H : Type} : DataW H → Nat
  | .lit (.string bytes) => bytes.length + 1
  | .lit _ => 1
  | .nil => 1
  | .ptr d => uptoBulk d + 1
  | .slice elems spare => uptoBulkAll elems + uptoBulkAll spare + 1
  | .agg parts => uptoBulkAll parts + 1
  | .iface _ d => uptoBulk d + 1
  | .map entries => uptoBulkEntries entries + 1
  | .held _ => 1
def uptoBulkAll {H : Type} : List (DataW H) → Nat
  | [] => 0
  | d :: r => uptoBulk d + uptoBulkAll r
def uptoBulkEntries {H : Type} : List (Lit × DataW H) → Nat
  | [] => 0
  | x :: r => uptoBulkEntry x + uptoBulkEntries r
def uptoBulkEntry {H : Type} : Lit × DataW H → Nat
  | (.string bytes, d) => bytes.length + uptoBulk d + 1
  | (_, d) => uptoBulk d + 1
 end
def uptoSmall : (H : Type) → List (DataW H) → Bool := fun _ ds => decide (uptoBulkAll ds ≤ 1048576)
def OpenSpec.upto (s : _root_.Go.ChangeSpec) : _root_.Go.OpenSpec := { _root_.Go.OpenSpec.ofChange s with cond := some uptoSmall }

/-- 'pestlelaw18.DecCodes', WHERE WHAT IT READS IS OF BULK AT MOST 1048576: true; the input reads as it did. -/
def decCodesUptoRow : OpenClaim := { program := "ytkmaghjdnknjjaa", sum := "b19c4b5befc959b7c3fd0575c4c99eaf38710a1e395688a062db553e57076a3b", func := "pestle/pestlelaw18.DecCodes", spec := "decCodes", recurses := true, apart := false, narrowed := true }
def DecCodesUptoSaid : Prop := decCodesUptoRow.holds Try.pinned (OpenSpec.upto decCodesSpec)

/-- 'pestlelaw18.DecBetween', WHERE WHAT IT READS IS OF BULK AT MOST 1048576: true; the input reads as it did. -/
def decBetweenUptoRow : OpenClaim := { program := "ytkmaghjdnknjjaa", sum := "b19c4b5befc959b7c3fd0575c4c99eaf38710a1e395688a062db553e57076a3b", func := "pestle/pestlelaw18.DecBetween", spec := "decBetween", apart := false, narrowed := true }
def DecBetweenUptoSaid : Prop := decBetweenUptoRow.holds Try.pinned (OpenSpec.upto decBetweenSpec)

/-- 'pestlelaw18.DecTwos', WHERE WHAT IT READS IS OF BULK AT MOST 1048576: true; the input reads as it did. -/
def decTwosUptoRow : OpenClaim := { program := "ytkmaghjdnknjjaa", sum := "b19c4b5befc959b7c3fd0575c4c99eaf38710a1e395688a062db553e57076a3b", func := "pestle/pestlelaw18.DecTwos", spec := "decTwos", inPlace := ["internal/abi.NoEscape"], recurses := true, apart := false, narrowed := true }
def DecTwosUptoSaid : Prop := decTwosUptoRow.holds Try.pinned (OpenSpec.upto decTwosSpec)

/-- 'pestlelaw18.DecBack', WHERE WHAT IT READS IS OF BULK AT MOST 1048576: true; the input reads as it did. -/
def decBackUptoRow : OpenClaim := { program := "ytkmaghjdnknjjaa", sum := "b19c4b5befc959b7c3fd0575c4c99eaf38710a1e395688a062db553e57076a3b", func := "pestle/pestlelaw18.DecBack", spec := "decBack", apart := false, narrowed := true }
def DecBackUptoSaid : Prop := decBackUptoRow.holds Try.pinned (OpenSpec.upto decBackSpec)

end Rows
end Go.Proofs.Ytkmaghjdnknjjaa
