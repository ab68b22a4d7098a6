/-
  NARROWER THAN 'FOR EVERY INPUT', by the rows' own cells (each row's printed sentence says how): RomixMixes: laid · RomixRows: laid.
  DERIVED. THE GIVEN ROWS OF THIS SEAT. 2 by the template 'for every input the law returns true; each argument reads behind the call as it read before'; 0 by the template 'total and deterministic' (their statements: YtohmkhmanidljaaDoorTotals.lean).
  GIVEN WITH THE SEED: the statements are not yours to turn. If you find one false, say at which input.
  Laid BY PROGRAM, IN A SANDBOX (cutbox-rows.mjs): the forced cells as the released guide's own fill.sh prints them over the translation 00b2bbccc5a2af96… (all of the seat's roots in one cut). By AI agents, Wed Nov 11 2026. No macro, syntax, notation, axiom, sorry.
-/
import Derived.Test.YtohmkhmanidljaaDoorChecked
import GoSem.Claim
import GoSem.ClaimJoined
import GoSem.ClaimMapViews
import Derived.JoinedTies
import Derived.KernelRfl
namespace Go.Proofs.YtohmkhmanidljaaDoor
/- THE CELL 'sum', in the pinned program and in every row, IS THE sha256 OF THE DUMP (.gsa) THAT YtohmkhmanidljaaDoorProg.lean LOADS. Nothing in Lean hashes anything: it is a label: what it is worth is what the hold of that sum in a sandbox is worth. -/
noncomputable def Tryd.pinned : Pinned := { name := "ytohmkhmanidljaadoor", sum := "00b2bbccc5a2af961149983535c29a259069f09dea26f416f54ea6563ee974f6", checked := Tryd.checked }
namespace Rows
def none {H : Type} : Left H := { results := [], args := [] }

/- WHAT THE LISTED PACKAGE-LEVEL VARIABLES READ AS WHEN THE CALL BEGINS. Each datum BY PROGRAM (the guide's laid-datum.mjs) off the statement by which the dump's own 'gosem.cut.vars' lays the variable. In a bare row this is a premise. The card (YtohmkhmanidljaaDoorCards.lean) ties it to the program's text. -/
def laid_pestle_salsa_quarters {H : Type} : DataW H := .agg [.agg [.lit (.int .i64 0), .lit (.int .i64 4), .lit (.int .i64 8), .lit (.int .i64 12)], .agg [.lit (.int .i64 5), .lit (.int .i64 9), .lit (.int .i64 13), .lit (.int .i64 1)], .agg [.lit (.int .i64 10), .lit (.int .i64 14), .lit (.int .i64 2), .lit (.int .i64 6)], .agg [.lit (.int .i64 15), .lit (.int .i64 3), .lit (.int .i64 7), .lit (.int .i64 11)], .agg [.lit (.int .i64 0), .lit (.int .i64 1), .lit (.int .i64 2), .lit (.int .i64 3)], .agg [.lit (.int .i64 5), .lit (.int .i64 6), .lit (.int .i64 7), .lit (.int .i64 4)], .agg [.lit (.int .i64 10), .lit (.int .i64 11), .lit (.int .i64 8), .lit (.int .i64 9)], .agg [.lit (.int .i64 15), .lit (.int .i64 12), .lit (.int .i64 13), .lit (.int .i64 14)]]

/-- 'pestlelaw24.RomixMixes': WHATEVER THE INPUT: true; the input reads as it did. -/
def romixMixesSpec : ChangeSpec := { name := "romixMixes", fn := fun _ => fun
  | [d1, d2, d3, d4, d5, d6] => { results := [.lit (.bool true)], args := [d1, d2, d3, d4, d5, d6] }
  | _ => none }
def romixMixesRow : OpenClaim := { program := "ytohmkhmanidljaadoor", sum := "00b2bbccc5a2af961149983535c29a259069f09dea26f416f54ea6563ee974f6", func := "pestle/pestlelaw24.RomixMixes", spec := "romixMixes", named := ["pestle/salsa.quarters"], apart := false, laid := [("pestle/salsa.quarters", laid_pestle_salsa_quarters)] }
def RomixMixesSaid : Prop := romixMixesRow.holds Tryd.pinned (OpenSpec.ofChange romixMixesSpec)

/-- ITS FALSE NEIGHBOUR: 'it returns false'. Refute it at one input. -/
def romixMixesWrong : ChangeSpec := { name := "romixMixes", fn := fun _ => fun
  | [d1, d2, d3, d4, d5, d6] => { results := [.lit (.bool false)], args := [d1, d2, d3, d4, d5, d6] }
  | _ => none }
def RomixMixesWrongFalsely : Prop := romixMixesRow.holds Tryd.pinned (OpenSpec.ofChange romixMixesWrong)

/-- 'pestlelaw24.RomixRows': WHATEVER THE INPUT: true; the input reads as it did. -/
def romixRowsSpec : ChangeSpec := { name := "romixRows", fn := fun _ => fun
  | [d1, d2, d3, d4, d5] => { results := [.lit (.bool true)], args := [d1, d2, d3, d4, d5] }
  | _ => none }
def romixRowsRow : OpenClaim := { program := "ytohmkhmanidljaadoor", sum := "00b2bbccc5a2af961149983535c29a259069f09dea26f416f54ea6563ee974f6", func := "pestle/pestlelaw24.RomixRows", spec := "romixRows", named := ["pestle/salsa.quarters"], apart := false, laid := [("pestle/salsa.quarters", laid_pestle_salsa_quarters)] }
def RomixRowsSaid : Prop := romixRowsRow.holds Tryd.pinned (OpenSpec.ofChange romixRowsSpec)

/-- ITS FALSE NEIGHBOUR: 'it returns false'. Refute it at one input. -/
def romixRowsWrong : ChangeSpec := { name := "romixRows", fn := fun _ => fun
  | [d1, d2, d3, d4, d5] => { results := [.lit (.bool false)], args := [d1, d2, d3, d4, d5] }
  | _ => none }
def RomixRowsWrongFalsely : Prop := romixRowsRow.holds Tryd.pinned (OpenSpec.ofChange romixRowsWrong)

/- THE SECOND FORM. 'bulk': how many values and letters a reading holds, each counted each time it is reached (what is shared counts as often as it is met; a slice's spare places count too). A statement '..UptoSaid' is the law's where the arguments, and the package variables that the reading takes, are together of bulk at most 1048576: NARROWER than '..Said'. Prove '..Said' where nothing that the law and all that it calls make is longer than what came in: it says more and counts as full. Else prove '..UptoSaid'. A law counts once. -/
mutual
def uptoBulk {H : Type} : DataW H → Nat
  | .lit (.string bytes) => bytes.length + 1
  | .lit _ => 1
  | .nil => 1
  | .ptr d => uptoBulk d + 1
  | .slice elems spare => uptoBulkAll elems + uptoBulkAll spare + 1
  | .agg parts => uptoBulkAll parts + 1
  | .iface _ d => uptoBulk d + 1
  | .map entries => uptoBulkEntries entries + 1
  | .held _ => 1
def uptoBulkAll {H : Type} : List (DataW H) → Nat
  | [] => 0
  | d :: r => uptoBulk d + uptoBulkAll r
def uptoBulkEntries {H : Type} : List (Lit × DataW H) → Nat
  | [] => 0
  | x :: r => uptoBulkEntry x + uptoBulkEntries r
def uptoBulkEntry {H : Type} : Lit × DataW H → Nat
  | (.string bytes, d) => bytes.length + uptoBulk d + 1
  | (_, d) => uptoBulk d + 1
 end
def uptoSmall : (H : Type) → List (DataW H) → Bool := fun _ ds => decide (uptoBulkAll ds ≤ 1048576)
def OpenSpec.upto (s : _root_.Go.ChangeSpec) : _root_.Go.OpenSpec := { _root_.Go.OpenSpec.ofChange s with cond := some uptoSmall }

/-- 'pestlelaw24.RomixMixes', WHERE WHAT IT READS IS OF BULK AT MOST 1048576: true; the input reads as it did. -/
def romixMixesUptoRow : OpenClaim := { program := "ytohmkhmanidljaadoor", sum := "00b2bbccc5a2af961149983535c29a259069f09dea26f416f54ea6563ee974f6", func := "pestle/pestlelaw24.RomixMixes", spec := "romixMixes", named := ["pestle/salsa.quarters"], apart := false, laid := [("pestle/salsa.quarters", laid_pestle_salsa_quarters)], narrowed := true }
def RomixMixesUptoSaid : Prop := romixMixesUptoRow.holds Tryd.pinned (OpenSpec.upto romixMixesSpec)

/-- 'pestlelaw24.RomixRows', WHERE WHAT IT READS IS OF BULK AT MOST 1048576: true; the input reads as it did. -/
def romixRowsUptoRow : OpenClaim := { program := "ytohmkhmanidljaadoor", sum := "00b2bbccc5a2af961149983535c29a259069f09dea26f416f54ea6563ee974f6", func := "pestle/pestlelaw24.RomixRows", spec := "romixRows", named := ["pestle/salsa.quarters"], apart := false, laid := [("pestle/salsa.quarters", laid_pestle_salsa_quarters)], narrowed := true }
def RomixRowsUptoSaid : Prop := romixRowsUptoRow.holds Tryd.pinned (OpenSpec.upto romixRowsSpec)

end Rows
end Go.Proofs.YtohmkhmanidljaaDoor
