/-
  NARROWER THAN 'FOR EVERY INPUT', by the rows' own cells (each row's printed sentence says how): SalsaQuarters: laid · SalsaCores: laid · SalsaBytes: laid.
  DERIVED. THE GIVEN ROWS OF THIS SEAT. 3 by the template 'for every input the law returns true; each argument reads behind the call as it read before'; 0 by the template 'total and deterministic' (their statements: YtnmhcmjpcamoeaaDoorTotals.lean).
  GIVEN WITH THE SEED: the statements are not yours to turn. If you find one false, say at which input.
  Laid BY PROGRAM, IN A SANDBOX (cutbox-rows.mjs): the forced cells as the released guide's own fill.sh prints them over the translation 85e09964c9f766b8… (all of the seat's roots in one cut). By AI agents, Wed Nov 11 2026. No macro, syntax, notation, axiom, sorry.
-/
import Derived.Test.YtnmhcmjpcamoeaaDoorChecked
import GoSem.Claim
import GoSem.ClaimJoined
import GoSem.ClaimMapViews
import Derived.JoinedTies
import Derived.KernelRfl
namespace Go.Proofs.YtnmhcmjpcamoeaaDoor
/- THE CELL 'sum', in the pinned program and in every row, IS THE sha256 OF THE DUMP (.gsa) THAT YtnmhcmjpcamoeaaDoorProg.lean LOADS. Nothing in Lean hashes anything: it is a label: what it is worth is what the hold of that sum in a sandbox is worth. -/
noncomputable def Tryd.pinned : Pinned := { name := "ytnmhcmjpcamoeaadoor", sum := "85e09964c9f766b87f360e86b450a150d730d053a84ff1122c6296e8a3864d72", checked := Tryd.checked }
namespace Rows
def none {H : Type} : Left H := { results := [], args := [] }

/- WHAT THE LISTED PACKAGE-LEVEL VARIABLES READ AS WHEN THE CALL BEGINS. Each datum BY PROGRAM (the guide's laid-datum.mjs) off the statement by which the dump's own 'gosem.cut.vars' lays the variable. In a bare row this is a premise. The card (YtnmhcmjpcamoeaaDoorCards.lean) ties it to the program's text. -/
def laid_pestle_salsa_quarters {H : Type} : DataW H := .agg [.agg [.lit (.int .i64 0), .lit (.int .i64 4), .lit (.int .i64 8), .lit (.int .i64 12)], .agg [.lit (.int .i64 5), .lit (.int .i64 9), .lit (.int .i64 13), .lit (.int .i64 1)], .agg [.lit (.int .i64 10), .lit (.int .i64 14), .lit (.int .i64 2), .lit (.int .i64 6)], .agg [.lit (.int .i64 15), .lit (.int .i64 3), .lit (.int .i64 7), .lit (.int .i64 11)], .agg [.lit (.int .i64 0), .lit (.int .i64 1), .lit (.int .i64 2), .lit (.int .i64 3)], .agg [.lit (.int .i64 5), .lit (.int .i64 6), .lit (.int .i64 7), .lit (.int .i64 4)], .agg [.lit (.int .i64 10), .lit (.int .i64 11), .lit (.int .i64 8), .lit (.int .i64 9)], .agg [.lit (.int .i64 15), .lit (.int .i64 12), .lit (.int .i64 13), .lit (.int .i64 14)]]

/-- 'pestlelaw12.SalsaQuarters': WHATEVER THE INPUT: true; the input reads as it did. -/
def salsaQuartersSpec : ChangeSpec := { name := "salsaQuarters", fn := fun _ => fun
  | [d] => { results := [.lit (.bool true)], args := [d] }
  | _ => none }
def salsaQuartersRow : OpenClaim := { program := "ytnmhcmjpcamoeaadoor", sum := "85e09964c9f766b87f360e86b450a150d730d053a84ff1122c6296e8a3864d72", func := "pestle/pestlelaw12.SalsaQuarters", spec := "salsaQuarters", named := ["pestle/salsa.quarters"], apart := false, laid := [("pestle/salsa.quarters", laid_pestle_salsa_quarters)] }
def SalsaQuartersSaid : Prop := salsaQuartersRow.holds Tryd.pinned (OpenSpec.ofChange salsaQuartersSpec)

/-- ITS FALSE NEIGHBOUR: 'it returns false'. Refute it at one input. -/
def salsaQuartersWrong : ChangeSpec := { name := "salsaQuarters", fn := fun _ => fun
  | [d] => { results := [.lit (.bool false)], args := [d] }
  | _ => none }
def SalsaQuartersWrongFalsely : Prop := salsaQuartersRow.holds Tryd.pinned (OpenSpec.ofChange salsaQuartersWrong)

/-- 'pestlelaw12.SalsaCores': WHATEVER THE INPUT: true; the input reads as it did. -/
def salsaCoresSpec : ChangeSpec := { name := "salsaCores", fn := fun _ => fun
  | [d1, d2] => { results := [.lit (.bool true)], args := [d1, d2] }
  | _ => none }
def salsaCoresRow : OpenClaim := { program := "ytnmhcmjpcamoeaadoor", sum := "85e09964c9f766b87f360e86b450a150d730d053a84ff1122c6296e8a3864d72", func := "pestle/pestlelaw12.SalsaCores", spec := "salsaCores", named := ["pestle/salsa.quarters"], apart := false, laid := [("pestle/salsa.quarters", laid_pestle_salsa_quarters)] }
def SalsaCoresSaid : Prop := salsaCoresRow.holds Tryd.pinned (OpenSpec.ofChange salsaCoresSpec)

/-- ITS FALSE NEIGHBOUR: 'it returns false'. Refute it at one input. -/
def salsaCoresWrong : ChangeSpec := { name := "salsaCores", fn := fun _ => fun
  | [d1, d2] => { results := [.lit (.bool false)], args := [d1, d2] }
  | _ => none }
def SalsaCoresWrongFalsely : Prop := salsaCoresRow.holds Tryd.pinned (OpenSpec.ofChange salsaCoresWrong)

/-- 'pestlelaw12.SalsaBytes': WHATEVER THE INPUT: true; the input reads as it did. -/
def salsaBytesSpec : ChangeSpec := { name := "salsaBytes", fn := fun _ => fun
  | [d] => { results := [.lit (.bool true)], args := [d] }
  | _ => none }
def salsaBytesRow : OpenClaim := { program := "ytnmhcmjpcamoeaadoor", sum := "85e09964c9f766b87f360e86b450a150d730d053a84ff1122c6296e8a3864d72", func := "pestle/pestlelaw12.SalsaBytes", spec := "salsaBytes", unfollowed := true, recurses := true, named := ["pestle/salsa.quarters"], apart := false, laid := [("pestle/salsa.quarters", laid_pestle_salsa_quarters)] }
def SalsaBytesSaid : Prop := salsaBytesRow.holds Tryd.pinned (OpenSpec.ofChange salsaBytesSpec)

/-- ITS FALSE NEIGHBOUR: 'it returns false'. Refute it at one input. -/
def salsaBytesWrong : ChangeSpec := { name := "salsaBytes", fn := fun _ => fun
  | [d] => { results := [.lit (.bool false)], args := [d] }
  | _ => none }
def SalsaBytesWrongFalsely : Prop := salsaBytesRow.holds Tryd.pinned (OpenSpec.ofChange salsaBytesWrong)

/- THE SECOND FORM. 'bulk': how many values and letters a reading holds, each counted each time it is reached (what is shared counts as often as it is met; a slice's spare places count too). A statement '..UptoSaid' is the law's where the arguments, and the package variables that the reading takes, are together of bulk at most 1048576: NARROWER than '..Said'. Prove '..Said' where nothing that the law and all that it calls make is longer than what came in: it says more and counts as full. Else prove '..UptoSaid'. A law counts once. -/
mutual
def uptoBulk {H : Type} : DataW H → Nat
  | .lit (.string bytes) => bytes.length + 1
  | .lit _ => 1
  | .nil => 1
  | .ptr d => uptoBulk d + 1
  | .slice elems spare => uptoBulkAll elems + uptoBulkAll spare + 1
  | .agg parts => uptoBulkAll parts + 1
  | .iface _ d => uptoBulk d + 1
  | .map entries => uptoBulkEntries entries + 1
  | .held _ => 1
def uptoBulkAll {H : Type} : List (DataW H) → Nat
  | [] => 0
  | d :: r => uptoBulk d + uptoBulkAll r
def uptoBulkEntries {H : Type} : List (Lit × DataW H) → Nat
  | [] => 0
  | x :: r => uptoBulkEntry x + uptoBulkEntries r
def uptoBulkEntry {H : Type} : Lit × DataW H → Nat
  | (.string bytes, d) => bytes.length + uptoBulk d + 1
  | (_, d) => uptoBulk d + 1
 end
def uptoSmall : (H : Type) → List (DataW H) → Bool := fun _ ds => decide (uptoBulkAll ds ≤ 1048576)
def OpenSpec.upto (s : _root_.Go.ChangeSpec) : _root_.Go.OpenSpec := { _root_.Go.OpenSpec.ofChange s with cond := some uptoSmall }

/-- 'pestlelaw12.SalsaQuarters', WHERE WHAT IT READS IS OF BULK AT MOST 1048576: true; the input reads as it did. -/
def salsaQuartersUptoRow : OpenClaim := { program := "ytnmhcmjpcamoeaadoor", sum := "85e09964c9f766b87f360e86b450a150d730d053a84ff1122c6296e8a3864d72", func := "pestle/pestlelaw12.SalsaQuarters", spec := "salsaQuarters", named := ["pestle/salsa.quarters"], apart := false, laid := [("pestle/salsa.quarters", laid_pestle_salsa_quarters)], narrowed := true }
def SalsaQuartersUptoSaid : Prop := salsaQuartersUptoRow.holds Tryd.pinned (OpenSpec.upto salsaQuartersSpec)

/-- 'pestlelaw12.SalsaCores', WHERE WHAT IT READS IS OF BULK AT MOST 1048576: true; the input reads as it did. -/
def salsaCoresUptoRow : OpenClaim := { program := "ytnmhcmjpcamoeaadoor", sum := "85e09964c9f766b87f360e86b450a150d730d053a84ff1122c6296e8a3864d72", func := "pestle/pestlelaw12.SalsaCores", spec := "salsaCores", named := ["pestle/salsa.quarters"], apart := false, laid := [("pestle/salsa.quarters", laid_pestle_salsa_quarters)], narrowed := true }
def SalsaCoresUptoSaid : Prop := salsaCoresUptoRow.holds Tryd.pinned (OpenSpec.upto salsaCoresSpec)

/-- 'pestlelaw12.SalsaBytes', WHERE WHAT IT READS IS OF BULK AT MOST 1048576: true; the input reads as it did. -/
def salsaBytesUptoRow : OpenClaim := { program := "ytnmhcmjpcamoeaadoor", sum := "85e09964c9f766b87f360e86b450a150d730d053a84ff1122c6296e8a3864d72", func := "pestle/pestlelaw12.SalsaBytes", spec := "salsaBytes", unfollowed := true, recurses := true, named := ["pestle/salsa.quarters"], apart := false, laid := [("pestle/salsa.quarters", laid_pestle_salsa_quarters)], narrowed := true }
def SalsaBytesUptoSaid : Prop := salsaBytesUptoRow.holds Tryd.pinned (OpenSpec.upto salsaBytesSpec)

end Rows
end Go.Proofs.YtnmhcmjpcamoeaaDoor
