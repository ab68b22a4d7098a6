/-
  NARROWER THAN 'FOR EVERY INPUT', by the rows' own cells (each row's printed sentence says how): BlakeSums: laid · LongSums: laid · LongSizes: laid.
  DERIVED. THE GIVEN ROWS OF THIS SEAT. 3 by the template 'for every input the law returns true; each argument reads behind the call as it read before'; 0 by the template 'total and deterministic' (their statements: YtljijgihnoloeaaDoorTotals.lean).
  GIVEN WITH THE SEED: the statements are not yours to turn. If you find one false, say at which input.
  Laid BY PROGRAM, IN A SANDBOX (cutbox-rows.mjs): the forced cells as the released guide's own fill.sh prints them over the translation 58e18025ac9ebf83… (all of the seat's roots in one cut). By AI agents, Wed Nov 11 2026. No macro, syntax, notation, axiom, sorry.
-/
import Derived.Test.YtljijgihnoloeaaDoorChecked
import GoSem.Claim
import GoSem.ClaimJoined
import GoSem.ClaimMapViews
import Derived.JoinedTies
import Derived.KernelRfl
namespace Go.Proofs.YtljijgihnoloeaaDoor
/- THE CELL 'sum', in the pinned program and in every row, IS THE sha256 OF THE DUMP (.gsa) THAT YtljijgihnoloeaaDoorProg.lean LOADS. Nothing in Lean hashes anything: it is a label: what it is worth is what the hold of that sum in a sandbox is worth. -/
noncomputable def Tryd.pinned : Pinned := { name := "ytljijgihnoloeaadoor", sum := "58e18025ac9ebf83c49a1742a8eb084c27d5584891d3c00f3c793ab39f7e0a1d", checked := Tryd.checked }
namespace Rows
def none {H : Type} : Left H := { results := [], args := [] }

/- WHAT THE LISTED PACKAGE-LEVEL VARIABLES READ AS WHEN THE CALL BEGINS. Each datum BY PROGRAM (the guide's laid-datum.mjs) off the statement by which the dump's own 'gosem.cut.vars' lays the variable. In a bare row this is a premise. The card (YtljijgihnoloeaaDoorCards.lean) ties it to the program's text. -/
def laid_pestle_blake_quarters {H : Type} : DataW H := .agg [.agg [.lit (.int .i64 0), .lit (.int .i64 4), .lit (.int .i64 8), .lit (.int .i64 12)], .agg [.lit (.int .i64 1), .lit (.int .i64 5), .lit (.int .i64 9), .lit (.int .i64 13)], .agg [.lit (.int .i64 2), .lit (.int .i64 6), .lit (.int .i64 10), .lit (.int .i64 14)], .agg [.lit (.int .i64 3), .lit (.int .i64 7), .lit (.int .i64 11), .lit (.int .i64 15)], .agg [.lit (.int .i64 0), .lit (.int .i64 5), .lit (.int .i64 10), .lit (.int .i64 15)], .agg [.lit (.int .i64 1), .lit (.int .i64 6), .lit (.int .i64 11), .lit (.int .i64 12)], .agg [.lit (.int .i64 2), .lit (.int .i64 7), .lit (.int .i64 8), .lit (.int .i64 13)], .agg [.lit (.int .i64 3), .lit (.int .i64 4), .lit (.int .i64 9), .lit (.int .i64 14)]]

/-- 'pestlelaw07.BlakeSums': WHATEVER THE INPUT: true; the input reads as it did. -/
def blakeSumsSpec : ChangeSpec := { name := "blakeSums", fn := fun _ => fun
  | [d1, d2, d3] => { results := [.lit (.bool true)], args := [d1, d2, d3] }
  | _ => none }
def blakeSumsRow : OpenClaim := { program := "ytljijgihnoloeaadoor", sum := "58e18025ac9ebf83c49a1742a8eb084c27d5584891d3c00f3c793ab39f7e0a1d", func := "pestle/pestlelaw07.BlakeSums", spec := "blakeSums", unfollowed := true, recurses := true, named := ["pestle/blake.quarters"], apart := false, laid := [("pestle/blake.quarters", laid_pestle_blake_quarters)] }
def BlakeSumsSaid : Prop := blakeSumsRow.holds Tryd.pinned (OpenSpec.ofChange blakeSumsSpec)

/-- ITS FALSE NEIGHBOUR: 'it returns false'. Refute it at one input. -/
def blakeSumsWrong : ChangeSpec := { name := "blakeSums", fn := fun _ => fun
  | [d1, d2, d3] => { results := [.lit (.bool false)], args := [d1, d2, d3] }
  | _ => none }
def BlakeSumsWrongFalsely : Prop := blakeSumsRow.holds Tryd.pinned (OpenSpec.ofChange blakeSumsWrong)

/-- 'pestlelaw08.LongSums': WHATEVER THE INPUT: true; the input reads as it did. -/
def longSumsSpec : ChangeSpec := { name := "longSums", fn := fun _ => fun
  | [d1, d2] => { results := [.lit (.bool true)], args := [d1, d2] }
  | _ => none }
def longSumsRow : OpenClaim := { program := "ytljijgihnoloeaadoor", sum := "58e18025ac9ebf83c49a1742a8eb084c27d5584891d3c00f3c793ab39f7e0a1d", func := "pestle/pestlelaw08.LongSums", spec := "longSums", inPlace := ["internal/abi.NoEscape"], unfollowed := true, recurses := true, named := ["pestle/blake.quarters"], apart := false, laid := [("pestle/blake.quarters", laid_pestle_blake_quarters)] }
def LongSumsSaid : Prop := longSumsRow.holds Tryd.pinned (OpenSpec.ofChange longSumsSpec)

/-- ITS FALSE NEIGHBOUR: 'it returns false'. Refute it at one input. -/
def longSumsWrong : ChangeSpec := { name := "longSums", fn := fun _ => fun
  | [d1, d2] => { results := [.lit (.bool false)], args := [d1, d2] }
  | _ => none }
def LongSumsWrongFalsely : Prop := longSumsRow.holds Tryd.pinned (OpenSpec.ofChange longSumsWrong)

/-- 'pestlelaw08.LongSizes': WHATEVER THE INPUT: true; the input reads as it did. -/
def longSizesSpec : ChangeSpec := { name := "longSizes", fn := fun _ => fun
  | [d1, d2] => { results := [.lit (.bool true)], args := [d1, d2] }
  | _ => none }
def longSizesRow : OpenClaim := { program := "ytljijgihnoloeaadoor", sum := "58e18025ac9ebf83c49a1742a8eb084c27d5584891d3c00f3c793ab39f7e0a1d", func := "pestle/pestlelaw08.LongSizes", spec := "longSizes", inPlace := ["internal/abi.NoEscape"], unfollowed := true, recurses := true, named := ["pestle/blake.quarters"], apart := false, laid := [("pestle/blake.quarters", laid_pestle_blake_quarters)] }
def LongSizesSaid : Prop := longSizesRow.holds Tryd.pinned (OpenSpec.ofChange longSizesSpec)

/-- ITS FALSE NEIGHBOUR: 'it returns false'. Refute it at one input. -/
def longSizesWrong : ChangeSpec := { name := "longSizes", fn := fun _ => fun
  | [d1, d2] => { results := [.lit (.bool false)], args := [d1, d2] }
  | _ => none }
def LongSizesWrongFalsely : Prop := longSizesRow.holds Tryd.pinned (OpenSpec.ofChange longSizesWrong)

/- THE SECOND FORM. 'bulk': how many values and letters a reading holds, each counted each time it is reached (what is shared counts as often as it is met; a slice's spare places count too). A statement '..UptoSaid' is the law's where the arguments, and the package variables that the reading takes, are together of bulk at most 1048576: NARROWER than '..Said'. Prove '..Said' where nothing that the law and all that it calls make is longer than what came in: it says more and counts as full. Else prove '..UptoSaid'. A law counts once. -/
mutual
def uptoBulk {H : Type} : DataW H → Nat
  | .lit (.string bytes) => bytes.length + 1
  | .lit _ => 1
  | .nil => 1
  | .ptr d => uptoBulk d + 1
  | .slice elems spare => uptoBulkAll elems + uptoBulkAll spare + 1
  | .agg parts => uptoBulkAll parts + 1
  | .iface _ d => uptoBulk d + 1
  | .map entries => uptoBulkEntries entries + 1
  | .held _ => 1
def uptoBulkAll {H : Type} : List (DataW H) → Nat
  | [] => 0
  | d :: r => uptoBulk d + uptoBulkAll r
def uptoBulkEntries {H : Type} : List (Lit × DataW H) → Nat
  | [] => 0
  | x :: r => uptoBulkEntry x + uptoBulkEntries r
def uptoBulkEntry {H : Type} : Lit × DataW H → Nat
  | (.string bytes, d) => bytes.length + uptoBulk d + 1
  | (_, d) => uptoBulk d + 1
 end
def uptoSmall : (H : Type) → List (DataW H) → Bool := fun _ ds => decide (uptoBulkAll ds ≤ 1048576)
def OpenSpec.upto (s : _root_.Go.ChangeSpec) : _root_.Go.OpenSpec := { _root_.Go.OpenSpec.ofChange s with cond := some uptoSmall }

/-- 'pestlelaw07.BlakeSums', WHERE WHAT IT READS IS OF BULK AT MOST 1048576: true; the input reads as it did. -/
def blakeSumsUptoRow : OpenClaim := { program := "ytljijgihnoloeaadoor", sum := "58e18025ac9ebf83c49a1742a8eb084c27d5584891d3c00f3c793ab39f7e0a1d", func := "pestle/pestlelaw07.BlakeSums", spec := "blakeSums", unfollowed := true, recurses := true, named := ["pestle/blake.quarters"], apart := false, laid := [("pestle/blake.quarters", laid_pestle_blake_quarters)], narrowed := true }
def BlakeSumsUptoSaid : Prop := blakeSumsUptoRow.holds Tryd.pinned (OpenSpec.upto blakeSumsSpec)

/-- 'pestlelaw08.LongSums', WHERE WHAT IT READS IS OF BULK AT MOST 1048576: true; the input reads as it did. -/
def longSumsUptoRow : OpenClaim := { program := "ytljijgihnoloeaadoor", sum := "58e18025ac9ebf83c49a1742a8eb084c27d5584891d3c00f3c793ab39f7e0a1d", func := "pestle/pestlelaw08.LongSums", spec := "longSums", inPlace := ["internal/abi.NoEscape"], unfollowed := true, recurses := true, named := ["pestle/blake.quarters"], apart := false, laid := [("pestle/blake.quarters", laid_pestle_blake_quarters)], narrowed := true }
def LongSumsUptoSaid : Prop := longSumsUptoRow.holds Tryd.pinned (OpenSpec.upto longSumsSpec)

/-- 'pestlelaw08.LongSizes', WHERE WHAT IT READS IS OF BULK AT MOST 1048576: true; the input reads as it did. -/
def longSizesUptoRow : OpenClaim := { program := "ytljijgihnoloeaadoor", sum := "58e18025ac9ebf83c49a1742a8eb084c27d5584891d3c00f3c793ab39f7e0a1d", func := "pestle/pestlelaw08.LongSizes", spec := "longSizes", inPlace := ["internal/abi.NoEscape"], unfollowed := true, recurses := true, named := ["pestle/blake.quarters"], apart := false, laid := [("pestle/blake.quarters", laid_pestle_blake_quarters)], narrowed := true }
def LongSizesUptoSaid : Prop := longSizesUptoRow.holds Tryd.pinned (OpenSpec.upto longSizesSpec)

end Rows
end Go.Proofs.YtljijgihnoloeaaDoor
