/-
  NARROWER THAN 'FOR EVERY INPUT', by the rows' own cells (each row's printed sentence says how): BlakeCompresses: laid · BlakeMixes: laid · BlakeSums: laid · BlakeParts: laid.
  DERIVED. THE GIVEN ROWS OF THIS SEAT. 4 by the template 'for every input the law returns true; each argument reads behind the call as it read before'; 0 by the template 'total and deterministic' (their statements: YtfdoikdfhjjohaaDoorTotals.lean).
  GIVEN WITH THE SEED: the statements are not yours to turn. If you find one false, say at which input.
  Laid BY PROGRAM, IN A SANDBOX (cutbox-rows.mjs): the forced cells as the released guide's own fill.sh prints them over the translation 2755d9417439f238… (all of the seat's roots in one cut). By AI agents, Wed Nov 11 2026. No macro, syntax, notation, axiom, sorry.
-/
import Derived.Test.YtfdoikdfhjjohaaDoorChecked
import GoSem.Claim
import GoSem.ClaimJoined
import GoSem.ClaimMapViews
import Derived.JoinedTies
import Derived.KernelRfl
namespace Go.Proofs.YtfdoikdfhjjohaaDoor
/- THE CELL 'sum', in the pinned program and in every row, IS THE sha256 OF THE DUMP (.gsa) THAT YtfdoikdfhjjohaaDoorProg.lean LOADS. Nothing in Lean hashes anything: it is a label: what it is worth is what the hold of that sum in a sandbox is worth. -/
noncomputable def Tryd.pinned : Pinned := { name := "ytfdoikdfhjjohaadoor", sum := "2755d9417439f2389012a424c8bc69a686f9167368c6aab69c3fd332f9abca53", checked := Tryd.checked }
namespace Rows
def none {H : Type} : Left H := { results := [], args := [] }

/- WHAT THE LISTED PACKAGE-LEVEL VARIABLES READ AS WHEN THE CALL BEGINS. Each datum BY PROGRAM (the guide's laid-datum.mjs) off the statement by which the dump's own 'gosem.cut.vars' lays the variable. In a bare row this is a premise. The card (YtfdoikdfhjjohaaDoorCards.lean) ties it to the program's text. -/
def laid_pestle_blake_quarters {H : Type} : DataW H := .agg [.agg [.lit (.int .i64 0), .lit (.int .i64 4), .lit (.int .i64 8), .lit (.int .i64 12)], .agg [.lit (.int .i64 1), .lit (.int .i64 5), .lit (.int .i64 9), .lit (.int .i64 13)], .agg [.lit (.int .i64 2), .lit (.int .i64 6), .lit (.int .i64 10), .lit (.int .i64 14)], .agg [.lit (.int .i64 3), .lit (.int .i64 7), .lit (.int .i64 11), .lit (.int .i64 15)], .agg [.lit (.int .i64 0), .lit (.int .i64 5), .lit (.int .i64 10), .lit (.int .i64 15)], .agg [.lit (.int .i64 1), .lit (.int .i64 6), .lit (.int .i64 11), .lit (.int .i64 12)], .agg [.lit (.int .i64 2), .lit (.int .i64 7), .lit (.int .i64 8), .lit (.int .i64 13)], .agg [.lit (.int .i64 3), .lit (.int .i64 4), .lit (.int .i64 9), .lit (.int .i64 14)]]

/-- 'pestlelaw07.BlakeCompresses': WHATEVER THE INPUT: true; the input reads as it did. -/
def blakeCompressesSpec : ChangeSpec := { name := "blakeCompresses", fn := fun _ => fun
  | [d1, d2, d3, d4] => { results := [.lit (.bool true)], args := [d1, d2, d3, d4] }
  | _ => none }
def blakeCompressesRow : OpenClaim := { program := "ytfdoikdfhjjohaadoor", sum := "2755d9417439f2389012a424c8bc69a686f9167368c6aab69c3fd332f9abca53", func := "pestle/pestlelaw07.BlakeCompresses", spec := "blakeCompresses", unfollowed := true, recurses := true, named := ["pestle/blake.quarters"], apart := false, laid := [("pestle/blake.quarters", laid_pestle_blake_quarters)] }
def BlakeCompressesSaid : Prop := blakeCompressesRow.holds Tryd.pinned (OpenSpec.ofChange blakeCompressesSpec)

/-- ITS FALSE NEIGHBOUR: 'it returns false'. Refute it at one input. -/
def blakeCompressesWrong : ChangeSpec := { name := "blakeCompresses", fn := fun _ => fun
  | [d1, d2, d3, d4] => { results := [.lit (.bool false)], args := [d1, d2, d3, d4] }
  | _ => none }
def BlakeCompressesWrongFalsely : Prop := blakeCompressesRow.holds Tryd.pinned (OpenSpec.ofChange blakeCompressesWrong)

/-- 'pestlelaw07.BlakeMixes': WHATEVER THE INPUT: true; the input reads as it did. -/
def blakeMixesSpec : ChangeSpec := { name := "blakeMixes", fn := fun _ => fun
  | [d1, d2] => { results := [.lit (.bool true)], args := [d1, d2] }
  | _ => none }
def blakeMixesRow : OpenClaim := { program := "ytfdoikdfhjjohaadoor", sum := "2755d9417439f2389012a424c8bc69a686f9167368c6aab69c3fd332f9abca53", func := "pestle/pestlelaw07.BlakeMixes", spec := "blakeMixes", unfollowed := true, recurses := true, named := ["pestle/blake.quarters"], apart := false, laid := [("pestle/blake.quarters", laid_pestle_blake_quarters)] }
def BlakeMixesSaid : Prop := blakeMixesRow.holds Tryd.pinned (OpenSpec.ofChange blakeMixesSpec)

/-- ITS FALSE NEIGHBOUR: 'it returns false'. Refute it at one input. -/
def blakeMixesWrong : ChangeSpec := { name := "blakeMixes", fn := fun _ => fun
  | [d1, d2] => { results := [.lit (.bool false)], args := [d1, d2] }
  | _ => none }
def BlakeMixesWrongFalsely : Prop := blakeMixesRow.holds Tryd.pinned (OpenSpec.ofChange blakeMixesWrong)

/-- 'pestlelaw07.BlakeSums': WHATEVER THE INPUT: true; the input reads as it did. -/
def blakeSumsSpec : ChangeSpec := { name := "blakeSums", fn := fun _ => fun
  | [d1, d2, d3] => { results := [.lit (.bool true)], args := [d1, d2, d3] }
  | _ => none }
def blakeSumsRow : OpenClaim := { program := "ytfdoikdfhjjohaadoor", sum := "2755d9417439f2389012a424c8bc69a686f9167368c6aab69c3fd332f9abca53", func := "pestle/pestlelaw07.BlakeSums", spec := "blakeSums", unfollowed := true, recurses := true, named := ["pestle/blake.quarters"], apart := false, laid := [("pestle/blake.quarters", laid_pestle_blake_quarters)] }
def BlakeSumsSaid : Prop := blakeSumsRow.holds Tryd.pinned (OpenSpec.ofChange blakeSumsSpec)

/-- ITS FALSE NEIGHBOUR: 'it returns false'. Refute it at one input. -/
def blakeSumsWrong : ChangeSpec := { name := "blakeSums", fn := fun _ => fun
  | [d1, d2, d3] => { results := [.lit (.bool false)], args := [d1, d2, d3] }
  | _ => none }
def BlakeSumsWrongFalsely : Prop := blakeSumsRow.holds Tryd.pinned (OpenSpec.ofChange blakeSumsWrong)

/-- 'pestlelaw07.BlakeParts': WHATEVER THE INPUT: true; the input reads as it did. -/
def blakePartsSpec : ChangeSpec := { name := "blakeParts", fn := fun _ => fun
  | [d1, d2, d3, d4] => { results := [.lit (.bool true)], args := [d1, d2, d3, d4] }
  | _ => none }
def blakePartsRow : OpenClaim := { program := "ytfdoikdfhjjohaadoor", sum := "2755d9417439f2389012a424c8bc69a686f9167368c6aab69c3fd332f9abca53", func := "pestle/pestlelaw07.BlakeParts", spec := "blakeParts", unfollowed := true, recurses := true, named := ["pestle/blake.quarters"], apart := false, laid := [("pestle/blake.quarters", laid_pestle_blake_quarters)] }
def BlakePartsSaid : Prop := blakePartsRow.holds Tryd.pinned (OpenSpec.ofChange blakePartsSpec)

/-- ITS FALSE NEIGHBOUR: 'it returns false'. Refute it at one input. -/
def blakePartsWrong : ChangeSpec := { name := "blakeParts", fn := fun _ => fun
  | [d1, d2, d3, d4] => { results := [.lit (.bool false)], args := [d1, d2, d3, d4] }
  | _ => none }
def BlakePartsWrongFalsely : Prop := blakePartsRow.holds Tryd.pinned (OpenSpec.ofChange blakePartsWrong)

/- THE SECOND FORM. 'bulk': how many values and letters a reading holds, each counted each time it is reached (what is shared counts as often as it is met; a slice's spare places count too). A statement '..UptoSaid' is the law's where the arguments, and the package variables that the reading takes, are together of bulk at most 1048576: NARROWER than '..Said'. Prove '..Said' where nothing that the law and all that it calls make is longer than what came in: it says more and counts as full. Else prove '..UptoSaid'. A law counts once. -/
mutual
def uptoBulk {H : Type} : DataW H → Nat
  | .lit (.string bytes) => bytes.length + 1
  | .lit _ => 1
  | .nil => 1
  | .ptr d => uptoBulk d + 1
  | .slice elems spare => uptoBulkAll elems + uptoBulkAll spare + 1
  | .agg parts => uptoBulkAll parts + 1
  | .iface _ d => uptoBulk d + 1
  | .map entries => uptoBulkEntries entries + 1
  | .held _ => 1
def uptoBulkAll {H : Type} : List (DataW H) → Nat
  | [] => 0
  | d :: r => uptoBulk d + uptoBulkAll r
def uptoBulkEntries {H : Type} : List (Lit × DataW H) → Nat
  | [] => 0
  | x :: r => uptoBulkEntry x + uptoBulkEntries r
def uptoBulkEntry {H : Type} : Lit × DataW H → Nat
  | (.string bytes, d) => bytes.length + uptoBulk d + 1
  | (_, d) => uptoBulk d + 1
 end
def uptoSmall : (H : Type) → List (DataW H) → Bool := fun _ ds => decide (uptoBulkAll ds ≤ 1048576)
def OpenSpec.upto (s : _root_.Go.ChangeSpec) : _root_.Go.OpenSpec := { _root_.Go.OpenSpec.ofChange s with cond := some uptoSmall }

/-- 'pestlelaw07.BlakeCompresses', WHERE WHAT IT READS IS OF BULK AT MOST 1048576: true; the input reads as it did. -/
def blakeCompressesUptoRow : OpenClaim := { program := "ytfdoikdfhjjohaadoor", sum := "2755d9417439f2389012a424c8bc69a686f9167368c6aab69c3fd332f9abca53", func := "pestle/pestlelaw07.BlakeCompresses", spec := "blakeCompresses", unfollowed := true, recurses := true, named := ["pestle/blake.quarters"], apart := false, laid := [("pestle/blake.quarters", laid_pestle_blake_quarters)], narrowed := true }
def BlakeCompressesUptoSaid : Prop := blakeCompressesUptoRow.holds Tryd.pinned (OpenSpec.upto blakeCompressesSpec)

/-- 'pestlelaw07.BlakeMixes', WHERE WHAT IT READS IS OF BULK AT MOST 1048576: true; the input reads as it did. -/
def blakeMixesUptoRow : OpenClaim := { program := "ytfdoikdfhjjohaadoor", sum := "2755d9417439f2389012a424c8bc69a686f9167368c6aab69c3fd332f9abca53", func := "pestle/pestlelaw07.BlakeMixes", spec := "blakeMixes", unfollowed := true, recurses := true, named := ["pestle/blake.quarters"], apart := false, laid := [("pestle/blake.quarters", laid_pestle_blake_quarters)], narrowed := true }
def BlakeMixesUptoSaid : Prop := blakeMixesUptoRow.holds Tryd.pinned (OpenSpec.upto blakeMixesSpec)

/-- 'pestlelaw07.BlakeSums', WHERE WHAT IT READS IS OF BULK AT MOST 1048576: true; the input reads as it did. -/
def blakeSumsUptoRow : OpenClaim := { program := "ytfdoikdfhjjohaadoor", sum := "2755d9417439f2389012a424c8bc69a686f9167368c6aab69c3fd332f9abca53", func := "pestle/pestlelaw07.BlakeSums", spec := "blakeSums", unfollowed := true, recurses := true, named := ["pestle/blake.quarters"], apart := false, laid := [("pestle/blake.quarters", laid_pestle_blake_quarters)], narrowed := true }
def BlakeSumsUptoSaid : Prop := blakeSumsUptoRow.holds Tryd.pinned (OpenSpec.upto blakeSumsSpec)

/-- 'pestlelaw07.BlakeParts', WHERE WHAT IT READS IS OF BULK AT MOST 1048576: true; the input reads as it did. -/
def blakePartsUptoRow : OpenClaim := { program := "ytfdoikdfhjjohaadoor", sum := "2755d9417439f2389012a424c8bc69a686f9167368c6aab69c3fd332f9abca53", func := "pestle/pestlelaw07.BlakeParts", spec := "blakeParts", unfollowed := true, recurses := true, named := ["pestle/blake.quarters"], apart := false, laid := [("pestle/blake.quarters", laid_pestle_blake_quarters)], narrowed := true }
def BlakePartsUptoSaid : Prop := blakePartsUptoRow.holds Tryd.pinned (OpenSpec.upto blakePartsSpec)

end Rows
end Go.Proofs.YtfdoikdfhjjohaaDoor
