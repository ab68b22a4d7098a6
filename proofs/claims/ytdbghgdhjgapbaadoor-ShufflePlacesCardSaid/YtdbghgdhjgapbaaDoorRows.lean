/-
  NARROWER THAN 'FOR EVERY INPUT', by the rows' own cells (each row's printed sentence says how): ShuffleMixes: laid · ShufflePlaces: laid.
  DERIVED. THE GIVEN ROWS OF THIS SEAT. 2 by the template 'for every input the law returns true; each argument reads behind the call as it read before'; 0 by the template 'total and deterministic' (their statements: YtdbghgdhjgapbaaDoorTotals.lean).
  GIVEN WITH THE SEED: the statements are not yours to turn. If you find one false, say at which input.
  Laid BY PROGRAM, IN A SANDBOX (cutbox-rows.mjs): the forced cells as the released guide's own fill.sh prints them over the translation 46a4e727ca9ab30f… (all of the seat's roots in one cut). By AI agents, Wed Nov 11 2026. No macro, syntax, notation, axiom, sorry.
-/
import Derived.Test.YtdbghgdhjgapbaaDoorChecked
import GoSem.Claim
import GoSem.ClaimJoined
import GoSem.ClaimMapViews
import Derived.JoinedTies
import Derived.KernelRfl
namespace Go.Proofs.YtdbghgdhjgapbaaDoor
/- THE CELL 'sum', in the pinned program and in every row, IS THE sha256 OF THE DUMP (.gsa) THAT YtdbghgdhjgapbaaDoorProg.lean LOADS. Nothing in Lean hashes anything: it is a label: what it is worth is what the hold of that sum in a sandbox is worth. -/
noncomputable def Tryd.pinned : Pinned := { name := "ytdbghgdhjgapbaadoor", sum := "46a4e727ca9ab30f152dc91ea66785cb22f93d16ad7f32e7115ed495404b3245", checked := Tryd.checked }
namespace Rows
def none {H : Type} : Left H := { results := [], args := [] }

/- WHAT THE LISTED PACKAGE-LEVEL VARIABLES READ AS WHEN THE CALL BEGINS. Each datum BY PROGRAM (the guide's laid-datum.mjs) off the statement by which the dump's own 'gosem.cut.vars' lays the variable. In a bare row this is a premise. The card (YtdbghgdhjgapbaaDoorCards.lean) ties it to the program's text. -/
def laid_pestle_salsa_quarters {H : Type} : DataW H := .agg [.agg [.lit (.int .i64 0), .lit (.int .i64 4), .lit (.int .i64 8), .lit (.int .i64 12)], .agg [.lit (.int .i64 5), .lit (.int .i64 9), .lit (.int .i64 13), .lit (.int .i64 1)], .agg [.lit (.int .i64 10), .lit (.int .i64 14), .lit (.int .i64 2), .lit (.int .i64 6)], .agg [.lit (.int .i64 15), .lit (.int .i64 3), .lit (.int .i64 7), .lit (.int .i64 11)], .agg [.lit (.int .i64 0), .lit (.int .i64 1), .lit (.int .i64 2), .lit (.int .i64 3)], .agg [.lit (.int .i64 5), .lit (.int .i64 6), .lit (.int .i64 7), .lit (.int .i64 4)], .agg [.lit (.int .i64 10), .lit (.int .i64 11), .lit (.int .i64 8), .lit (.int .i64 9)], .agg [.lit (.int .i64 15), .lit (.int .i64 12), .lit (.int .i64 13), .lit (.int .i64 14)]]

/-- 'pestlelaw23.ShuffleMixes': WHATEVER THE INPUT: true; the input reads as it did. -/
def shuffleMixesSpec : ChangeSpec := { name := "shuffleMixes", fn := fun _ => fun
  | [d1, d2] => { results := [.lit (.bool true)], args := [d1, d2] }
  | _ => none }
def shuffleMixesRow : OpenClaim := { program := "ytdbghgdhjgapbaadoor", sum := "46a4e727ca9ab30f152dc91ea66785cb22f93d16ad7f32e7115ed495404b3245", func := "pestle/pestlelaw23.ShuffleMixes", spec := "shuffleMixes", named := ["pestle/salsa.quarters"], apart := false, laid := [("pestle/salsa.quarters", laid_pestle_salsa_quarters)] }
def ShuffleMixesSaid : Prop := shuffleMixesRow.holds Tryd.pinned (OpenSpec.ofChange shuffleMixesSpec)

/-- ITS FALSE NEIGHBOUR: 'it returns false'. Refute it at one input. -/
def shuffleMixesWrong : ChangeSpec := { name := "shuffleMixes", fn := fun _ => fun
  | [d1, d2] => { results := [.lit (.bool false)], args := [d1, d2] }
  | _ => none }
def ShuffleMixesWrongFalsely : Prop := shuffleMixesRow.holds Tryd.pinned (OpenSpec.ofChange shuffleMixesWrong)

/-- 'pestlelaw23.ShufflePlaces': WHATEVER THE INPUT: true; the input reads as it did. -/
def shufflePlacesSpec : ChangeSpec := { name := "shufflePlaces", fn := fun _ => fun
  | [d] => { results := [.lit (.bool true)], args := [d] }
  | _ => none }
def shufflePlacesRow : OpenClaim := { program := "ytdbghgdhjgapbaadoor", sum := "46a4e727ca9ab30f152dc91ea66785cb22f93d16ad7f32e7115ed495404b3245", func := "pestle/pestlelaw23.ShufflePlaces", spec := "shufflePlaces", named := ["pestle/salsa.quarters"], apart := false, laid := [("pestle/salsa.quarters", laid_pestle_salsa_quarters)] }
def ShufflePlacesSaid : Prop := shufflePlacesRow.holds Tryd.pinned (OpenSpec.ofChange shufflePlacesSpec)

/-- ITS FALSE NEIGHBOUR: 'it returns false'. Refute it at one input. -/
def shufflePlacesWrong : ChangeSpec := { name := "shufflePlaces", fn := fun _ => fun
  | [d] => { results := [.lit (.bool false)], args := [d] }
  | _ => none }
def ShufflePlacesWrongFalsely : Prop := shufflePlacesRow.holds Tryd.pinned (OpenSpec.ofChange shufflePlacesWrong)

/- THE SECOND FORM. 'bulk': how many values and letters a reading holds, each counted each time it is reached (what is shared counts as often as it is met; a slice's spare places count too). A statement '..UptoSaid' is the law's where the arguments, and the package variables that the reading takes, are together of bulk at most 1048576: NARROWER than '..Said'. Prove '..Said' where nothing that the law and all that it calls make is longer than what came in: it says more and counts as full. Else prove '..UptoSaid'. A law counts once. -/
mutual
def uptoBulk {H : Type} : DataW H → Nat
  | .lit (.string bytes) => bytes.length + 1
  | .lit _ => 1
  | .nil => 1
  | .ptr d => uptoBulk d + 1
  | .slice elems spare => uptoBulkAll elems + uptoBulkAll spare + 1
  | .agg parts => uptoBulkAll parts + 1
  | .iface _ d => uptoBulk d + 1
  | .map entries => uptoBulkEntries entries + 1
  | .held _ => 1
def uptoBulkAll {H : Type} : List (DataW H) → Nat
  | [] => 0
  | d :: r => uptoBulk d + uptoBulkAll r
def uptoBulkEntries {H : Type} : List (Lit × DataW H) → Nat
  | [] => 0
  | x :: r => uptoBulkEntry x + uptoBulkEntries r
def uptoBulkEntry {H : Type} : Lit × DataW H → Nat
  | (.string bytes, d) => bytes.length + uptoBulk d + 1
  | (_, d) => uptoBulk d + 1
 end
def uptoSmall : (H : Type) → List (DataW H) → Bool := fun _ ds => decide (uptoBulkAll ds ≤ 1048576)
def OpenSpec.upto (s : _root_.Go.ChangeSpec) : _root_.Go.OpenSpec := { _root_.Go.OpenSpec.ofChange s with cond := some uptoSmall }

/-- 'pestlelaw23.ShuffleMixes', WHERE WHAT IT READS IS OF BULK AT MOST 1048576: true; the input reads as it did. -/
def shuffleMixesUptoRow : OpenClaim := { program := "ytdbghgdhjgapbaadoor", sum := "46a4e727ca9ab30f152dc91ea66785cb22f93d16ad7f32e7115ed495404b3245", func := "pestle/pestlelaw23.ShuffleMixes", spec := "shuffleMixes", named := ["pestle/salsa.quarters"], apart := false, laid := [("pestle/salsa.quarters", laid_pestle_salsa_quarters)], narrowed := true }
def ShuffleMixesUptoSaid : Prop := shuffleMixesUptoRow.holds Tryd.pinned (OpenSpec.upto shuffleMixesSpec)

/-- 'pestlelaw23.ShufflePlaces', WHERE WHAT IT READS IS OF BULK AT MOST 1048576: true; the input reads as it did. -/
def shufflePlacesUptoRow : OpenClaim := { program := "ytdbghgdhjgapbaadoor", sum := "46a4e727ca9ab30f152dc91ea66785cb22f93d16ad7f32e7115ed495404b3245", func := "pestle/pestlelaw23.ShufflePlaces", spec := "shufflePlaces", named := ["pestle/salsa.quarters"], apart := false, laid := [("pestle/salsa.quarters", laid_pestle_salsa_quarters)], narrowed := true }
def ShufflePlacesUptoSaid : Prop := shufflePlacesUptoRow.holds Tryd.pinned (OpenSpec.upto shufflePlacesSpec)

end Rows
end Go.Proofs.YtdbghgdhjgapbaaDoor
