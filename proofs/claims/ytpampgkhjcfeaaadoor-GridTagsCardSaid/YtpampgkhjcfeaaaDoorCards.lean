/-
  DERIVED. GIVEN WITH THE SEED: THE CARDS: each row of YtpampgkhjcfeaaaDoorRows.lean that lists a variable, with what it lists TIED to the program's text (the seventh form; the later family's looks); each row that meets fmt, with fmt's text TOLD by the authors' own Lean function (tested against real Go, not proved from fmt's source: count such statements apart). THE CARD IS WHAT COUNTS. Prove the row's statement (the work); the ties are given (YtpampgkhjcfeaaaDoorTie.lean); close each card by the builder's one call (the guide's Derived/Test/ToyasCard.lean, 'card_holds'). Laid BY PROGRAM, IN A SANDBOX (cutbox-door.mjs). By AI agents, Wed Nov 11 2026. No macro, syntax, notation, axiom, sorry.
-/
import Derived.Test.YtpampgkhjcfeaaaDoorRows
import GoSem.ClaimSeven
namespace Go.Proofs.YtpampgkhjcfeaaaDoor
namespace Rows

/-- THE TIED CARD OF 'pestlelaw31.GridStores'. -/
def gridStoresCard : Claim7 := { stood := { row := gridStoresRow, standIns := [], harness := (true, "a99393843ebf84343b4a342d0142e61cb117f3379cfed37d8d6a9afb2f45d3a1"), looks := false }, kinds := [], alts := [], laidByText := true, laidKinds := [.data], laidTests := true, laidLooks := .later }
def GridStoresCardSaid : Prop := Claim7.holds Tryd.pinned (.plain (OpenSpec.ofChange gridStoresSpec)) gridStoresCard

/-- THE TIED CARD OF 'pestlelaw31.GridTags'. -/
def gridTagsCard : Claim7 := { stood := { row := gridTagsRow, standIns := [], harness := (true, "a99393843ebf84343b4a342d0142e61cb117f3379cfed37d8d6a9afb2f45d3a1"), looks := false }, kinds := [], alts := [], laidByText := true, laidKinds := [.data], laidTests := true, laidLooks := .later }
def GridTagsCardSaid : Prop := Claim7.holds Tryd.pinned (.plain (OpenSpec.ofChange gridTagsSpec)) gridTagsCard

/-- THE SECOND FORM's CARD OF 'pestlelaw31.GridStores'. -/
def gridStoresUptoCard : Claim7 := { stood := { row := gridStoresUptoRow, standIns := [], harness := (true, "a99393843ebf84343b4a342d0142e61cb117f3379cfed37d8d6a9afb2f45d3a1"), looks := false }, kinds := [], alts := [], laidByText := true, laidKinds := [.data], laidTests := true, laidLooks := .later }
def GridStoresUptoCardSaid : Prop := Claim7.holds Tryd.pinned (.plain (OpenSpec.upto gridStoresSpec)) gridStoresUptoCard

/-- THE SECOND FORM's CARD OF 'pestlelaw31.GridTags'. -/
def gridTagsUptoCard : Claim7 := { stood := { row := gridTagsUptoRow, standIns := [], harness := (true, "a99393843ebf84343b4a342d0142e61cb117f3379cfed37d8d6a9afb2f45d3a1"), looks := false }, kinds := [], alts := [], laidByText := true, laidKinds := [.data], laidTests := true, laidLooks := .later }
def GridTagsUptoCardSaid : Prop := Claim7.holds Tryd.pinned (.plain (OpenSpec.upto gridTagsSpec)) gridTagsUptoCard
end Rows
end Go.Proofs.YtpampgkhjcfeaaaDoor
