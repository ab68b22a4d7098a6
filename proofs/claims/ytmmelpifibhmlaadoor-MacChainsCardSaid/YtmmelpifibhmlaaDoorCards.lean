/-
  DERIVED. GIVEN WITH THE SEED: THE CARDS: each row of YtmmelpifibhmlaaDoorRows.lean that lists a variable, with what it lists TIED to the program's text (the seventh form; the later family's looks); each row that meets fmt, with fmt's text TOLD by the authors' own Lean function (tested against real Go, not proved from fmt's source: count such statements apart). THE CARD IS WHAT COUNTS. Prove the row's statement (the work); the ties are given (YtmmelpifibhmlaaDoorTie.lean); close each card by the builder's one call (the guide's Derived/Test/ToyasCard.lean, 'card_holds'). Laid BY PROGRAM, IN A SANDBOX (cutbox-door.mjs). By AI agents, Wed Nov 11 2026. No macro, syntax, notation, axiom, sorry.
-/
import Derived.Test.YtmmelpifibhmlaaDoorRows
import GoSem.ClaimSeven
namespace Go.Proofs.YtmmelpifibhmlaaDoor
namespace Rows

/-- THE TIED CARD OF 'pestlelaw06.MacTags'. -/
def macTagsCard : Claim7 := { stood := { row := macTagsRow, standIns := [], harness := (true, "b40e76ee5fc1ba7a810b2d8870a91702a753b602bf3a980770cea96fd1637e5a"), looks := false }, kinds := [], alts := [], laidByText := true, laidKinds := [.data], laidTests := true, laidLooks := .later }
def MacTagsCardSaid : Prop := Claim7.holds Tryd.pinned (.plain (OpenSpec.ofChange macTagsSpec)) macTagsCard

/-- THE TIED CARD OF 'pestlelaw06.MacChains'. -/
def macChainsCard : Claim7 := { stood := { row := macChainsRow, standIns := [], harness := (true, "b40e76ee5fc1ba7a810b2d8870a91702a753b602bf3a980770cea96fd1637e5a"), looks := false }, kinds := [], alts := [], laidByText := true, laidKinds := [.data], laidTests := true, laidLooks := .later }
def MacChainsCardSaid : Prop := Claim7.holds Tryd.pinned (.plain (OpenSpec.ofChange macChainsSpec)) macChainsCard

/-- THE TIED CARD OF 'pestlelaw06.MacKeys'. -/
def macKeysCard : Claim7 := { stood := { row := macKeysRow, standIns := [], harness := (true, "b40e76ee5fc1ba7a810b2d8870a91702a753b602bf3a980770cea96fd1637e5a"), looks := false }, kinds := [], alts := [], laidByText := true, laidKinds := [.data], laidTests := true, laidLooks := .later }
def MacKeysCardSaid : Prop := Claim7.holds Tryd.pinned (.plain (OpenSpec.ofChange macKeysSpec)) macKeysCard

/-- THE SECOND FORM's CARD OF 'pestlelaw06.MacTags'. -/
def macTagsUptoCard : Claim7 := { stood := { row := macTagsUptoRow, standIns := [], harness := (true, "b40e76ee5fc1ba7a810b2d8870a91702a753b602bf3a980770cea96fd1637e5a"), looks := false }, kinds := [], alts := [], laidByText := true, laidKinds := [.data], laidTests := true, laidLooks := .later }
def MacTagsUptoCardSaid : Prop := Claim7.holds Tryd.pinned (.plain (OpenSpec.upto macTagsSpec)) macTagsUptoCard

/-- THE SECOND FORM's CARD OF 'pestlelaw06.MacChains'. -/
def macChainsUptoCard : Claim7 := { stood := { row := macChainsUptoRow, standIns := [], harness := (true, "b40e76ee5fc1ba7a810b2d8870a91702a753b602bf3a980770cea96fd1637e5a"), looks := false }, kinds := [], alts := [], laidByText := true, laidKinds := [.data], laidTests := true, laidLooks := .later }
def MacChainsUptoCardSaid : Prop := Claim7.holds Tryd.pinned (.plain (OpenSpec.upto macChainsSpec)) macChainsUptoCard

/-- THE SECOND FORM's CARD OF 'pestlelaw06.MacKeys'. -/
def macKeysUptoCard : Claim7 := { stood := { row := macKeysUptoRow, standIns := [], harness := (true, "b40e76ee5fc1ba7a810b2d8870a91702a753b602bf3a980770cea96fd1637e5a"), looks := false }, kinds := [], alts := [], laidByText := true, laidKinds := [.data], laidTests := true, laidLooks := .later }
def MacKeysUptoCardSaid : Prop := Claim7.holds Tryd.pinned (.plain (OpenSpec.upto macKeysSpec)) macKeysUptoCard
end Rows
end Go.Proofs.YtmmelpifibhmlaaDoor
