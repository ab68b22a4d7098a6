/-
  DERIVED. GIVEN WITH THE SEED: THE CARDS: each row of YtfdoikdfhjjohaaDoorRows.lean that lists a variable, with what it lists TIED to the program's text (the seventh form; the later family's looks); each row that meets fmt, with fmt's text TOLD by the authors' own Lean function (tested against real Go, not proved from fmt's source: count such statements apart). THE CARD IS WHAT COUNTS. Prove the row's statement (the work); the ties are given (YtfdoikdfhjjohaaDoorTie.lean); close each card by the builder's one call (the guide's Derived/Test/ToyasCard.lean, 'card_holds'). Laid BY PROGRAM, IN A SANDBOX (cutbox-door.mjs). By AI agents, Wed Nov 11 2026. No macro, syntax, notation, axiom, sorry.
-/
import Derived.Test.YtfdoikdfhjjohaaDoorRows
import GoSem.ClaimSeven
namespace Go.Proofs.YtfdoikdfhjjohaaDoor
namespace Rows

/-- THE TIED CARD OF 'pestlelaw07.BlakeCompresses'. -/
def blakeCompressesCard : Claim7 := { stood := { row := blakeCompressesRow, standIns := [], harness := (true, "2136f297cc6a05e686c89f1f1f3770114072b77c820300dc6b64934cf7f930a0"), looks := false }, kinds := [], alts := [], laidByText := true, laidKinds := [.data], laidTests := true, laidLooks := .later }
def BlakeCompressesCardSaid : Prop := Claim7.holds Tryd.pinned (.plain (OpenSpec.ofChange blakeCompressesSpec)) blakeCompressesCard

/-- THE TIED CARD OF 'pestlelaw07.BlakeMixes'. -/
def blakeMixesCard : Claim7 := { stood := { row := blakeMixesRow, standIns := [], harness := (true, "2136f297cc6a05e686c89f1f1f3770114072b77c820300dc6b64934cf7f930a0"), looks := false }, kinds := [], alts := [], laidByText := true, laidKinds := [.data], laidTests := true, laidLooks := .later }
def BlakeMixesCardSaid : Prop := Claim7.holds Tryd.pinned (.plain (OpenSpec.ofChange blakeMixesSpec)) blakeMixesCard

/-- THE TIED CARD OF 'pestlelaw07.BlakeSums'. -/
def blakeSumsCard : Claim7 := { stood := { row := blakeSumsRow, standIns := [], harness := (true, "2136f297cc6a05e686c89f1f1f3770114072b77c820300dc6b64934cf7f930a0"), looks := false }, kinds := [], alts := [], laidByText := true, laidKinds := [.data], laidTests := true, laidLooks := .later }
def BlakeSumsCardSaid : Prop := Claim7.holds Tryd.pinned (.plain (OpenSpec.ofChange blakeSumsSpec)) blakeSumsCard

/-- THE TIED CARD OF 'pestlelaw07.BlakeParts'. -/
def blakePartsCard : Claim7 := { stood := { row := blakePartsRow, standIns := [], harness := (true, "2136f297cc6a05e686c89f1f1f3770114072b77c820300dc6b64934cf7f930a0"), looks := false }, kinds := [], alts := [], laidByText := true, laidKinds := [.data], laidTests := true, laidLooks := .later }
def BlakePartsCardSaid : Prop := Claim7.holds Tryd.pinned (.plain (OpenSpec.ofChange blakePartsSpec)) blakePartsCard

/-- THE SECOND FORM's CARD OF 'pestlelaw07.BlakeCompresses'. -/
def blakeCompressesUptoCard : Claim7 := { stood := { row := blakeCompressesUptoRow, standIns := [], harness := (true, "2136f297cc6a05e686c89f1f1f3770114072b77c820300dc6b64934cf7f930a0"), looks := false }, kinds := [], alts := [], laidByText := true, laidKinds := [.data], laidTests := true, laidLooks := .later }
def BlakeCompressesUptoCardSaid : Prop := Claim7.holds Tryd.pinned (.plain (OpenSpec.upto blakeCompressesSpec)) blakeCompressesUptoCard

/-- THE SECOND FORM's CARD OF 'pestlelaw07.BlakeMixes'. -/
def blakeMixesUptoCard : Claim7 := { stood := { row := blakeMixesUptoRow, standIns := [], harness := (true, "2136f297cc6a05e686c89f1f1f3770114072b77c820300dc6b64934cf7f930a0"), looks := false }, kinds := [], alts := [], laidByText := true, laidKinds := [.data], laidTests := true, laidLooks := .later }
def BlakeMixesUptoCardSaid : Prop := Claim7.holds Tryd.pinned (.plain (OpenSpec.upto blakeMixesSpec)) blakeMixesUptoCard

/-- THE SECOND FORM's CARD OF 'pestlelaw07.BlakeSums'. -/
def blakeSumsUptoCard : Claim7 := { stood := { row := blakeSumsUptoRow, standIns := [], harness := (true, "2136f297cc6a05e686c89f1f1f3770114072b77c820300dc6b64934cf7f930a0"), looks := false }, kinds := [], alts := [], laidByText := true, laidKinds := [.data], laidTests := true, laidLooks := .later }
def BlakeSumsUptoCardSaid : Prop := Claim7.holds Tryd.pinned (.plain (OpenSpec.upto blakeSumsSpec)) blakeSumsUptoCard

/-- THE SECOND FORM's CARD OF 'pestlelaw07.BlakeParts'. -/
def blakePartsUptoCard : Claim7 := { stood := { row := blakePartsUptoRow, standIns := [], harness := (true, "2136f297cc6a05e686c89f1f1f3770114072b77c820300dc6b64934cf7f930a0"), looks := false }, kinds := [], alts := [], laidByText := true, laidKinds := [.data], laidTests := true, laidLooks := .later }
def BlakePartsUptoCardSaid : Prop := Claim7.holds Tryd.pinned (.plain (OpenSpec.upto blakePartsSpec)) blakePartsUptoCard
end Rows
end Go.Proofs.YtfdoikdfhjjohaaDoor
