/-
  DERIVED. GIVEN WITH THE SEED: THE CARDS: each row of YtebocfbnamcnoaaDoorRows.lean that lists a variable, with what it lists TIED to the program's text (the seventh form; the later family's looks); each row that meets fmt, with fmt's text TOLD by the authors' own Lean function (tested against real Go, not proved from fmt's source: count such statements apart). THE CARD IS WHAT COUNTS. Prove the row's statement (the work); the ties are given (YtebocfbnamcnoaaDoorTie.lean); close each card by the builder's one call (the guide's Derived/Test/ToyasCard.lean, 'card_holds'). Laid BY PROGRAM, IN A SANDBOX (cutbox-door.mjs). By AI agents, Wed Nov 11 2026. No macro, syntax, notation, axiom, sorry.
-/
import Derived.Test.YtebocfbnamcnoaaDoorRows
import GoSem.ClaimSeven
namespace Go.Proofs.YtebocfbnamcnoaaDoor
namespace Rows

/-- THE TIED CARD OF 'pestlelaw22.PbkdfKeys'. -/
def pbkdfKeysCard : Claim7 := { stood := { row := pbkdfKeysRow, standIns := [], harness := (true, "eeee5706588578c3c39ccd55c118df944dba9a264a0ca40c63ec9ba8ac303f44"), looks := false }, kinds := [], alts := [], laidByText := true, laidKinds := [.data], laidTests := true, laidLooks := .later }
def PbkdfKeysCardSaid : Prop := Claim7.holds Tryd.pinned (.plain (OpenSpec.ofChange pbkdfKeysSpec)) pbkdfKeysCard

/-- THE TIED CARD OF 'pestlelaw22.PbkdfParts'. -/
def pbkdfPartsCard : Claim7 := { stood := { row := pbkdfPartsRow, standIns := [], harness := (true, "eeee5706588578c3c39ccd55c118df944dba9a264a0ca40c63ec9ba8ac303f44"), looks := false }, kinds := [], alts := [], laidByText := true, laidKinds := [.data], laidTests := true, laidLooks := .later }
def PbkdfPartsCardSaid : Prop := Claim7.holds Tryd.pinned (.plain (OpenSpec.ofChange pbkdfPartsSpec)) pbkdfPartsCard

/-- THE TIED CARD OF 'pestlelaw22.PbkdfBegins'. -/
def pbkdfBeginsCard : Claim7 := { stood := { row := pbkdfBeginsRow, standIns := [], harness := (true, "eeee5706588578c3c39ccd55c118df944dba9a264a0ca40c63ec9ba8ac303f44"), looks := false }, kinds := [], alts := [], laidByText := true, laidKinds := [.data], laidTests := true, laidLooks := .later }
def PbkdfBeginsCardSaid : Prop := Claim7.holds Tryd.pinned (.plain (OpenSpec.ofChange pbkdfBeginsSpec)) pbkdfBeginsCard

/-- THE SECOND FORM's CARD OF 'pestlelaw22.PbkdfKeys'. -/
def pbkdfKeysUptoCard : Claim7 := { stood := { row := pbkdfKeysUptoRow, standIns := [], harness := (true, "eeee5706588578c3c39ccd55c118df944dba9a264a0ca40c63ec9ba8ac303f44"), looks := false }, kinds := [], alts := [], laidByText := true, laidKinds := [.data], laidTests := true, laidLooks := .later }
def PbkdfKeysUptoCardSaid : Prop := Claim7.holds Tryd.pinned (.plain (OpenSpec.upto pbkdfKeysSpec)) pbkdfKeysUptoCard

/-- THE SECOND FORM's CARD OF 'pestlelaw22.PbkdfParts'. -/
def pbkdfPartsUptoCard : Claim7 := { stood := { row := pbkdfPartsUptoRow, standIns := [], harness := (true, "eeee5706588578c3c39ccd55c118df944dba9a264a0ca40c63ec9ba8ac303f44"), looks := false }, kinds := [], alts := [], laidByText := true, laidKinds := [.data], laidTests := true, laidLooks := .later }
def PbkdfPartsUptoCardSaid : Prop := Claim7.holds Tryd.pinned (.plain (OpenSpec.upto pbkdfPartsSpec)) pbkdfPartsUptoCard

/-- THE SECOND FORM's CARD OF 'pestlelaw22.PbkdfBegins'. -/
def pbkdfBeginsUptoCard : Claim7 := { stood := { row := pbkdfBeginsUptoRow, standIns := [], harness := (true, "eeee5706588578c3c39ccd55c118df944dba9a264a0ca40c63ec9ba8ac303f44"), looks := false }, kinds := [], alts := [], laidByText := true, laidKinds := [.data], laidTests := true, laidLooks := .later }
def PbkdfBeginsUptoCardSaid : Prop := Claim7.holds Tryd.pinned (.plain (OpenSpec.upto pbkdfBeginsSpec)) pbkdfBeginsUptoCard
end Rows
end Go.Proofs.YtebocfbnamcnoaaDoor
