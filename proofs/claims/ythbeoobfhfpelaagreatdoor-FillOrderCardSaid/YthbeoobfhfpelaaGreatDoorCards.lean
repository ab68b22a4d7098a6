/-
  DERIVED. GIVEN WITH THE SEED: THE CARDS: each row of YthbeoobfhfpelaaGreatDoorRows.lean that lists a variable, with what it lists TIED to the program's text (the seventh form; the later family's looks); each row that meets fmt, with fmt's text TOLD by the authors' own Lean function (tested against real Go, not proved from fmt's source: count such statements apart). THE CARD IS WHAT COUNTS. Prove the row's statement (the work); the ties are given (YthbeoobfhfpelaaGreatDoorTie.lean); close each card by the builder's one call (the guide's Derived/Test/ToyasCard.lean, 'card_holds'). Laid BY PROGRAM, IN A SANDBOX (cutbox-door.mjs). By AI agents, Wed Nov 11 2026. No macro, syntax, notation, axiom, sorry.
-/
import Derived.Test.YthbeoobfhfpelaaGreatDoorRows
import GoSem.ClaimSeven
namespace Go.Proofs.YthbeoobfhfpelaaGreatDoor
namespace Rows

/-- THE TIED CARD OF 'pestlelaw32.FillAll'. -/
def fillAllCard : Claim7 := { stood := { row := fillAllRow, standIns := [], harness := (true, "d123c6697c6f1b7e70555829c51c2cb0cb33726aab1c9b70bc0b8d97405dd977"), looks := false }, kinds := [], alts := [], laidByText := true, laidKinds := [.data, .data, .data], laidTests := true, laidLooks := .later }
def FillAllCardSaid : Prop := Claim7.holds Tryz.pinned (.plain (OpenSpec.ofChange fillAllSpec)) fillAllCard

/-- THE TIED CARD OF 'pestlelaw32.FillLooks'. -/
def fillLooksCard : Claim7 := { stood := { row := fillLooksRow, standIns := [], harness := (true, "d123c6697c6f1b7e70555829c51c2cb0cb33726aab1c9b70bc0b8d97405dd977"), looks := false }, kinds := [], alts := [], laidByText := true, laidKinds := [.data, .data, .data], laidTests := true, laidLooks := .later }
def FillLooksCardSaid : Prop := Claim7.holds Tryz.pinned (.plain (OpenSpec.ofChange fillLooksSpec)) fillLooksCard

/-- THE TIED CARD OF 'pestlelaw32.FillOrder'. -/
def fillOrderCard : Claim7 := { stood := { row := fillOrderRow, standIns := [], harness := (true, "d123c6697c6f1b7e70555829c51c2cb0cb33726aab1c9b70bc0b8d97405dd977"), looks := false }, kinds := [], alts := [], laidByText := true, laidKinds := [.data, .data, .data], laidTests := true, laidLooks := .later }
def FillOrderCardSaid : Prop := Claim7.holds Tryz.pinned (.plain (OpenSpec.ofChange fillOrderSpec)) fillOrderCard

/-- THE SECOND FORM's CARD OF 'pestlelaw32.FillAll'. -/
def fillAllUptoCard : Claim7 := { stood := { row := fillAllUptoRow, standIns := [], harness := (true, "d123c6697c6f1b7e70555829c51c2cb0cb33726aab1c9b70bc0b8d97405dd977"), looks := false }, kinds := [], alts := [], laidByText := true, laidKinds := [.data, .data, .data], laidTests := true, laidLooks := .later }
def FillAllUptoCardSaid : Prop := Claim7.holds Tryz.pinned (.plain (OpenSpec.upto fillAllSpec)) fillAllUptoCard

/-- THE SECOND FORM's CARD OF 'pestlelaw32.FillLooks'. -/
def fillLooksUptoCard : Claim7 := { stood := { row := fillLooksUptoRow, standIns := [], harness := (true, "d123c6697c6f1b7e70555829c51c2cb0cb33726aab1c9b70bc0b8d97405dd977"), looks := false }, kinds := [], alts := [], laidByText := true, laidKinds := [.data, .data, .data], laidTests := true, laidLooks := .later }
def FillLooksUptoCardSaid : Prop := Claim7.holds Tryz.pinned (.plain (OpenSpec.upto fillLooksSpec)) fillLooksUptoCard

/-- THE SECOND FORM's CARD OF 'pestlelaw32.FillOrder'. -/
def fillOrderUptoCard : Claim7 := { stood := { row := fillOrderUptoRow, standIns := [], harness := (true, "d123c6697c6f1b7e70555829c51c2cb0cb33726aab1c9b70bc0b8d97405dd977"), looks := false }, kinds := [], alts := [], laidByText := true, laidKinds := [.data, .data, .data], laidTests := true, laidLooks := .later }
def FillOrderUptoCardSaid : Prop := Claim7.holds Tryz.pinned (.plain (OpenSpec.upto fillOrderSpec)) fillOrderUptoCard
end Rows
end Go.Proofs.YthbeoobfhfpelaaGreatDoor
