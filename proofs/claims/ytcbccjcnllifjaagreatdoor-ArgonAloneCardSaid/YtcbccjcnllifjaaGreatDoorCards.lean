/-
  DERIVED. GIVEN WITH THE SEED: THE CARDS: each row of YtcbccjcnllifjaaGreatDoorRows.lean that lists a variable, with what it lists TIED to the program's text (the seventh form; the later family's looks); each row that meets fmt, with fmt's text TOLD by the authors' own Lean function (tested against real Go, not proved from fmt's source: count such statements apart). THE CARD IS WHAT COUNTS. Prove the row's statement (the work); the ties are given (YtcbccjcnllifjaaGreatDoorTie.lean); close each card by the builder's one call (the guide's Derived/Test/ToyasCard.lean, 'card_holds'). Laid BY PROGRAM, IN A SANDBOX (cutbox-door.mjs). By AI agents, Wed Nov 11 2026. No macro, syntax, notation, axiom, sorry.
-/
import Derived.Test.YtcbccjcnllifjaaGreatDoorRows
import GoSem.ClaimSeven
namespace Go.Proofs.YtcbccjcnllifjaaGreatDoor
namespace Rows

/-- THE TIED CARD OF 'pestlelaw33.ArgonHeads'. -/
def argonHeadsCard : Claim7 := { stood := { row := argonHeadsRow, standIns := [], harness := (true, "754c442936b174855df9c9f1fcfdf58cca186ba665d161ef0e1b5c850f9ccd0a"), looks := false }, kinds := [], alts := [], laidByText := true, laidKinds := [.data, .data, .data], laidTests := true, laidLooks := .later }
def ArgonHeadsCardSaid : Prop := Claim7.holds Tryz.pinned (.plain (OpenSpec.ofChange argonHeadsSpec)) argonHeadsCard

/-- THE TIED CARD OF 'pestlelaw33.ArgonKeys'. -/
def argonKeysCard : Claim7 := { stood := { row := argonKeysRow, standIns := [], harness := (true, "754c442936b174855df9c9f1fcfdf58cca186ba665d161ef0e1b5c850f9ccd0a"), looks := false }, kinds := [], alts := [], laidByText := true, laidKinds := [.data, .data, .data], laidTests := true, laidLooks := .later }
def ArgonKeysCardSaid : Prop := Claim7.holds Tryz.pinned (.plain (OpenSpec.ofChange argonKeysSpec)) argonKeysCard

/-- THE TIED CARD OF 'pestlelaw33.ArgonAlone'. -/
def argonAloneCard : Claim7 := { stood := { row := argonAloneRow, standIns := [], harness := (true, "754c442936b174855df9c9f1fcfdf58cca186ba665d161ef0e1b5c850f9ccd0a"), looks := false }, kinds := [], alts := [], laidByText := true, laidKinds := [.data, .data, .data], laidTests := true, laidLooks := .later }
def ArgonAloneCardSaid : Prop := Claim7.holds Tryz.pinned (.plain (OpenSpec.ofChange argonAloneSpec)) argonAloneCard

/-- THE SECOND FORM's CARD OF 'pestlelaw33.ArgonHeads'. -/
def argonHeadsUptoCard : Claim7 := { stood := { row := argonHeadsUptoRow, standIns := [], harness := (true, "754c442936b174855df9c9f1fcfdf58cca186ba665d161ef0e1b5c850f9ccd0a"), looks := false }, kinds := [], alts := [], laidByText := true, laidKinds := [.data, .data, .data], laidTests := true, laidLooks := .later }
def ArgonHeadsUptoCardSaid : Prop := Claim7.holds Tryz.pinned (.plain (OpenSpec.upto argonHeadsSpec)) argonHeadsUptoCard

/-- THE SECOND FORM's CARD OF 'pestlelaw33.ArgonKeys'. -/
def argonKeysUptoCard : Claim7 := { stood := { row := argonKeysUptoRow, standIns := [], harness := (true, "754c442936b174855df9c9f1fcfdf58cca186ba665d161ef0e1b5c850f9ccd0a"), looks := false }, kinds := [], alts := [], laidByText := true, laidKinds := [.data, .data, .data], laidTests := true, laidLooks := .later }
def ArgonKeysUptoCardSaid : Prop := Claim7.holds Tryz.pinned (.plain (OpenSpec.upto argonKeysSpec)) argonKeysUptoCard

/-- THE SECOND FORM's CARD OF 'pestlelaw33.ArgonAlone'. -/
def argonAloneUptoCard : Claim7 := { stood := { row := argonAloneUptoRow, standIns := [], harness := (true, "754c442936b174855df9c9f1fcfdf58cca186ba665d161ef0e1b5c850f9ccd0a"), looks := false }, kinds := [], alts := [], laidByText := true, laidKinds := [.data, .data, .data], laidTests := true, laidLooks := .later }
def ArgonAloneUptoCardSaid : Prop := Claim7.holds Tryz.pinned (.plain (OpenSpec.upto argonAloneSpec)) argonAloneUptoCard
end Rows
end Go.Proofs.YtcbccjcnllifjaaGreatDoor
