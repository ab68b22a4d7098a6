/-
  DERIVED. GIVEN WITH THE SEED: THE CARDS: each row of YtlifpplhinmajaaGreatDoorRows.lean that lists a variable, with what it lists TIED to the program's text (the seventh form; the later family's looks); each row that meets fmt, with fmt's text TOLD by the authors' own Lean function (tested against real Go, not proved from fmt's source: count such statements apart). THE CARD IS WHAT COUNTS. Prove the row's statement (the work); the ties are given (YtlifpplhinmajaaGreatDoorTie.lean); close each card by the builder's one call (the guide's Derived/Test/ToyasCard.lean, 'card_holds'). Laid BY PROGRAM, IN A SANDBOX (cutbox-door.mjs). By AI agents, Wed Nov 11 2026. No macro, syntax, notation, axiom, sorry.
-/
import Derived.Test.YtlifpplhinmajaaGreatDoorRows
import GoSem.ClaimSeven
namespace Go.Proofs.YtlifpplhinmajaaGreatDoor
namespace Rows

/-- THE TIED CARD OF 'pestlelaw25.ScryptNeeds'. -/
def scryptNeedsCard : Claim7 := { stood := { row := scryptNeedsRow, standIns := [], harness := (true, "30408042bf9008a5e1b7928dfc61ad5e349958d0cd98f0c758711e68c2ef387e"), looks := false }, kinds := [], alts := [], laidByText := true, laidKinds := [.data, .data], laidTests := true, laidLooks := .later }
def ScryptNeedsCardSaid : Prop := Claim7.holds Tryz.pinned (.plain (OpenSpec.ofChange scryptNeedsSpec)) scryptNeedsCard

/-- THE TIED CARD OF 'pestlelaw25.ScryptKeys'. -/
def scryptKeysCard : Claim7 := { stood := { row := scryptKeysRow, standIns := [], harness := (true, "30408042bf9008a5e1b7928dfc61ad5e349958d0cd98f0c758711e68c2ef387e"), looks := false }, kinds := [], alts := [], laidByText := true, laidKinds := [.data, .data], laidTests := true, laidLooks := .later }
def ScryptKeysCardSaid : Prop := Claim7.holds Tryz.pinned (.plain (OpenSpec.ofChange scryptKeysSpec)) scryptKeysCard

/-- THE TIED CARD OF 'pestlelaw25.ScryptAlone'. -/
def scryptAloneCard : Claim7 := { stood := { row := scryptAloneRow, standIns := [], harness := (true, "30408042bf9008a5e1b7928dfc61ad5e349958d0cd98f0c758711e68c2ef387e"), looks := false }, kinds := [], alts := [], laidByText := true, laidKinds := [.data, .data], laidTests := true, laidLooks := .later }
def ScryptAloneCardSaid : Prop := Claim7.holds Tryz.pinned (.plain (OpenSpec.ofChange scryptAloneSpec)) scryptAloneCard

/-- THE SECOND FORM's CARD OF 'pestlelaw25.ScryptNeeds'. -/
def scryptNeedsUptoCard : Claim7 := { stood := { row := scryptNeedsUptoRow, standIns := [], harness := (true, "30408042bf9008a5e1b7928dfc61ad5e349958d0cd98f0c758711e68c2ef387e"), looks := false }, kinds := [], alts := [], laidByText := true, laidKinds := [.data, .data], laidTests := true, laidLooks := .later }
def ScryptNeedsUptoCardSaid : Prop := Claim7.holds Tryz.pinned (.plain (OpenSpec.upto scryptNeedsSpec)) scryptNeedsUptoCard

/-- THE SECOND FORM's CARD OF 'pestlelaw25.ScryptKeys'. -/
def scryptKeysUptoCard : Claim7 := { stood := { row := scryptKeysUptoRow, standIns := [], harness := (true, "30408042bf9008a5e1b7928dfc61ad5e349958d0cd98f0c758711e68c2ef387e"), looks := false }, kinds := [], alts := [], laidByText := true, laidKinds := [.data, .data], laidTests := true, laidLooks := .later }
def ScryptKeysUptoCardSaid : Prop := Claim7.holds Tryz.pinned (.plain (OpenSpec.upto scryptKeysSpec)) scryptKeysUptoCard

/-- THE SECOND FORM's CARD OF 'pestlelaw25.ScryptAlone'. -/
def scryptAloneUptoCard : Claim7 := { stood := { row := scryptAloneUptoRow, standIns := [], harness := (true, "30408042bf9008a5e1b7928dfc61ad5e349958d0cd98f0c758711e68c2ef387e"), looks := false }, kinds := [], alts := [], laidByText := true, laidKinds := [.data, .data], laidTests := true, laidLooks := .later }
def ScryptAloneUptoCardSaid : Prop := Claim7.holds Tryz.pinned (.plain (OpenSpec.upto scryptAloneSpec)) scryptAloneUptoCard
end Rows
end Go.Proofs.YtlifpplhinmajaaGreatDoor
