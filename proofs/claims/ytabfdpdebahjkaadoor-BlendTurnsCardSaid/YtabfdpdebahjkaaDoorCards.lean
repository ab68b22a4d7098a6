/-
  DERIVED. GIVEN WITH THE SEED: THE CARDS: each row of YtabfdpdebahjkaaDoorRows.lean that lists a variable, with what it lists TIED to the program's text (the seventh form; the later family's looks); each row that meets fmt, with fmt's text TOLD by the authors' own Lean function (tested against real Go, not proved from fmt's source: count such statements apart). THE CARD IS WHAT COUNTS. Prove the row's statement (the work); the ties are given (YtabfdpdebahjkaaDoorTie.lean); close each card by the builder's one call (the guide's Derived/Test/ToyasCard.lean, 'card_holds'). Laid BY PROGRAM, IN A SANDBOX (cutbox-door.mjs). By AI agents, Wed Nov 11 2026. No macro, syntax, notation, axiom, sorry.
-/
import Derived.Test.YtabfdpdebahjkaaDoorRows
import GoSem.ClaimSeven
namespace Go.Proofs.YtabfdpdebahjkaaDoor
namespace Rows

/-- THE TIED CARD OF 'pestlelaw28.BlendPermutes'. -/
def blendPermutesCard : Claim7 := { stood := { row := blendPermutesRow, standIns := [], harness := (true, "e167939010cf06b7ae31a4a7bb2a0bccb2b2ce07185cf1ef062db7148d2d07d4"), looks := false }, kinds := [], alts := [], laidByText := true, laidKinds := [.data, .data], laidTests := true, laidLooks := .later }
def BlendPermutesCardSaid : Prop := Claim7.holds Tryd.pinned (.plain (OpenSpec.ofChange blendPermutesSpec)) blendPermutesCard

/-- THE TIED CARD OF 'pestlelaw28.BlendMixes'. -/
def blendMixesCard : Claim7 := { stood := { row := blendMixesRow, standIns := [], harness := (true, "e167939010cf06b7ae31a4a7bb2a0bccb2b2ce07185cf1ef062db7148d2d07d4"), looks := false }, kinds := [], alts := [], laidByText := true, laidKinds := [.data, .data], laidTests := true, laidLooks := .later }
def BlendMixesCardSaid : Prop := Claim7.holds Tryd.pinned (.plain (OpenSpec.ofChange blendMixesSpec)) blendMixesCard

/-- THE TIED CARD OF 'pestlelaw28.BlendTurns'. -/
def blendTurnsCard : Claim7 := { stood := { row := blendTurnsRow, standIns := [], harness := (true, "e167939010cf06b7ae31a4a7bb2a0bccb2b2ce07185cf1ef062db7148d2d07d4"), looks := false }, kinds := [], alts := [], laidByText := true, laidKinds := [.data, .data], laidTests := true, laidLooks := .later }
def BlendTurnsCardSaid : Prop := Claim7.holds Tryd.pinned (.plain (OpenSpec.ofChange blendTurnsSpec)) blendTurnsCard

/-- THE SECOND FORM's CARD OF 'pestlelaw28.BlendPermutes'. -/
def blendPermutesUptoCard : Claim7 := { stood := { row := blendPermutesUptoRow, standIns := [], harness := (true, "e167939010cf06b7ae31a4a7bb2a0bccb2b2ce07185cf1ef062db7148d2d07d4"), looks := false }, kinds := [], alts := [], laidByText := true, laidKinds := [.data, .data], laidTests := true, laidLooks := .later }
def BlendPermutesUptoCardSaid : Prop := Claim7.holds Tryd.pinned (.plain (OpenSpec.upto blendPermutesSpec)) blendPermutesUptoCard

/-- THE SECOND FORM's CARD OF 'pestlelaw28.BlendMixes'. -/
def blendMixesUptoCard : Claim7 := { stood := { row := blendMixesUptoRow, standIns := [], harness := (true, "e167939010cf06b7ae31a4a7bb2a0bccb2b2ce07185cf1ef062db7148d2d07d4"), looks := false }, kinds := [], alts := [], laidByText := true, laidKinds := [.data, .data], laidTests := true, laidLooks := .later }
def BlendMixesUptoCardSaid : Prop := Claim7.holds Tryd.pinned (.plain (OpenSpec.upto blendMixesSpec)) blendMixesUptoCard

/-- THE SECOND FORM's CARD OF 'pestlelaw28.BlendTurns'. -/
def blendTurnsUptoCard : Claim7 := { stood := { row := blendTurnsUptoRow, standIns := [], harness := (true, "e167939010cf06b7ae31a4a7bb2a0bccb2b2ce07185cf1ef062db7148d2d07d4"), looks := false }, kinds := [], alts := [], laidByText := true, laidKinds := [.data, .data], laidTests := true, laidLooks := .later }
def BlendTurnsUptoCardSaid : Prop := Claim7.holds Tryd.pinned (.plain (OpenSpec.upto blendTurnsSpec)) blendTurnsUptoCard
end Rows
end Go.Proofs.YtabfdpdebahjkaaDoor
