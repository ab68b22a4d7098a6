/-
  DERIVED. GIVEN WITH THE SEED: THE PROGRAM's TIES (one call each: nine closed facts by the kernel) AND EACH ROW's TIE, after the 31st guide's Derived/Test/Toyas{Tie, Card}.lean. No idea stands in it: it is a product of the set-up. Laid BY PROGRAM, IN A SANDBOX (cutbox-door.mjs). By AI agents, Wed Nov 11 2026. No macro, syntax, notation, axiom, sorry.
-/
import Derived.Test.YtfoodaobiknihaaGreatDoorRows
import Derived.LaidByTextLater
import Derived.SevenTiedAt
import Derived.LaidSub
import Derived.LaidOnce
namespace Go.Proofs.YtfoodaobiknihaaGreatDoor
open Go
set_option maxRecDepth 100000
theorem seatTie1 : Tryz.prog.laidByTextLater [("pestle/blend.quarters", Rows.laid_pestle_blend_quarters), ("pestle/blend.layouts", Rows.laid_pestle_blend_layouts), ("pestle/blake.quarters", Rows.laid_pestle_blake_quarters)] [.data, .data, .data] true :=
  Program.laidByTextLater_by_one 42 8 33 (by kernel_rfl) (by kernel_rfl) (by kernel_rfl) (by kernel_rfl) (by kernel_rfl) (by kernel_rfl) (fun _ _ => by kernel_rfl)
theorem noOwnUnsafe : Tryz.pinned.checked.prog.headLifts.contains "ownunsafe" = false := by kernel_rfl
theorem tie : Tryz.prog.laidByTextLater [("pestle/blend.quarters", Rows.laid_pestle_blend_quarters), ("pestle/blend.layouts", Rows.laid_pestle_blend_layouts), ("pestle/blake.quarters", Rows.laid_pestle_blake_quarters)] [.data, .data, .data] true :=
  Program.laidByTextLater.sub seatTie1 ["pestle/blend.quarters", "pestle/blend.layouts", "pestle/blake.quarters"] (by kernel_rfl) (by kernel_rfl)
theorem laneSteps_row_tie : Rows.laneStepsRow.laidByTextAt .later Tryz.pinned [.data, .data, .data] true :=
  OpenClaim.laidByTextAt_later rfl rfl tie noOwnUnsafe
theorem laneStepsUpto_row_tie : Rows.laneStepsUptoRow.laidByTextAt .later Tryz.pinned [.data, .data, .data] true :=
  OpenClaim.laidByTextAt_later rfl rfl tie noOwnUnsafe
end Go.Proofs.YtfoodaobiknihaaGreatDoor
