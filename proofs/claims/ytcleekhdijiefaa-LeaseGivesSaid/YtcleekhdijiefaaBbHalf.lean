/- Half and SetHalf of package block, and the document's Half, by their contracts. Conditions: those typed. -/
import Derived.Test.YtcleekhdijiefaaBbEq
import Derived.Test.YtcleekhdijiefaaFdHeld
import Derived.IntWalk
import Derived.Lib.Hide
import Derived.Deep.QuietTactic
import Derived.BigQuiet
import Derived.BigRegion
import Derived.StillTailTactics
namespace Go.Proofs.Ytcleekhdijiefaa
set_option maxRecDepth 50000
open Go.RowKit Bb

theorem frozen_drew (w : World) (p : Addr) : w.drew.frozen? p = w.frozen? p := rfl

end Go.Proofs.Ytcleekhdijiefaa
