/- The chapter's example of scrypt, reckoned. No condition. -/
import Derived.Test.YtlifpplhinmajaaGreatDoorScPure
namespace Go.Proofs.YtlifpplhinmajaaGreatDoor
set_option maxRecDepth 50000
theorem scK_example : (scK [] [] 4 1 1 64).take 8 = [119, 214, 87, 98, 56, 101, 123, 32] := by kernel_rfl
end Go.Proofs.YtlifpplhinmajaaGreatDoor
