/- Rounds of the example, by the kernel. Made by mk_bcnum.py. Rounds of the example, by the kernel. Made by mk_bcnum.py. -/
import Derived.Test.YtccpcjbffibkkaaBcNum
namespace Go.Proofs.Ytccpcjbffibkkaa.Ci
set_option maxRecDepth 50000
theorem run0 : (fun T => twoK kN sN (fun T => twoK kN sN (fun T => Nat.beq T t1) T) T) t0 = true := by kernel_rfl
theorem run1 : (fun T => twoK kN sN (fun T => twoK kN sN (fun T => Nat.beq T t2) T) T) t1 = true := by kernel_rfl
theorem run2 : (fun T => twoK kN sN (fun T => twoK kN sN (fun T => Nat.beq T t3) T) T) t2 = true := by kernel_rfl
theorem run3 : (fun T => twoK kN sN (fun T => twoK kN sN (fun T => Nat.beq T t4) T) T) t3 = true := by kernel_rfl
end Go.Proofs.Ytccpcjbffibkkaa.Ci

namespace Go.Proofs.Ytccpcjbffibkkaa.Ci
set_option maxRecDepth 50000
theorem run4 : (fun T => twoK kN sN (fun T => twoK kN sN (fun T => Nat.beq T t5) T) T) t4 = true := by kernel_rfl
theorem run5 : (fun T => twoK kN sN (fun T => twoK kN sN (fun T => Nat.beq T t6) T) T) t5 = true := by kernel_rfl
theorem run6 : (fun T => twoK kN sN (fun T => twoK kN sN (fun T => Nat.beq T t7) T) T) t6 = true := by kernel_rfl
theorem run7 : (fun T => twoK kN sN (fun T => twoK kN sN (fun T => Nat.beq T t8) T) T) t7 = true := by kernel_rfl
end Go.Proofs.Ytccpcjbffibkkaa.Ci
