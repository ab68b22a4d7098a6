/- Rounds of the example, by the kernel. Made by mk_bcnum.py. Rounds of the example, by the kernel. Made by mk_bcnum.py. -/
import Derived.Test.YtccpcjbffibkkaaBcNum
namespace Go.Proofs.Ytccpcjbffibkkaa.Ci
set_option maxRecDepth 50000
theorem run8 : (fun T => twoK kN sN (fun T => twoK kN sN (fun T => Nat.beq T t9) T) T) t8 = true := by kernel_rfl
theorem run9 : (fun T => twoK kN sN (fun T => twoK kN sN (fun T => Nat.beq T t10) T) T) t9 = true := by kernel_rfl
theorem run10 : (fun T => twoK kN sN (fun T => twoK kN sN (fun T => Nat.beq T t11) T) T) t10 = true := by kernel_rfl
theorem run11 : (fun T => twoK kN sN (fun T => twoK kN sN (fun T => Nat.beq T t12) T) T) t11 = true := by kernel_rfl
end Go.Proofs.Ytccpcjbffibkkaa.Ci

namespace Go.Proofs.Ytccpcjbffibkkaa.Ci
set_option maxRecDepth 50000
theorem run12 : (fun T => twoK kN sN (fun T => twoK kN sN (fun T => Nat.beq T t13) T) T) t12 = true := by kernel_rfl
theorem run13 : (fun T => twoK kN sN (fun T => twoK kN sN (fun T => Nat.beq T t14) T) T) t13 = true := by kernel_rfl
theorem run14 : (fun T => twoK kN sN (fun T => twoK kN sN (fun T => Nat.beq T t15) T) T) t14 = true := by kernel_rfl
theorem run15 : (fun T => twoK kN sN (fun T => twoK kN sN (fun T => Nat.beq T t16) T) T) t15 = true := by kernel_rfl
end Go.Proofs.Ytccpcjbffibkkaa.Ci
