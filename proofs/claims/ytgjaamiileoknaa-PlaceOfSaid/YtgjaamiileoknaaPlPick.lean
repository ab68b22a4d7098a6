/- Pick of package place and the document's Pick, by their contracts; the chapter's example. Conditions: those typed. -/
import Derived.Test.YtgjaamiileoknaaSz
import Derived.StillTailTactics
namespace Go.Proofs.Ytgjaamiileoknaa
set_option maxRecDepth 50000
open Go.RowKit

theorem or_low32 (a b : Nat) (h : b < 4294967296) : (a * 4294967296) ||| b = a * 4294967296 + b := by
  have h := Nat.two_pow_add_eq_or_of_lt (i := 32) (b := b) (by omega) a
  rw [show (2 : Nat) ^ 32 = 4294967296 from rfl, Nat.mul_comm] at h
  exact h.symm

/-- a product's words but for the lowest one -/
theorem share_any (x y p : Nat) (hx : x < 18446744073709551616) (hy : y < 18446744073709551616) (hp : x * y = p) (h : p < 79228162514264337593543950336) (w : World) :
    Calls Try.prog 25 #[.int .u64 (x : Int), .int .u64 (y : Int)] w fun e w' => e = .returned (.int .u64 ((p / 4294967296 : Nat) : Int)) ∧ w = w' := by
  have C := mul64_any x y hx hy w
  rw [hp] at C
  obtain ⟨H, hH⟩ : ∃ H, p / 18446744073709551616 = H := ⟨_, rfl⟩
  obtain ⟨L, hL⟩ : ∃ L, p % 18446744073709551616 = L := ⟨_, rfl⟩
  rw [hH, hL] at C
  have hr : p / 4294967296 = H * 4294967296 + L / 4294967296 := by omega
  have hHb : H < 4294967296 := by omega
  have hLb : L < 18446744073709551616 := by omega
  have e1 : IntKind.u64.wrap ((H : Int) * 4294967296) = ((H * 4294967296 : Nat) : Int) := by rw [IntKind.wrap_u64]; omega
  have e2 : bits .or .u64 ((H * 4294967296 : Nat) : Int) ((L : Int) / 4294967296) = ((p / 4294967296 : Nat) : Int) := by
    rw [show (L : Int) / 4294967296 = ((L / 4294967296 : Nat) : Int) from rfl, bits_or_u64_nat _ _ (by omega) (by omega), or_low32 _ _ (by omega), hr]
  have HC := Lib.hid C
  have E2 := Lib.hid e2
  clear C hp hx hy h hH hL hr e2
  generalize H * 4294967296 = G at *
  generalize p / 4294967296 = q at *
  go_enter Try.func25, Try.ntmps25
  go_wp2_with fail
  refine (HC.out).mono ?_
  rintro e w' ⟨rfl, rfl⟩
  go_wp2
  go_ret
  exact ⟨by rw [E2.out]; rfl, rfl⟩

/-- what is left out of so many, and which is picked -/
def shN (A J : Nat) : Nat := A * (J * J / 4294967296) / 4294967296
def piN (A J : Nat) : Nat := A - 1 - shN A J
theorem sq_lt {J : Nat} (hJ : J < 4294967296) : J * J < 18446744073709551616 ∧ J * J / 4294967296 < 4294967296 := by
  have h := Nat.mul_le_mul (show J ≤ 4294967295 by omega) (show J ≤ 4294967295 by omega)
  omega
theorem sh_lt {A J : Nat} (hA : 1 ≤ A) (hJ : J < 4294967296) : shN A J < A := by
  unfold shN
  refine Nat.div_lt_of_lt_mul ?_
  rw [Nat.mul_comm 4294967296]
  exact Nat.mul_lt_mul_of_pos_left (sq_lt hJ).2 (by omega)
theorem pi_lt {A J : Nat} (hA : 1 ≤ A) : piN A J < A := by unfold piN; omega
theorem pi_less {A J K : Nat} (h : J ≤ K) : piN A K ≤ piN A J := by
  have h1 : J * J / 4294967296 ≤ K * K / 4294967296 := Nat.div_le_div_right (Nat.mul_le_mul h h)
  have h2 : shN A J ≤ shN A K := Nat.div_le_div_right (Nat.mul_le_mul_left A h1)
  unfold piN; omega

theorem pick_any (A J : Nat) (hA : 1 ≤ A) (hA2 : A ≤ 4294967296) (hJ : J < 4294967296) (w : World) :
    Calls Try.prog 17 #[.int .i64 (A : Int), .int .u32 (J : Int)] w fun e w' => e = .returned (.int .i64 ((piN A J : Nat) : Int)) ∧ w = w' := by
  obtain ⟨S, hS⟩ : ∃ S, J * J / 4294967296 = S := ⟨_, rfl⟩
  obtain ⟨Y, hY⟩ : ∃ Y, A * S / 4294967296 = Y := ⟨_, rfl⟩
  have hsq := sq_lt hJ
  have hSb : S < 4294967296 := by omega
  have hYA : Y < A := by
    have := sh_lt hA hJ
    unfold shN at this
    rwa [hS, hY] at this
  have hAS : A * S < 79228162514264337593543950336 := by
    have := Nat.mul_le_mul hA2 (show S ≤ 4294967296 by omega)
    omega
  have hP : piN A J = A - 1 - Y := by unfold piN shN; rw [hS, hY]
  have C1 := Lib.hid (share_any J J _ (by omega) (by omega) rfl (by omega))
  have C2 := Lib.hid (share_any A S _ (by omega) (by omega) rfl hAS)
  rw [hS] at C1
  rw [hY] at C2
  rw [hP]
  clear hsq hAS hS hY hP
  go_enter Try.func17, Try.ntmps17
  go_wp2_with fail
  refine (C1.out _).mono ?_
  rintro e w' ⟨rfl, rfl⟩
  go_wp2_with fail
  refine (C2.out _).mono ?_
  rintro e w' ⟨rfl, rfl⟩
  go_wp2
  go_ret
  exact ⟨by go_num, rfl⟩
theorem pick_none (z : Int) (J : Nat) (h : z < 1) (w : World) : Calls Try.prog 17 #[.int .i64 z, .int .u32 (J : Int)] w fun e w' => e = .returned (.int .i64 0) ∧ w = w' := by
  go_enter Try.func17, Try.ntmps17
  go_wp2
  go_ret
  exact ⟨rfl, rfl⟩
theorem rpick_any (A J : Nat) (hA : 1 ≤ A) (hA2 : A < 2147483648) (hJ : J < 4294967296) (w : World) :
    Calls Try.prog 18 #[.int .i64 (A : Int), .int .u32 (J : Int)] w fun e w' => e = .returned (.int .i64 ((piN A J : Nat) : Int)) ∧ w = w' := by
  obtain ⟨Q, hQ⟩ : ∃ Q, J * J = Q := ⟨_, rfl⟩
  obtain ⟨S, hS⟩ : ∃ S, Q / 4294967296 = S := ⟨_, rfl⟩
  obtain ⟨R, hR⟩ : ∃ R, A * S = R := ⟨_, rfl⟩
  obtain ⟨Y, hY⟩ : ∃ Y, R / 4294967296 = Y := ⟨_, rfl⟩
  have hsq := sq_lt hJ
  rw [hQ] at hsq
  have hSb : S < 4294967296 := by omega
  have hYA : Y < A := by
    have := sh_lt hA hJ
    unfold shN at this
    rwa [hQ, hS, hR, hY] at this
  have hRb : R < 18446744073709551616 := by
    rw [← hR]
    have := Nat.mul_le_mul (show A ≤ 2147483648 by omega) (show S ≤ 4294967296 by omega)
    omega
  have hQb : Q < 18446744073709551616 := by omega
  have hP : piN A J = A - 1 - Y := by unfold piN shN; rw [hQ, hS, hR, hY]
  have e1 : (J : Int) * (J : Int) = (Q : Int) := by rw [← hQ]; exact (Int.natCast_mul _ _).symm
  have e2 : (Q : Int) / 4294967296 = (S : Int) := by rw [← hS]; rfl
  have e3 : (A : Int) * (S : Int) = (R : Int) := by rw [← hR]; exact (Int.natCast_mul _ _).symm
  have e4 : (R : Int) / 4294967296 = (Y : Int) := by rw [← hY]; rfl
  have w1 : IntKind.u64.wrap (Q : Int) = (Q : Int) := by rw [IntKind.wrap_u64]; omega
  have w2 : IntKind.u64.wrap (R : Int) = (R : Int) := by rw [IntKind.wrap_u64]; omega
  rw [hP]
  clear hsq hS hQ hR hY hP
  go_enter Try.func18, Try.ntmps18
  go_wp2
  go_ret
  exact ⟨by go_num, rfl⟩

theorem awake29_any (w : World) : Calls Try.prog 6 #[] w fun e w' => e = .returned (.bool true) ∧ w = w' := by
  have C1 := Lib.hid (pick_any 10 0 (by omega) (by omega) (by omega))
  have C2 := Lib.hid (pick_any 10 4294967295 (by omega) (by omega) (by omega))
  rw [show piN 10 0 = 9 by decide] at C1
  rw [show piN 10 4294967295 = 0 by decide] at C2
  go_enter Try.func6, Try.ntmps6
  go_wp2_with fail
  refine (C1.out _).mono ?_
  rintro e w' ⟨rfl, rfl⟩
  go_wp2_with fail
  refine (C2.out _).mono ?_
  rintro e w' ⟨rfl, rfl⟩
  go_wp2
  go_ret
  exact ⟨rfl, rfl⟩
end Go.Proofs.Ytgjaamiileoknaa
