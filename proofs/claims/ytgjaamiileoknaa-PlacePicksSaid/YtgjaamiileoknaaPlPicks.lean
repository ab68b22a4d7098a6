/- The law PlacePicks by the calls' contracts. Conditions: those typed. -/
import Derived.Test.YtgjaamiileoknaaPlPick
namespace Go.Proofs.Ytgjaamiileoknaa
set_option maxRecDepth 50000
open Go.RowKit

theorem picks29_none (z : Int) (h : z < 1) (J M : Nat) (w : World) : Calls Try.prog 5 #[.int .i64 z, .int .u32 (J : Int), .int .u32 (M : Int)] w fun e w' => e = .returned (.bool true) ∧ w = w' := by
  have CA := Lib.hid awake29_any
  have CP := Lib.hid (pick_none z J h)
  go_enter Try.func5, Try.ntmps5
  go_wp2_with fail
  refine (CA.out _).mono ?_
  rintro e w' ⟨rfl, rfl⟩
  go_wp2_with fail
  refine (CP.out _).mono ?_
  rintro e w' ⟨rfl, rfl⟩
  go_wp2
  go_ret
  exact ⟨rfl, rfl⟩
theorem picks29_many (z : Int) (h : 4294967296 < z) (J M : Nat) (w : World) : Calls Try.prog 5 #[.int .i64 z, .int .u32 (J : Int), .int .u32 (M : Int)] w fun e w' => e = .returned (.bool true) ∧ w = w' := by
  have CA := Lib.hid awake29_any
  go_enter Try.func5, Try.ntmps5
  go_wp2_with fail
  refine (CA.out _).mono ?_
  rintro e w' ⟨rfl, rfl⟩
  go_wp2
  go_ret
  exact ⟨rfl, rfl⟩
set_option maxHeartbeats 1600000 in
/-- any number of blocks that is reckoned with, by what the calls answer -/
theorem picks29_walk (A J M p q : Int) (CP : ∀ w, Calls Try.prog 17 #[.int .i64 A, .int .u32 J] w fun e w' => e = .returned (.int .i64 p) ∧ w = w')
    (CR : A < 2147483648 → ∀ w, Calls Try.prog 18 #[.int .i64 A, .int .u32 J] w fun e w' => e = .returned (.int .i64 p) ∧ w = w')
    (CM : J + M < 4294967296 → ∀ w, Calls Try.prog 17 #[.int .i64 A, .int .u32 (J + M)] w fun e w' => e = .returned (.int .i64 q) ∧ w = w')
    (h1 : 1 ≤ A) (h2 : A ≤ 4294967296) (hJ0 : 0 ≤ J) (hJ : J < 4294967296) (hM0 : 0 ≤ M) (hM : M < 4294967296) (h0 : 0 ≤ p) (hp : p < A) (hq : q ≤ p) (w : World) :
    Calls Try.prog 5 #[.int .i64 A, .int .u32 J, .int .u32 M] w fun e w' => e = .returned (.bool true) ∧ w = w' := by
  have CA := Lib.hid awake29_any
  have CP := Lib.hid CP
  have CR := Lib.hid CR
  have CM := Lib.hid CM
  by_cases ha : A < 2147483648
  · have CR := Lib.hid (CR.out ha)
    by_cases hs : J + M < 4294967296
    · have CM := Lib.hid (CM.out hs)
      go_enter Try.func5, Try.ntmps5
      go_wp2_with fail
      refine (CA.out _).mono ?_
      rintro e w' ⟨rfl, rfl⟩
      go_wp2_with fail
      refine (CP.out _).mono ?_
      rintro e w' ⟨rfl, rfl⟩
      go_wp2_with fail
      refine (CR.out _).mono ?_
      rintro e w' ⟨rfl, rfl⟩
      go_wp2_with fail
      refine (CM.out _).mono ?_
      rintro e w' ⟨rfl, rfl⟩
      go_wp2
      go_ret
      exact ⟨rfl, rfl⟩
    · clear CM
      go_enter Try.func5, Try.ntmps5
      go_wp2_with fail
      refine (CA.out _).mono ?_
      rintro e w' ⟨rfl, rfl⟩
      go_wp2_with fail
      refine (CP.out _).mono ?_
      rintro e w' ⟨rfl, rfl⟩
      go_wp2_with fail
      refine (CR.out _).mono ?_
      rintro e w' ⟨rfl, rfl⟩
      go_wp2
      go_ret
      exact ⟨rfl, rfl⟩
  · clear CR
    by_cases hs : J + M < 4294967296
    · have CM := Lib.hid (CM.out hs)
      go_enter Try.func5, Try.ntmps5
      go_wp2_with fail
      refine (CA.out _).mono ?_
      rintro e w' ⟨rfl, rfl⟩
      go_wp2_with fail
      refine (CP.out _).mono ?_
      rintro e w' ⟨rfl, rfl⟩
      go_wp2_with fail
      refine (CM.out _).mono ?_
      rintro e w' ⟨rfl, rfl⟩
      go_wp2
      go_ret
      exact ⟨rfl, rfl⟩
    · clear CM
      go_enter Try.func5, Try.ntmps5
      go_wp2_with fail
      refine (CA.out _).mono ?_
      rintro e w' ⟨rfl, rfl⟩
      go_wp2_with fail
      refine (CP.out _).mono ?_
      rintro e w' ⟨rfl, rfl⟩
      go_wp2
      go_ret
      exact ⟨rfl, rfl⟩
theorem picks29_good (A J M : Nat) (h1 : 1 ≤ A) (h2 : A ≤ 4294967296) (hJ : J < 4294967296) (hM : M < 4294967296) (w : World) : Calls Try.prog 5 #[.int .i64 (A : Int), .int .u32 (J : Int), .int .u32 (M : Int)] w fun e w' => e = .returned (.bool true) ∧ w = w' := by
  have hp : piN A J < A := pi_lt h1
  have hq : piN A (J + M) ≤ piN A J := pi_less (by omega)
  exact picks29_walk A J M (piN A J : Nat) (piN A (J + M) : Nat) (pick_any A J h1 h2 hJ) (fun h => rpick_any A J h1 (by omega) hJ) (fun h => pick_any A (J + M) h1 h2 (by omega))
    (by omega) (by omega) (by omega) (by omega) (by omega) (by omega) (by omega) (by omega) (by omega) w
theorem picks29_any (z : Int) (J M : Nat) (hJ : J < 4294967296) (hM : M < 4294967296) (w : World) : Calls Try.prog 5 #[.int .i64 z, .int .u32 (J : Int), .int .u32 (M : Int)] w fun e w' => e = .returned (.bool true) ∧ Below w.heap.size w w' := by
  have H : Calls Try.prog 5 #[.int .i64 z, .int .u32 (J : Int), .int .u32 (M : Int)] w fun e w' => e = .returned (.bool true) ∧ w = w' := by
    by_cases h1 : z < 1
    · exact picks29_none z h1 J M w
    · by_cases h2 : 4294967296 < z
      · exact picks29_many z h2 J M w
      · obtain ⟨A, rfl⟩ := Int.eq_ofNat_of_zero_le (show 0 ≤ z by omega)
        exact picks29_good A J M (by omega) (by omega) hJ hM w
  refine H.mono ?_
  rintro e w' ⟨rfl, rfl⟩
  exact ⟨rfl, Below.refl _ _⟩
end Go.Proofs.Ytgjaamiileoknaa
