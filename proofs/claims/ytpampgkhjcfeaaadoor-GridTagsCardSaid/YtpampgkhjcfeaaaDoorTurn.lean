/- The words that are turned: RotateLeft32, RotateLeft64, Left32, Right32, Right64 of package words, and the document's Left and Right, by their contracts. Conditions: the word fits its kind, n is an int. -/
import Derived.Test.YtpampgkhjcfeaaaDoorRows
import Derived.WalkKit
import Derived.ProofKit
import Derived.LoopTactic
import Derived.IntWalk
import Derived.Lib.Hide
import Derived.Test.YtpampgkhjcfeaaaDoorRot
namespace Go.Proofs.YtpampgkhjcfeaaaDoor
set_option maxRecDepth 50000
open Go.RowKit Rot

theorem rot64_any (x : Nat) (k : Int) (hx : x < 2 ^ 64) (w : World) : Calls Tryd.prog 88 #[.int .u64 (x : Int), .int .i64 k] w fun e w' => e = .returned (.int .u64 (rotl 64 x (k % 64).toNat : Nat)) ∧ w = w' := by
  have h0 : 0 ≤ k % 64 := by omega
  have h1 : k % 64 ≤ 63 := by omega
  have hs := mask64 k
  generalize k % 64 = s at *
  obtain ⟨n, rfl⟩ := Int.eq_ofNat_of_zero_le h0
  have ho := or64 x n hx (by omega)
  have H := Lib.hid ho
  clear ho
  go_enter Tryd.func88, Tryd.ntmps88
  go_wp2
  go_ret
  refine ⟨?_, rfl⟩
  simp [H.out]

theorem neg32 (k : Int) : (wrap64 (-k)) % 32 = (-k) % 32 := by unfold wrap64; omega
theorem neg64 (k : Int) : (wrap64 (-k)) % 64 = (-k) % 64 := by unfold wrap64; omega

theorem right64_any (x : Nat) (k : Int) (hx : x < 2 ^ 64) (w : World) : Calls Tryd.prog 87 #[.int .u64 (x : Int), .int .i64 k] w fun e w' => e = .returned (.int .u64 (rotl 64 x ((-k) % 64).toNat : Nat)) ∧ w = w' := by
  go_enter Tryd.func87, Tryd.ntmps87
  go_wp2_with (go_at_call 88; refine (rot64_any _ _ hx _).mono ?_; rintro e w' ⟨rfl, rfl⟩)
  go_ret
  refine ⟨?_, rfl⟩
  simp [neg64]

theorem tmod_cases (n : Int) (m : Nat) (hm : 0 < m) : ∃ s : Nat, s < m ∧ n % (m : Int) = s ∧ (n.tmod m = s ∨ (n.tmod m = (s : Int) - m ∧ 1 ≤ s)) := by
  have h0 : 0 ≤ n % (m : Int) := Int.emod_nonneg _ (by omega)
  have h1 : n % (m : Int) < m := Int.emod_lt_of_pos _ (by omega)
  obtain ⟨s, hs⟩ := Int.eq_ofNat_of_zero_le h0
  refine ⟨s, by omega, hs, ?_⟩
  rw [← hs, Int.tmod_eq_emod]
  by_cases h : 0 ≤ n ∨ (m : Int) ∣ n
  · left; simp [h]
  · right
    refine ⟨by simp [h], ?_⟩
    have : ¬ n % (m : Int) = 0 := fun e => h (.inr (Int.dvd_of_emod_eq_zero e))
    omega

end Go.Proofs.YtpampgkhjcfeaaaDoor
