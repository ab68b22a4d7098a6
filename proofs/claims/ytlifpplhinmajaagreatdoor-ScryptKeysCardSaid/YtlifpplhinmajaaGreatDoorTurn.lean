/- The words that are turned: RotateLeft32, RotateLeft64, Left32, Right32, Right64 of package words, and the document's Left and Right, by their contracts. Conditions: the word fits its kind, n is an int. -/
import Derived.Test.YtlifpplhinmajaaGreatDoorRows
import Derived.WalkKit
import Derived.ProofKit
import Derived.LoopTactic
import Derived.IntWalk
import Derived.Lib.Hide
import Derived.Test.YtlifpplhinmajaaGreatDoorPu
namespace Go.Proofs.YtlifpplhinmajaaGreatDoor
set_option maxRecDepth 50000
open Go.RowKit Rot

theorem rot32_any (x : Nat) (k : Int) (hx : x < 2 ^ 32) (w : World) : Calls Tryz.prog 134 #[.int .u32 (x : Int), .int .i64 k] w fun e w' => e = .returned (.int .u32 (rotl 32 x (k % 32).toNat : Nat)) ∧ w = w' := by
  have h0 : 0 ≤ k % 32 := by omega
  have h1 : k % 32 ≤ 31 := by omega
  have hs := mask32 k
  generalize k % 32 = s at *
  obtain ⟨n, rfl⟩ := Int.eq_ofNat_of_zero_le h0
  have ho := or32 x n hx (by omega)
  have H := Lib.hid ho
  clear ho
  go_enter Tryz.func134, Tryz.ntmps134
  go_wp2
  go_ret
  refine ⟨?_, rfl⟩
  simp [H.out]

theorem left32_any (x : Nat) (k : Int) (hx : x < 2 ^ 32) (w : World) : Calls Tryz.prog 141 #[.int .u32 (x : Int), .int .i64 k] w fun e w' => e = .returned (.int .u32 (rotl 32 x (k % 32).toNat : Nat)) ∧ w = w' := by
  go_enter Tryz.func141, Tryz.ntmps141
  go_wp2_with (go_at_call 134; refine (rot32_any _ _ hx _).mono ?_; rintro e w' ⟨rfl, rfl⟩)
  go_ret
  exact ⟨rfl, rfl⟩

theorem neg32 (k : Int) : (wrap64 (-k)) % 32 = (-k) % 32 := by unfold wrap64; omega
theorem neg64 (k : Int) : (wrap64 (-k)) % 64 = (-k) % 64 := by unfold wrap64; omega

theorem right32_any (x : Nat) (k : Int) (hx : x < 2 ^ 32) (w : World) : Calls Tryz.prog 125 #[.int .u32 (x : Int), .int .i64 k] w fun e w' => e = .returned (.int .u32 (rotl 32 x ((-k) % 32).toNat : Nat)) ∧ w = w' := by
  go_enter Tryz.func125, Tryz.ntmps125
  go_wp2_with (go_at_call 134; refine (rot32_any _ _ hx _).mono ?_; rintro e w' ⟨rfl, rfl⟩)
  go_ret
  refine ⟨?_, rfl⟩
  simp [neg32]

theorem tmod_cases (n : Int) (m : Nat) (hm : 0 < m) : ∃ s : Nat, s < m ∧ n % (m : Int) = s ∧ (n.tmod m = s ∨ (n.tmod m = (s : Int) - m ∧ 1 ≤ s)) := by
  have h0 : 0 ≤ n % (m : Int) := Int.emod_nonneg _ (by omega)
  have h1 : n % (m : Int) < m := Int.emod_lt_of_pos _ (by omega)
  obtain ⟨s, hs⟩ := Int.eq_ofNat_of_zero_le h0
  refine ⟨s, by omega, hs, ?_⟩
  rw [← hs, Int.tmod_eq_emod]
  by_cases h : 0 ≤ n ∨ (m : Int) ∣ n
  · left; simp [h]
  · right
    refine ⟨by simp [h], ?_⟩
    have : ¬ n % (m : Int) = 0 := fun e => h (.inr (Int.dvd_of_emod_eq_zero e))
    omega

set_option maxHeartbeats 800000 in
theorem refleft_any (x : Nat) (n : Int) (w : World) (hx : x < 2 ^ 32) : Calls Tryz.prog 132 #[.int .u32 (x : Int), .int .i64 n] w fun e w' => e = .returned (.int .u32 (rotl 32 x (n % 32).toNat : Nat)) ∧ w = w' := by
  obtain ⟨s, hs1, hs, ht0⟩ := tmod_cases n 32 (by omega)
  have ht : n.tmod 32 = (s : Int) ∨ (n.tmod 32 = (s : Int) - 32 ∧ 1 ≤ s) := ht0
  clear ht0
  have Hs := Lib.hid hs
  clear hs
  have hz := rotl_zero 32 x hx
  have Hz := Lib.hid hz
  clear hz
  have hx2 : x ≤ 4294967295 := by omega
  rcases ht with ht | ⟨ht, hs2⟩
  all_goals
    go_enter Tryz.func132, Tryz.ntmps132
    go_wp2
    go_loop [0, 6] (fun v i => ∃ k : Nat, k ≤ s ∧ i = .int .i64 k ∧ v = .int .u32 (rotl 32 x k : Nat)) (fun _ i => s - (intOf i).toNat)
    case atStart => exact ⟨0, Nat.zero_le _, rfl, by rw [Hz.out]⟩
    case round =>
      obtain ⟨k, hk, rfl, rfl⟩ := hrel
      have hy := rotl_lt 32 x k (by omega) hx
      by_cases hlt : k < s
      · have hn := left_next x k (by omega) hx
        rw [step_left] at hn
        have Hn := Lib.hid hn
        clear hn
        generalize rotl 32 x k = y at *
        have hy2 : y ≤ 4294967295 := by omega
        go_wp2
        go_round
        case rel => exact ⟨k + 1, by omega, by go_num, by rw [← Hn.out]; simp⟩
        case measure => simp [intOf]; omega
      · obtain rfl : k = s := by omega
        go_wp2
        go_ret
        exact ⟨by have := Hs.out; simp at this; simp [this], rfl⟩

end Go.Proofs.YtlifpplhinmajaaGreatDoor
