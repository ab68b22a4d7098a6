/- Cube of package root, by its contract: the root of n times 2^96, of which the last 32 bits are told; or that n is no number whose root may be asked for. -/
import Derived.Test.YtfkokgcfjminiaaRtSquare
import Derived.Deep.RegionHeld3
namespace Go.Proofs.Ytfkokgcfjminiaa
open Go.RowKit

theorem cube_bad (n : Int) (h : ¬ (0 ≤ n ∧ n ≤ 1048576)) (w : World) : Calls Try.prog 12 #[.int .i64 n] w fun e w' => e = .returned (.tuple #[.int .u32 0, .int .i64 1]) ∧ w = w' := by
  have C := rooted_any n w
  rw [decide_eq_false h] at C
  have H := Lib.hid C
  clear C h
  go_enter Try.func12, Try.ntmps12
  go_wp2_with fail
  refine (H.out).mono ?_
  rintro e w' ⟨rfl, rfl⟩
  go_wp2
  go_ret2
  exact ⟨rfl, rfl⟩

/-- what is held of the world while the product of three is reckoned -/
def Kept (w0 : World) (m : Nat) (w' : World) : Prop := Two w' w0.heap.size m 0 ∧ Below w0.heap.size w0 w'
theorem Kept.step {w0 w1 w2 : World} {m : Nat} (h : Kept w0 m w1) (hb : Below w1.heap.size w1 w2) : Kept w0 m w2 := ⟨h.1.keep hb, h.2.trans (hb.mono h.2.size)⟩
theorem Kept.drew {w0 w1 : World} {m : Nat} (h : Kept w0 m w1) : Kept w0 m w1.drew := ⟨h.1, h.2.drew⟩
theorem Kept.cells {w0 w1 : World} {m : Nat} (h : Kept w0 m w1) : w1.cell? ⟨w0.heap.size, 0, none⟩ = some (.int .u64 (m : Int)) ∧ w1.cell? ⟨w0.heap.size, 1, none⟩ = some (.int .u64 0) := ⟨h.1.cells.1, h.1.cells.2.1⟩

theorem held_step {w0 w1 w2 : World} {m : Nat} (hb : Below w1.heap.size w1 w2) (h : w1.cell? ⟨w0.heap.size, 0, none⟩ = some (.int .u64 (m : Int)) ∧ w1.cell? ⟨w0.heap.size, 1, none⟩ = some (.int .u64 0) ∧ Kept w0 m w1) :
    w2.cell? ⟨w0.heap.size, 0, none⟩ = some (.int .u64 (m : Int)) ∧ w2.cell? ⟨w0.heap.size, 1, none⟩ = some (.int .u64 0) ∧ Kept w0 m w2 := ⟨(h.2.2.step hb).cells.1, (h.2.2.step hb).cells.2, h.2.2.step hb⟩
theorem held_first {w0 w1 : World} {m : Nat} (h : Kept w0 m w1) : w1.drew.cell? ⟨w0.heap.size, 0, none⟩ = some (.int .u64 (m : Int)) ∧ w1.drew.cell? ⟨w0.heap.size, 1, none⟩ = some (.int .u64 0) ∧ Kept w0 m w1.drew := ⟨h.cells.1, h.cells.2, h.drew⟩
theorem times_two (X : Nat) (hX : X < 549755813888) (w : World) : Calls Try.prog 23 #[.agg #[.int .u64 0, .int .u64 (X : Int)], .int .u64 (X : Int)] w fun e w' => ∃ h1 l1 : Nat, e = .returned (.agg #[.int .u64 (h1 : Int), .int .u64 (l1 : Int)]) ∧
    Hid (l1 < 18446744073709551616 ∧ h1 * 18446744073709551616 + l1 = X * X) ∧ Below w.heap.size w w' := by
  have hb := (cube_bound hX).1
  refine (times_any 0 X X (by omega) (by omega) (by rw [Nat.zero_mul, Nat.zero_add]; omega) w).mono ?_
  rintro e w' ⟨h1, l1, rfl, p1, p2, p3, p4⟩
  exact ⟨h1, l1, rfl, ⟨p2, by rw [p3, Nat.zero_mul, Nat.zero_add]⟩, p4⟩
theorem times_three (X h1 l1 : Nat) (hX : X < 549755813888) (h : Hid (l1 < 18446744073709551616 ∧ h1 * 18446744073709551616 + l1 = X * X)) (w : World) : Calls Try.prog 23 #[.agg #[.int .u64 (h1 : Int), .int .u64 (l1 : Int)], .int .u64 (X : Int)] w fun e w' => ∃ h2 l2 : Nat, e = .returned (.agg #[.int .u64 (h2 : Int), .int .u64 (l2 : Int)]) ∧
    Hid (l2 < 18446744073709551616 ∧ h2 * 18446744073709551616 + l2 = X * X * X) ∧ Below w.heap.size w w' := by
  have hb := (cube_bound hX).2
  refine (times_any h1 l1 X h.out.1 (by omega) (by rw [h.out.2]; omega) w).mono ?_
  rintro e w' ⟨h2, l2, rfl, p1, p2, p3, p4⟩
  exact ⟨h2, l2, rfl, ⟨p2, by rw [p3, h.out.2]⟩, p4⟩
theorem at_yes (N P m h2 l2 : Nat) (h : Hid (l2 < 18446744073709551616 ∧ h2 * 18446744073709551616 + l2 = P)) (hm : Hid (m * 18446744073709551616 = N)) (ht : Hid (P ≤ N)) (w : World) :
    Calls Try.prog 16 #[.agg #[.int .u64 (h2 : Int), .int .u64 (l2 : Int)], .agg #[.int .u64 (m : Int), .int .u64 0]] w fun e w' => e = .returned (.bool true) ∧ Below w.heap.size w w' :=
  atMost_yes h2 l2 m 0 h.out.1 (by omega) (by rw [h.out.2, hm.out]; exact ht.out) w
theorem at_no (N P m h2 l2 : Nat) (h : Hid (l2 < 18446744073709551616 ∧ h2 * 18446744073709551616 + l2 = P)) (hm : Hid (m * 18446744073709551616 = N)) (ht : Hid (¬ P ≤ N)) (w : World) :
    Calls Try.prog 16 #[.agg #[.int .u64 (h2 : Int), .int .u64 (l2 : Int)], .agg #[.int .u64 (m : Int), .int .u64 0]] w fun e w' => e = .returned (.bool false) ∧ Below w.heap.size w w' :=
  atMost_no h2 l2 m 0 h.out.1 (by omega) (by rw [h.out.2, hm.out]; exact ht.out) w

set_option maxHeartbeats 1600000 in
theorem cube_good (n : Nat) (h : n ≤ 1048576) (w : World) : Calls Try.prog 12 #[.int .i64 (n : Int)] w fun e w' => ∃ q c : Nat, e = .returned (.tuple #[.int .u32 (c : Int), .int .i64 0]) ∧ c < 4294967296 ∧
    (q * 4294967296 + c) * (q * 4294967296 + c) * (q * 4294967296 + c) ≤ n * 79228162514264337593543950336 ∧
    n * 79228162514264337593543950336 < (q * 4294967296 + c + 1) * (q * 4294967296 + c + 1) * (q * 4294967296 + c + 1) ∧ Below w.heap.size w w' := by
  have C := rooted_any n w
  rw [decide_eq_true (show 0 ≤ (n : Int) ∧ (n : Int) ≤ 1048576 from ⟨by omega, by omega⟩)] at C
  have H := Lib.hid C
  have S := Lib.hid (cb_start n h)
  clear C
  obtain ⟨m, hm, hm2⟩ : ∃ m : Nat, (n : Int) * 4294967296 = (m : Int) ∧ m = n * 4294967296 := ⟨n * 4294967296, by omega, rfl⟩
  have HM : Hid (m * 18446744073709551616 = n * 79228162514264337593543950336) := Lib.hid (by omega)
  clear hm2
  go_enter Try.func12, Try.ntmps12
  go_wp2_with fail
  refine (H.out).mono ?_
  rintro e w' ⟨rfl, rfl⟩
  go_wp2_with (fail)
  go_loopw [5, 6, 7, 15] (fun r _ _ i wr => ∃ k R : Nat, k ≤ 39 ∧ i = .int .i64 k ∧ r = .int .u64 R ∧ Hid (CbInv n k R) ∧ Kept w m wr) (fun _ _ _ i _ => 39 - (intOf i).toNat)
  case atStart => exact ⟨0, 0, by omega, rfl, rfl, S, Two.new w m 0, (Below.refl _ _).alloc (Nat.le_refl _) _⟩
  case round =>
    obtain ⟨k, R, hk, rfl, rfl, hS, hK⟩ := hrel
    by_cases hlt : k < 39
    · have hbt := cb_bit hS.out hlt
      obtain ⟨X, hX, hX2⟩ : ∃ X : Nat, bits .or .u64 (R : Int) (IntKind.u64.wrap ((2 : Int) ^ (38 - k))) = (X : Int) ∧ X = R + 2 ^ (38 - k) := ⟨R + 2 ^ (38 - k), by
        have hp : (2 : Int) ^ (38 - k) = ((2 ^ (38 - k) : Nat) : Int) := by rw [Int.natCast_pow]; rfl
        have hb2 := hbt.2
        generalize 2 ^ (38 - k) = Y at *
        rw [hp, IntKind.wrap_u64, Int.emod_eq_of_lt (by omega) (by omega), bits_or_u64_nat _ _ (by have := hS.out.2.1; omega) (by omega), hbt.1], rfl⟩
      have hT := cb_take hS.out hlt
      have hL := cb_leave hS.out hlt
      have hXb := hbt.2
      rw [← hX2] at hT hL hXb
      have HT := Lib.hid hT
      have HL := Lib.hid hL
      clear hT hL hbt hX2
      by_cases ht : X * X * X ≤ n * 79228162514264337593543950336
      · have HY := Lib.hid ht
        have hN := Lib.hid (HT.out ht)
        clear ht
        go_wp2
        go_region_held3 (fun w' => w'.cell? ⟨w.heap.size, 0, none⟩ = some (.int .u64 m) ∧ w'.cell? ⟨w.heap.size, 1, none⟩ = some (.int .u64 0) ∧ Kept w m w') (first | exact held_step k3 (by assumption) | exact held_step k2 (by assumption) | exact held_step k1 (by assumption) | exact held_first hK)
          (first
            | (go_at_call 23; with_reducible refine (times_two X hXb _).mono ?_; rintro e w1 ⟨h1, l1, rfl, p1, k1⟩)
            | (go_at_call 23; with_reducible refine (times_three X h1 l1 hXb p1 _).mono ?_; rintro e w1 ⟨h2, l2, rfl, p2, k2⟩)
            | (go_at_call 16; with_reducible refine (at_yes _ _ m h2 l2 p2 HM HY _).mono ?_; rintro e w1 ⟨rfl, k3⟩))
        have hK2 : Kept w m w1 := ((hK.drew.step k1).step k2).step k3
        clear k1 k2 k3
        go_wp2
        go_roundw
        case rel => exact ⟨k + 1, X, by omega, by go_num, rfl, hN, hK2⟩
        case measure => simp [intOf]; omega
      · have HY := Lib.hid ht
        have hN := Lib.hid (HL.out ht)
        clear ht
        go_wp2
        go_region_held3 (fun w' => w'.cell? ⟨w.heap.size, 0, none⟩ = some (.int .u64 m) ∧ w'.cell? ⟨w.heap.size, 1, none⟩ = some (.int .u64 0) ∧ Kept w m w') (first | exact held_step k3 (by assumption) | exact held_step k2 (by assumption) | exact held_step k1 (by assumption) | exact held_first hK)
          (first
            | (go_at_call 23; with_reducible refine (times_two X hXb _).mono ?_; rintro e w1 ⟨h1, l1, rfl, p1, k1⟩)
            | (go_at_call 23; with_reducible refine (times_three X h1 l1 hXb p1 _).mono ?_; rintro e w1 ⟨h2, l2, rfl, p2, k2⟩)
            | (go_at_call 16; with_reducible refine (at_no _ _ m h2 l2 p2 HM HY _).mono ?_; rintro e w1 ⟨rfl, k3⟩))
        have hK2 : Kept w m w1 := ((hK.drew.step k1).step k2).step k3
        clear k1 k2 k3
        go_wp2
        go_roundw
        case rel => exact ⟨k + 1, R, by omega, by go_num, rfl, hN, hK2⟩
        case measure => simp [intOf]; omega
    · obtain rfl : k = 39 := by omega
      obtain ⟨q1, q2, q3⟩ := cb_end hS.out
      obtain ⟨c, hc, hc2⟩ : ∃ c : Nat, IntKind.u32.wrap (R : Int) = (c : Int) ∧ c = R % 4294967296 := ⟨R % 4294967296, by rw [IntKind.wrap_u32]; omega, rfl⟩
      have hR : R = R / 4294967296 * 4294967296 + c := by omega
      have hc3 : c < 4294967296 := by omega
      rw [hR] at q2 q3
      have Q := Lib.hid (And.intro q2 q3)
      have hb := hK.2
      clear hR q2 q3 hc2
      go_wp2
      go_ret2
      exact ⟨R / 4294967296, c, rfl, hc3, Q.out.1, Q.out.2, hb⟩
end Go.Proofs.Ytfkokgcfjminiaa
