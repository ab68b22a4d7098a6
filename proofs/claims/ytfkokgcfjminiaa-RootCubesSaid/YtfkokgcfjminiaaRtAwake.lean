/- The law file's awake: the chapter's example holds. No condition. -/
import Derived.Test.YtfkokgcfjminiaaRtFirsts
import Derived.Test.YtfkokgcfjminiaaRtCube
namespace Go.Proofs.Ytfkokgcfjminiaa
open Go.RowKit

theorem step_trans {a b c : World} (h : Below a.heap.size a b) (k : Below b.heap.size b c) : Below a.heap.size a c := h.trans (k.mono h.size)
theorem square_two {rh rl : Nat} (h : rl < 18446744073709551616) (h1 : (rh * 18446744073709551616 + rl) * (rh * 18446744073709551616 + rl) ≤ 2 * 340282366920938463463374607431768211456)
    (h2 : 2 * 340282366920938463463374607431768211456 < (rh * 18446744073709551616 + rl + 1) * (rh * 18446744073709551616 + rl + 1)) : rl = 7640891576956012808 := by
  have e1 := sq_one h1 (b := 26087635650665564424) (by decide)
  have e2 := sq_one (a := 26087635650665564424) (by decide) h2
  omega
theorem cube_two {q c : Nat} (h : c < 4294967296) (h1 : (q * 4294967296 + c) * (q * 4294967296 + c) * (q * 4294967296 + c) ≤ 2 * 79228162514264337593543950336)
    (h2 : 2 * 79228162514264337593543950336 < (q * 4294967296 + c + 1) * (q * 4294967296 + c + 1) * (q * 4294967296 + c + 1)) : c = 1116352408 := by
  have e1 := cb_one h1 (b := 5411319704) (by decide)
  have e2 := cb_one (a := 5411319704) (by decide) h2
  omega
theorem square_of_two (w : World) : Calls Try.prog 10 #[.int .i64 2] w fun e w' => e = .returned (.tuple #[.int .u64 7640891576956012808, .int .i64 0]) ∧ Below w.heap.size w w' := by
  refine (square_good 2 (by omega) w).mono ?_
  rintro e w' ⟨rh, rl, rfl, h1, h2, h3, hb⟩
  obtain rfl := square_two h1 h2 h3
  exact ⟨rfl, hb⟩
theorem cube_of_two (w : World) : Calls Try.prog 12 #[.int .i64 2] w fun e w' => e = .returned (.tuple #[.int .u32 1116352408, .int .i64 0]) ∧ Below w.heap.size w w' := by
  refine (cube_good 2 (by omega) w).mono ?_
  rintro e w' ⟨q, c, rfl, h1, h2, h3, hb⟩
  obtain rfl := cube_two h1 h2 h3
  exact ⟨rfl, hb⟩
theorem primes_of_four (w : World) : Calls Try.prog 8 #[.int .i64 4] w fun e w' => ∃ b off c, e = .returned (.tuple #[.slice (some ⟨b, off, none⟩) 4 c, .int .i64 0]) ∧ b < w'.heap.size ∧ w'.cell? ⟨b, off + 3, none⟩ = some (.int .i64 7) ∧ Below w.heap.size w w' := by
  refine (primes_good 4 (by omega) w).mono ?_
  rintro e w' ⟨v, rfl, hown, hb⟩
  obtain ⟨A, c, rfl, _, _, _⟩ := own_form hown
  have hR := Reads.of_own hown
  have e4 : firstP 4 = [2, 3, 5, 7] := by decide +kernel
  rw [e4] at hR
  obtain ⟨b, off, rfl, hlt, hcell⟩ := hR 3 (by simp [ints])
  exact ⟨b, off, c, rfl, hlt, hcell, hb⟩

set_option maxHeartbeats 800000 in
theorem awake_any (w : World) : Calls Try.prog 7 #[] w fun e w' => e = .returned (.bool true) ∧ Below w.heap.size w w' := by
  have P := Lib.hid fun w => primes_of_four w
  have S := Lib.hid fun w => square_of_two w
  have C := Lib.hid fun w => cube_of_two w
  go_enter Try.func7, Try.ntmps7
  go_wp2_with fail
  refine (P.out _).mono ?_
  rintro e w1 ⟨b, off, c, rfl, hlt, hcell, hb⟩
  go_wp2_with fail
  refine (S.out _).mono ?_
  rintro e w2 ⟨rfl, hb2⟩
  have hcell2 := (hb2.cell (p := ⟨b, off + 3, none⟩) hlt).trans hcell
  have hlt2 := Nat.lt_of_lt_of_le hlt hb2.size
  have b2 := step_trans hb hb2
  clear hcell hlt hb hb2
  go_wp2_with fail
  refine (C.out _).mono ?_
  rintro e w3 ⟨rfl, hb3⟩
  have hcell3 := (hb3.cell (p := ⟨b, off + 3, none⟩) hlt2).trans hcell2
  have b3 := step_trans b2 hb3
  clear hcell2 hlt2 b2 hb3
  go_wp2
  go_ret
  exact ⟨rfl, b3⟩
end Go.Proofs.Ytfkokgcfjminiaa
