/- math/bits.Div64 by its contract, where the low word is 0 and the number that divides is small. Conditions: those typed. -/
import Derived.Test.YtggdfmapddpafaaPiLib
import Derived.Test.YtggdfmapddpafaaPiSer
import Derived.Laws.Bits64b
import Derived.BigQuiet
namespace Go.Proofs.Ytggdfmapddpafaa
set_option maxRecDepth 50000
open Go.RowKit Pi16

/-- a number's bits: it lies between two powers -/
theorem bitLen_between : ∀ (b x : Nat), x < 2 ^ b → b ≤ 64 → x ≠ 0 → Lib.bitLen x ≤ b ∧ 1 ≤ Lib.bitLen x ∧ 2 ^ (Lib.bitLen x - 1) ≤ x ∧ x < 2 ^ Lib.bitLen x
  | 0, x, h, _, h0 => by simp at h; omega
  | b + 1, x, h, hb, h0 => by
    have hx64 : x < 2 ^ 64 := Nat.lt_of_lt_of_le h (Nat.pow_le_pow_right (by decide) hb)
    rw [Lib.bitLen_half x h0 hx64]
    by_cases h2 : x / 2 = 0
    · have hz : Lib.bitLen 0 = 0 := by decide
      rw [h2, hz]
      omega
    · obtain ⟨k1, k2, k3, k4⟩ := bitLen_between b (x / 2) (by rw [Nat.pow_succ] at h; omega) (by omega) h2
      generalize Lib.bitLen (x / 2) = l at *
      obtain ⟨m, rfl⟩ : ∃ m, l = m + 1 := ⟨l - 1, by omega⟩
      rw [Nat.add_sub_cancel] at k3
      rw [Nat.add_comm 1 (m + 1), Nat.add_sub_cancel, Nat.pow_succ 2 (m + 1), Nat.pow_succ 2 m]
      rw [Nat.pow_succ] at k4
      omega
/-- what Div64 reckons on the way -/
structure DivN (h y s a U q1 R q0 : Nat) : Prop where
  ys : y * 2 ^ s = a * 4294967296
  ab : 2147483648 ≤ a ∧ a < 4294967296
  hU : h * 2 ^ s = U
  Ub : U < 18446744073709551616
  hq1 : U / a = q1
  q1b : q1 < 4294967296
  hR : U = q1 * a + R
  Rb : R < a
  hq0 : 4294967296 * R / a = q0
  q0b : q0 < 4294967296
  Q : q1 * 4294967296 + q0 = h * 18446744073709551616 / y
  s1 : 32 ≤ s
  s2 : s ≤ 63
  Qb : h * 18446744073709551616 / y < 18446744073709551616
theorem two_steps (T a K : Nat) (ha0 : 0 < a) : T / a * K + K * (T % a) / a = T * K / a := by
  have e3 : T * K = a * (T / a * K) + K * (T % a) := by
    rw [← Nat.mul_assoc, Nat.mul_comm K, ← Nat.add_mul, Nat.div_add_mod]
  rw [e3, Nat.mul_add_div ha0]
theorem divN (h y s : Nat) (hy0 : y ≠ 0) (hy : y < 1048576) (hs : s = 64 - Lib.bitLen y) (hh : h < y) : ∃ a U q1 R q0, DivN h y s a U q1 R q0 := by
  obtain ⟨k1, k2, k3, k4⟩ := bitLen_between 20 y hy (by decide) hy0
  generalize Lib.bitLen y = l at *
  obtain ⟨m, rfl⟩ : ∃ m, s = m + 32 := ⟨s - 32, by omega⟩
  have hs2 : 2 ^ (m + 32) = 2 ^ m * 4294967296 := Nat.pow_add 2 m 32
  have e1 : 2 ^ (l - 1) * 2 ^ m = 2147483648 := by rw [← Nat.pow_add, show l - 1 + m = 31 by omega]
  have e2 : 2 ^ l * 2 ^ m = 4294967296 := by rw [← Nat.pow_add, show l + m = 32 by omega]
  have p0 : 0 < 2 ^ m := Nat.pow_pos (by decide)
  have a1 : 2147483648 ≤ y * 2 ^ m := by rw [← e1]; exact Nat.mul_le_mul_right _ k3
  have a2 : y * 2 ^ m < 4294967296 := by rw [← e2]; exact Nat.mul_lt_mul_of_pos_right k4 p0
  have hU : h * 2 ^ (m + 32) = h * 2 ^ m * 4294967296 := by rw [hs2, Nat.mul_assoc]
  have hlt : h * 2 ^ m < y * 2 ^ m := Nat.mul_lt_mul_of_pos_right hh p0
  have hYs : y * 2 ^ (m + 32) = y * 2 ^ m * 4294967296 := by rw [hs2, Nat.mul_assoc]
  have hq : h * 18446744073709551616 / y = h * 2 ^ m * 18446744073709551616 / (y * 2 ^ m) := by
    rw [Nat.mul_right_comm h (2 ^ m), Nat.mul_div_mul_right _ _ p0]
  generalize y * 2 ^ m = a at *
  generalize h * 2 ^ m = t at *
  have ha0 : 0 < a := by omega
  have hd := Nat.div_add_mod (t * 4294967296) a
  have hr := Nat.mod_lt (t * 4294967296) ha0
  have hql : t * 4294967296 / a < 4294967296 := by rw [Nat.div_lt_iff_lt_mul ha0]; omega
  have hq0 : 4294967296 * (t * 4294967296 % a) / a < 4294967296 := by rw [Nat.div_lt_iff_lt_mul ha0]; omega
  have hq1 : t * 4294967296 / a * a + t * 4294967296 % a = t * 4294967296 := by rw [Nat.mul_comm _ a]; exact hd
  have hQ : t * 4294967296 / a * 4294967296 + 4294967296 * (t * 4294967296 % a) / a = t * 18446744073709551616 / a := by
    rw [show t * 18446744073709551616 = t * 4294967296 * 4294967296 from (Nat.mul_assoc t 4294967296 4294967296).symm]
    exact two_steps _ _ _ ha0
  refine ⟨a, t * 4294967296, t * 4294967296 / a, t * 4294967296 % a, 4294967296 * (t * 4294967296 % a) / a, ?_⟩
  refine ⟨hYs, ⟨a1, a2⟩, hU, by omega, rfl, hql, hq1.symm, hr, rfl, hq0, ?_, by omega, by omega, ?_⟩
  · rw [hq]; exact hQ
  · rw [hq, Nat.div_lt_iff_lt_mul ha0]
    omega
set_option maxHeartbeats 1600000 in
theorem div64_zero (y : Nat) (hy0 : y ≠ 0) (w : World) : Calls Try.prog 16 #[.int .u64 0, .int .u64 0, .int .u64 (y : Int)] w fun e w' => ∃ r : Int, e = .returned (.tuple #[.int .u64 0, .int .u64 r]) ∧ Below w.heap.size w w' := by
  have h1 : ¬ (y : Int) ≤ 0 := by omega
  have h2 : (y : Int) ≠ 0 := by omega
  go_enter Try.func16, Try.ntmps16
  go_wp2
  go_quiet (fail)
  go_wp2
  go_ret2
  exact ⟨_, rfl, have h := Below.refl w.heap.size w; ⟨h.os, h.tape, h.output, h.size, h.block⟩⟩
set_option maxHeartbeats 1600000 in
theorem div64_any (h y : Nat) (hh0 : h ≠ 0) (hh : h < y) (hy : y < 1048576) (w : World) : Calls Try.prog 16 #[.int .u64 (h : Int), .int .u64 0, .int .u64 (y : Int)] w fun e w' => ∃ r : Int, e = .returned (.tuple #[.int .u64 ((h * 18446744073709551616 / y : Nat) : Int), .int .u64 r]) ∧ w' = w := by
  obtain ⟨Q, hQ⟩ : ∃ Q, Q = h * 18446744073709551616 / y := ⟨_, rfl⟩
  rw [← hQ]
  obtain ⟨s, hs⟩ : ∃ s, s = 64 - Lib.bitLen y := ⟨_, rfl⟩
  obtain ⟨a, U, q1, R, q0, D⟩ := divN h y s (by omega) hy hs hh
  have CL := Lib.hid (bits_LeadingZeros64 (y : Int) w (by omega) (by omega))
  have hl : (64 - (Lib.bitLen (y : Int).toNat : Int)) = (s : Int) := by
    obtain ⟨k1, _⟩ := bitLen_between 20 y hy (by decide) (by omega)
    rw [Int.toNat_natCast]; omega
  rw [hl] at CL
  clear hl hs
  obtain ⟨ys, ab, hU, Ub, hq1, q1b, hR, Rb, hq0, q0b, hQ2, s1, s2, Qb⟩ := D
  rw [← hQ] at hQ2 Qb
  have n1 : ¬ (y : Int) ≤ (h : Int) := by omega
  have n2 : (y : Int) ≠ 0 := by omega
  have n3 : (h : Int) ≠ 0 := by omega
  have HQ : Hid ((q1 : Int) * 4294967296 + (q0 : Int) = (Q : Int)) := Lib.hid (by omega)
  obtain ⟨Y, hY⟩ : ∃ Y, Y = a * 4294967296 := ⟨_, rfl⟩
  obtain ⟨p1, hp1⟩ : ∃ p, p = q1 * a := ⟨_, rfl⟩
  obtain ⟨p0, hp0⟩ : ∃ p, p = q0 * a := ⟨_, rfl⟩
  obtain ⟨T, hT⟩ : ∃ T, T = 4294967296 * R := ⟨_, rfl⟩
  obtain ⟨R0, hR0⟩ : ∃ R, R = T % a := ⟨_, rfl⟩
  obtain ⟨V, hV⟩ : ∃ V, V = U * 4294967296 % 18446744073709551616 := ⟨_, rfl⟩
  obtain ⟨Z, hZ⟩ : ∃ Z, Z = q1 * Y % 18446744073709551616 := ⟨_, rfl⟩
  rw [← hT] at hq0
  have hd0 : p0 + R0 = T := by rw [hp0, hR0, ← hq0, Nat.mul_comm]; exact Nat.div_add_mod T a
  have hR0b : R0 < a := by rw [hR0]; exact Nat.mod_lt _ (by omega)
  have hp1Y : q1 * Y = p1 * 4294967296 := by rw [hY, hp1, Nat.mul_assoc]
  rw [← hp1] at hR
  have fY : IntKind.u64.wrap ((y : Int) * 2 ^ s) = (Y : Int) := u64is _ _ (by rw [hY, ← ys, Int.natCast_mul, Int.natCast_pow]; rfl) (by omega)
  have fU : IntKind.u64.wrap ((h : Int) * 2 ^ s) = (U : Int) := u64is _ _ (by rw [← hU, Int.natCast_mul, Int.natCast_pow]; rfl) Ub
  have fa : (Y : Int) / 4294967296 = (a : Int) := by omega
  have fn0 : bits .and .u64 (Y : Int) 4294967295 = 0 := by
    have e := bits_and_u64_nat Y 4294967295 (by omega) (by decide)
    have e2 : Y &&& 4294967295 = Y % 4294967296 := Nat.and_two_pow_sub_one_eq_mod Y 32
    have e3 : Y % 4294967296 = 0 := by omega
    rw [e2, e3] at e
    exact e
  have f00 : bits .and .u64 0 4294967295 = 0 := by decide
  have fUo : bits .or .u64 (U : Int) 0 = (U : Int) := by
    have e := bits_or_u64_nat U 0 Ub (by decide)
    rw [Nat.or_zero] at e
    exact e
  have fq1 : (U : Int).tdiv (a : Int) = (q1 : Int) := by rw [← hq1]; rfl
  have fq1' : (U : Int) / (a : Int) = (q1 : Int) := by rw [← hq1]; rfl
  have fp1 : (q1 : Int) * (a : Int) = (p1 : Int) := by rw [hp1, Int.natCast_mul]
  have fR : (U : Int) - (p1 : Int) = (R : Int) := by omega
  have fV : IntKind.u64.wrap ((U : Int) * 4294967296) = (V : Int) := by
    have e : ∀ z : Int, IntKind.u64.wrap z = z % 18446744073709551616 := fun z => by simp [IntKind.wrap, IntKind.bits, IntKind.signed]
    rw [e]; omega
  have fZ : IntKind.u64.wrap ((q1 : Int) * (Y : Int)) = (Z : Int) := by
    have e : ∀ z : Int, IntKind.u64.wrap z = z % 18446744073709551616 := fun z => by simp [IntKind.wrap, IntKind.bits, IntKind.signed]
    rw [e, ← Int.natCast_mul]; omega
  have fT : IntKind.u64.wrap ((V : Int) - (Z : Int)) = (T : Int) := by
    have e : ∀ z : Int, IntKind.u64.wrap z = z % 18446744073709551616 := fun z => by simp [IntKind.wrap, IntKind.bits, IntKind.signed]
    rw [e]; omega
  have fq0 : (T : Int).tdiv (a : Int) = (q0 : Int) := by rw [← hq0]; rfl
  have fq0' : (T : Int) / (a : Int) = (q0 : Int) := by rw [← hq0]; rfl
  have fp0 : (q0 : Int) * (a : Int) = (p0 : Int) := by rw [hp0, Int.natCast_mul]
  have fR0 : (T : Int) - (p0 : Int) = (R0 : Int) := by omega
  have ga : (a : Int) ≠ 0 := by omega
  have d1 : decide ((4294967296 : Int) ≤ (q1 : Int)) = false := by simp; omega
  have d2 : decide ((4294967296 : Int) ≤ (q0 : Int)) = false := by simp; omega
  have d3 : decide ((4294967296 : Int) * (R : Int) < 0) = false := by simp; omega
  have d4 : decide ((4294967296 : Int) * (R0 : Int) < 0) = false := by simp; omega
  have b1 : p1 ≤ U := by omega
  have b2 : p0 ≤ T := by omega
  have b3 : T < 18446744073709551616 := by omega
  have b4 : V < 18446744073709551616 := by omega
  have b5 : Z < 18446744073709551616 := by omega
  have b6 : Y < 18446744073709551616 := by omega
  have hQ3 : (q1 : Int) * 4294967296 + (q0 : Int) = (Q : Int) := HQ.out
  clear hQ2 hR hq1 hq0 ys hU hQ HQ hY hp1 hp0 hT hR0 hV hZ hd0 hp1Y
  go_enter Try.func16, Try.ntmps16
  go_wp2_with fail
  refine CL.out.mono ?_
  rintro e w1 ⟨rfl, rfl⟩
  go_wp2
  go_loopg [15, 16] 0 (fun _ v15 v16 wr => v15 = .int .u64 (q1 : Int) ∧ v16 = .int .u64 (R : Int) ∧ wr = w1)
  case atStart => exact ⟨rfl, rfl, rfl⟩
  case round =>
    obtain ⟨rfl, rfl, rfl⟩ := hrel
    go_wp2
    go_loopg [18, 16] 0 (fun _ v18 v16 wz => v18 = .int .u64 (q0 : Int) ∧ v16 = .int .u64 (R0 : Int) ∧ wz = wr)
    case atStart => exact ⟨rfl, rfl, rfl⟩
    case round =>
      obtain ⟨rfl, rfl, rfl⟩ := hrel
      go_wp2
      go_ret2
      exact ⟨_, rfl, rfl⟩
theorem div64_all (h y : Nat) (hh : h < y) (hy : y < 1048576) (w : World) : Calls Try.prog 16 #[.int .u64 (h : Int), .int .u64 0, .int .u64 (y : Int)] w fun e w' => ∃ r : Int, e = .returned (.tuple #[.int .u64 ((h * 18446744073709551616 / y : Nat) : Int), .int .u64 r]) ∧ Below w.heap.size w w' := by
  by_cases h0 : h = 0
  · subst h0
    rw [Nat.zero_mul, Nat.zero_div]
    exact div64_zero y (by omega) w
  · exact (div64_any h y h0 hh hy w).mono fun e w' ⟨r, he, hw⟩ => ⟨r, he, by rw [hw]; exact Below.refl _ _⟩
end Go.Proofs.Ytggdfmapddpafaa
