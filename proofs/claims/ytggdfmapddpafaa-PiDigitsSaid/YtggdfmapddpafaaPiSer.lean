/- The document's series and Digit by their contracts. Conditions: those typed. -/
import Derived.Test.YtggdfmapddpafaaPiRef
namespace Go.Proofs.Ytggdfmapddpafaa
set_option maxRecDepth 50000
open Go.RowKit Pi16

/-- the part of a fraction is what its great numerator's quotient leaves -/
theorem part_term (x m : Nat) (hm : 0 < m) : 1152921504606846976 * (x % m) / m = 1152921504606846976 * x / m % 1152921504606846976 := by
  have h := Nat.div_add_mod x m
  have hr := Nat.mod_lt x hm
  generalize x / m = q at *
  generalize x % m = r at *
  subst h
  have e : 1152921504606846976 * (m * q + r) = m * (1152921504606846976 * q) + 1152921504606846976 * r := by
    rw [Nat.mul_add, Nat.mul_left_comm]
  rw [e, Nat.mul_add_div hm, Nat.mul_add_mod]
  refine (Nat.mod_eq_of_lt ?_).symm
  rw [Nat.div_lt_iff_lt_mul hm]
  exact Nat.mul_lt_mul_of_pos_left hr (by decide)
def tm (f n k : Nat) : Nat := 16 ^ (n + 15 - k) / (8 * k + f)
theorem tm_low (f n k : Nat) (hf : 0 < f) (hk : k ≤ n) : 1152921504606846976 * (16 ^ (n - k) % (8 * k + f)) / (8 * k + f) = tm f n k % 1152921504606846976 := by
  rw [part_term _ _ (by omega)]
  unfold tm
  rw [show n + 15 - k = 15 + (n - k) by omega, Nat.pow_add]
theorem tm_high (f n j : Nat) (hj : j < 15) : 72057594037927936 / 16 ^ j / (8 * (n + 1 + j) + f) = tm f n (n + 1 + j) := by
  unfold tm
  rw [show n + 15 - (n + 1 + j) = 14 - j by omega, show (72057594037927936 : Nat) = 16 ^ 14 from rfl, Nat.pow_div (by omega) (by decide)]
theorem ser_tm (f n : Nat) : ser f (n + 15) = sumTo (tm f n) (n + 1 + 15) := rfl

set_option maxHeartbeats 3200000 in
theorem series_any (n f : Nat) (hn : n ≤ 8335) (hf0 : 0 < f) (hf : f ≤ 6) (w : World) : Calls Try.prog 14 #[.int .i64 (n : Int), .int .i64 (f : Int)] w fun e w' => e = .returned (.int .u64 ((ser f (n + 15) % 1152921504606846976 : Nat) : Int)) ∧ w' = w := by
  obtain ⟨R, hR⟩ : ∃ R, R = ser f (n + 15) % 1152921504606846976 := ⟨_, rfl⟩
  rw [← hR]
  have HR := Lib.hid hR
  clear hR
  go_enter Try.func14, Try.ntmps14
  go_wp2
  go_loopg [5, 6] (n + 1) (fun g v5 v6 wr => ∃ k s : Nat, k + g = n + 1 ∧ v5 = .int .u64 (s : Int) ∧ v6 = .int .i64 (k : Int) ∧ s < 1152921504606846976 ∧ Hid (s = sumTo (tm f n) k % 1152921504606846976) ∧ wr = w)
  case atStart => exact ⟨0, 0, by omega, rfl, rfl, by decide, Lib.hid (by simp [sumTo]), rfl⟩
  case round =>
    obtain ⟨k, s, hk, rfl, rfl, hs, HI, rfl⟩ := hrel
    by_cases h : k < n + 1
    · obtain ⟨g2, rfl⟩ : ∃ g2, gk = g2 + 1 := ⟨gk - 1, by omega⟩
      obtain ⟨m, hm⟩ : ∃ m, m = 8 * k + f := ⟨_, rfl⟩
      obtain ⟨d, hd⟩ : ∃ d, d = n - k := ⟨_, rfl⟩
      have hkn : (k : Int) ≤ (n : Int) := by omega
      have hkn2 : k ≤ n := by omega
      have hkb : k ≤ 8335 := by omega
      have m1 : (8 : Int) * (k : Int) + (f : Int) = (m : Int) := by omega
      have m2 : m ≤ 66700 := by omega
      have m3 := u64w m (by omega)
      have d1 : (n : Int) - (k : Int) = (d : Int) := by omega
      have d2 : d ≤ 8335 := by omega
      obtain ⟨r, hr⟩ : ∃ r, r = 16 ^ d % m := ⟨_, rfl⟩
      have hrm : r < m := by rw [hr]; exact Nat.mod_lt _ (by omega)
      have CP := Lib.hid (power_any d m (by omega) (by omega) (by omega) wr)
      rw [← hr] at CP
      obtain ⟨p, hp⟩ : ∃ p, p = 1152921504606846976 * r / m := ⟨_, rfl⟩
      have CQ := Lib.hid (part_any r m hrm (by omega) wr)
      rw [← hp] at CQ
      have hpt : p = tm f n k % 1152921504606846976 := by rw [hp, hr, hd, hm]; exact tm_low f n k hf0 hkn2
      have hpb : p < 1152921504606846976 := by rw [hpt]; exact Nat.mod_lt _ (by decide)
      obtain ⟨t, ht⟩ : ∃ t, t = s + p := ⟨_, rfl⟩
      have t1 : (s : Int) + (p : Int) = (t : Int) := by omega
      have t2 := u64w t (by omega)
      obtain ⟨s', hs'⟩ : ∃ s', s' = t % 1152921504606846976 := ⟨_, rfl⟩
      have t3 : (t : Int) % 1152921504606846976 = (s' : Int) := by rw [hs']; rfl
      have HN : Hid (s' = sumTo (tm f n) (k + 1) % 1152921504606846976) := Lib.hid (by
        rw [hs', ht, sumTo, HI.out, hpt, ← Nat.add_mod])
      have hsb : s' < 1152921504606846976 := by rw [hs']; exact Nat.mod_lt _ (by decide)
      have HJ := Lib.hid hk
      clear hm hd hr hp hpt ht hs' HI hk h hrm
      go_wp2_with fail
      refine CP.out.mono ?_
      rintro e w1 ⟨rfl, rfl⟩
      go_wp2_with fail
      refine CQ.out.mono ?_
      rintro e w1 ⟨rfl, rfl⟩
      go_wp2
      go_roundg g2
      case measure => omega
      case rel => exact ⟨k + 1, s', by have := HJ.out; omega, by rw [t3], by go_num, hsb, HN, rfl⟩
    · obtain rfl : k = n + 1 := by omega
      have hkn : ¬ ((n + 1 : Nat) : Int) ≤ (n : Int) := by omega
      have hdk : decide (((n + 1 : Nat) : Int) ≤ (n : Int)) = false := by simp; omega
      clear hk h
      go_wp2
      go_loopg [5, 8, 9] 15 (fun g v5 v8 v9 wz => ∃ j s l k : Nat, j + g = 15 ∧ v5 = .int .u64 (s : Int) ∧ v8 = .int .u64 (l : Int) ∧ v9 = .int .i64 (k : Int) ∧ Hid (k = n + 1 + j) ∧ s < 1152921504606846976 ∧ Hid (l = 72057594037927936 / 16 ^ j) ∧ Hid (s = sumTo (tm f n) (n + 1 + j) % 1152921504606846976) ∧ wz = wr)
      case atStart => exact ⟨0, s, 72057594037927936, n + 1, by omega, rfl, rfl, rfl, Lib.hid rfl, hs, Lib.hid rfl, HI, rfl⟩
      case round =>
        obtain ⟨j, s, l, k, hj, rfl, rfl, rfl, HK, hs, HL, HI, rfl⟩ := hrel
        have hl := HL.out
        by_cases h : j < 15
        · obtain ⟨g2, rfl⟩ : ∃ g2, gk = g2 + 1 := ⟨gk - 1, by omega⟩
          have hk := HK.out
          obtain ⟨m, hm⟩ : ∃ m, m = 8 * k + f := ⟨_, rfl⟩
          have hl0 : 0 < l := by
            have h16 : 16 ^ j ≤ 16 ^ 14 := Nat.pow_le_pow_right (by decide) (by omega)
            rw [hl]
            exact Nat.div_pos (Nat.le_trans h16 (by decide)) (Nat.pow_pos (by decide))
          have hlb : l ≤ 72057594037927936 := by rw [hl]; exact Nat.div_le_self _ _
          have hkb : k ≤ 8400 := by omega
          have m1 : (8 : Int) * (k : Int) + (f : Int) = (m : Int) := by omega
          have m2 : m ≤ 67300 := by omega
          have m3 := u64w m (by omega)
          have m4 : (m : Int) ≠ 0 := by omega
          obtain ⟨p, hp⟩ : ∃ p, p = l / m := ⟨_, rfl⟩
          have p1 : (l : Int) / (m : Int) = (p : Int) := by rw [hp]; rfl
          have p2 : p ≤ l := by rw [hp]; exact Nat.div_le_self _ _
          obtain ⟨t, ht⟩ : ∃ t, t = s + p := ⟨_, rfl⟩
          have t1 : (s : Int) + (p : Int) = (t : Int) := by omega
          have t2 := u64w t (by omega)
          obtain ⟨s', hs'⟩ : ∃ s', s' = t % 1152921504606846976 := ⟨_, rfl⟩
          have t3 : (t : Int) % 1152921504606846976 = (s' : Int) := by rw [hs']; rfl
          have hsb : s' < 1152921504606846976 := by rw [hs']; exact Nat.mod_lt _ (by decide)
          have hpt : p = tm f n (n + 1 + j) := by rw [hp, hl, hm, hk]; exact tm_high f n j h
          have HN : Hid (s' = sumTo (tm f n) (n + 1 + (j + 1)) % 1152921504606846976) := Lib.hid (by
            rw [hs', ht, ← Nat.add_assoc, sumTo, HI.out, hpt, Nat.mod_add_mod])
          obtain ⟨l', hl'⟩ : ∃ l', l' = l / 16 := ⟨_, rfl⟩
          have l1 : (l : Int) / 16 = (l' : Int) := by rw [hl']; rfl
          have HL2 : Hid (l' = 72057594037927936 / 16 ^ (j + 1)) := Lib.hid (by rw [hl', hl, Nat.div_div_eq_div_mul, Nat.pow_succ])
          have hlp : (0 : Int) < (l : Int) := by omega
          have HK2 : Hid (k + 1 = n + 1 + (j + 1)) := Lib.hid (by omega)
          have HJ := Lib.hid hj
          have hdl : decide ((0 : Int) < (l : Int)) = true := by simp; omega
          clear hm hp hpt ht hs' HI hj h hl hl' hk HL
          go_wp2
          go_roundg g2
          case measure => omega
          case rel => exact ⟨j + 1, s', l', k + 1, by have := HJ.out; omega, by rw [t3], by first | rfl | rw [l1], by go_num, HK2, hsb, HL2, HN, rfl⟩
        · obtain rfl : j = 15 := by omega
          have hl0 : l = 0 := by rw [hl]
          have hsR : s = R := by rw [HI.out, HR.out, ser_tm]
          subst hl0
          clear hl HL HI hj h
          go_wp2
          go_ret
          exact ⟨by rw [← hsR]; rfl, rfl⟩

theorem u64is (x : Int) (a : Nat) (h : x = (a : Int)) (hb : a < 18446744073709551616) : IntKind.u64.wrap x = (a : Int) := by rw [h]; exact u64w a hb
set_option maxHeartbeats 1600000 in
theorem rdigit_any (i : Nat) (hi : i < 8336) (w : World) : Calls Try.prog 8 #[.int .i64 (i : Int)] w fun e w' => e = .returned (.int .i64 (piD i : Int)) ∧ w' = w := by
  obtain ⟨D, hD⟩ : ∃ D, D = piD i := ⟨_, rfl⟩
  rw [← hD]
  have hdig := dig_pi i hi
  unfold dig at hdig
  rw [← hD] at hdig
  have C1 := Lib.hid (series_any i 1 (by omega) (by decide) (by decide) w)
  have C4 := Lib.hid (series_any i 4 (by omega) (by decide) (by decide) w)
  have C5 := Lib.hid (series_any i 5 (by omega) (by decide) (by decide) w)
  have C6 := Lib.hid (series_any i 6 (by omega) (by decide) (by decide) w)
  have b1 := Nat.mod_lt (ser 1 (i + 15)) (show 0 < 1152921504606846976 by decide)
  have b4 := Nat.mod_lt (ser 4 (i + 15)) (show 0 < 1152921504606846976 by decide)
  have b5 := Nat.mod_lt (ser 5 (i + 15)) (show 0 < 1152921504606846976 by decide)
  have b6 := Nat.mod_lt (ser 6 (i + 15)) (show 0 < 1152921504606846976 by decide)
  generalize ser 1 (i + 15) % 1152921504606846976 = s1 at *
  generalize ser 4 (i + 15) % 1152921504606846976 = s4 at *
  generalize ser 5 (i + 15) % 1152921504606846976 = s5 at *
  generalize ser 6 (i + 15) % 1152921504606846976 = s6 at *
  obtain ⟨a1, ha1⟩ : ∃ a, a = 4 * s1 := ⟨_, rfl⟩
  obtain ⟨a2, ha2⟩ : ∃ a, a = 1152921504606846976 - s4 := ⟨_, rfl⟩
  obtain ⟨a3, ha3⟩ : ∃ a, a = 2 * a2 := ⟨_, rfl⟩
  obtain ⟨a4, ha4⟩ : ∃ a, a = a1 + a3 := ⟨_, rfl⟩
  obtain ⟨a5, ha5⟩ : ∃ a, a = a4 + 1152921504606846976 := ⟨_, rfl⟩
  obtain ⟨a6, ha6⟩ : ∃ a, a = a5 - s5 := ⟨_, rfl⟩
  obtain ⟨a7, ha7⟩ : ∃ a, a = a6 + 1152921504606846976 := ⟨_, rfl⟩
  obtain ⟨a8, ha8⟩ : ∃ a, a = a7 - s6 := ⟨_, rfl⟩
  obtain ⟨a9, ha9⟩ : ∃ a, a = a8 % 1152921504606846976 := ⟨_, rfl⟩
  have hD2 : D = a9 / 72057594037927936 := by rw [← hdig, ha9, ha8, ha7, ha6, ha5, ha4, ha3, ha2, ha1]
  have e1 : IntKind.u64.wrap ((4 : Int) * (s1 : Int)) = (a1 : Int) := u64is _ _ (by omega) (by omega)
  have e2 : IntKind.u64.wrap ((1152921504606846976 : Int) - (s4 : Int)) = (a2 : Int) := u64is _ _ (by omega) (by omega)
  have e3 : IntKind.u64.wrap ((2 : Int) * (a2 : Int)) = (a3 : Int) := u64is _ _ (by omega) (by omega)
  have e4 : IntKind.u64.wrap ((a1 : Int) + (a3 : Int)) = (a4 : Int) := u64is _ _ (by omega) (by omega)
  have e5 : IntKind.u64.wrap ((a4 : Int) + 1152921504606846976) = (a5 : Int) := u64is _ _ (by omega) (by omega)
  have e6 : IntKind.u64.wrap ((a5 : Int) - (s5 : Int)) = (a6 : Int) := u64is _ _ (by omega) (by omega)
  have e7 : IntKind.u64.wrap ((a6 : Int) + 1152921504606846976) = (a7 : Int) := u64is _ _ (by omega) (by omega)
  have e8 : IntKind.u64.wrap ((a7 : Int) - (s6 : Int)) = (a8 : Int) := u64is _ _ (by omega) (by omega)
  have e9 : (a8 : Int) % 1152921504606846976 = (a9 : Int) := by rw [ha9]; rfl
  have e10 : (a9 : Int) / 72057594037927936 = (D : Int) := by rw [hD2]; rfl
  have hDb : D ≤ 15 := by omega
  clear ha1 ha2 ha3 ha4 ha5 ha6 ha7 ha8 ha9 hD2 hdig hD
  go_enter Try.func8, Try.ntmps8
  go_wp2_with fail
  refine C1.out.mono ?_
  rintro e w1 ⟨rfl, rfl⟩
  go_wp2_with fail
  refine C4.out.mono ?_
  rintro e w1 ⟨rfl, rfl⟩
  go_wp2_with fail
  refine C5.out.mono ?_
  rintro e w1 ⟨rfl, rfl⟩
  go_wp2_with fail
  refine C6.out.mono ?_
  rintro e w1 ⟨rfl, rfl⟩
  go_wp2
  go_ret
  exact ⟨rfl, rfl⟩
end Go.Proofs.Ytggdfmapddpafaa
