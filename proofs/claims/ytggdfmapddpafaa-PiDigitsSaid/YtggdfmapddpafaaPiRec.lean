/- series and Reckon of package pi by their contracts: the digit that is reckoned is pi's. Conditions: those typed. -/
import Derived.Test.YtggdfmapddpafaaPiPow
import Derived.Test.YtggdfmapddpafaaPiNear
import Derived.Test.YtggdfmapddpafaaPiVal
namespace Go.Proofs.Ytggdfmapddpafaa
set_option maxRecDepth 50000
open Go.RowKit Pi16

def tm16 (f n k : Nat) : Nat := 16 ^ (n + 16 - k) / (8 * k + f)
theorem part64 (x m : Nat) (hm : 0 < m) : x % m * 18446744073709551616 / m = x * 18446744073709551616 / m % 18446744073709551616 := by
  have h := Nat.div_add_mod x m
  have hr := Nat.mod_lt x hm
  generalize x / m = q at *
  generalize x % m = r at *
  generalize hK : (18446744073709551616 : Nat) = K
  have hK0 : 0 < K := by omega
  clear hK
  subst h
  have e : (m * q + r) * K = m * (K * q) + r * K := by
    rw [Nat.add_mul, Nat.mul_assoc, Nat.mul_comm q]
  rw [e, Nat.mul_add_div hm, Nat.mul_add_mod]
  refine (Nat.mod_eq_of_lt ?_).symm
  rw [Nat.div_lt_iff_lt_mul hm, Nat.mul_comm]
  exact Nat.mul_lt_mul_of_pos_left hr hK0
theorem tm16_low (f n k : Nat) (hf : 0 < f) (hk : k ≤ n) : 16 ^ (n - k) % (8 * k + f) * 18446744073709551616 / (8 * k + f) = tm16 f n k % 18446744073709551616 := by
  rw [part64 _ _ (by omega)]
  unfold tm16
  rw [show n + 16 - k = (n - k) + 16 by omega, Nat.pow_add]
theorem tm16_high (f n j : Nat) (hj : j < 16) : 2 ^ (60 - 4 * j) / (8 * (n + 1 + j) + f) = tm16 f n (n + 1 + j) := by
  unfold tm16
  rw [show n + 16 - (n + 1 + j) = 15 - j by omega, show (16 : Nat) = 2 ^ 4 from rfl, ← Nat.pow_mul, show 4 * (15 - j) = 60 - 4 * j by omega]
theorem ser16_tm (f n : Nat) : ser f (n + 16) = sumTo (tm16 f n) (n + 1 + 16) := rfl

set_option maxHeartbeats 3200000 in
theorem series16_any (n f : Nat) (hn : n ≤ 8335) (hf0 : 0 < f) (hf : f ≤ 6) (w : World) : Calls Try.prog 13 #[.int .i64 (n : Int), .int .i64 (f : Int)] w fun e w' => e = .returned (.int .u64 ((ser f (n + 16) % 18446744073709551616 : Nat) : Int)) ∧ Below w.heap.size w w' := by
  obtain ⟨R, hR⟩ : ∃ R, R = ser f (n + 16) % 18446744073709551616 := ⟨_, rfl⟩
  rw [← hR]
  have HR := Lib.hid hR
  clear hR
  go_enter Try.func13, Try.ntmps13
  go_wp2
  go_loopg [5, 13] (n + 1) (fun g v5 v13 wr => ∃ k s : Nat, k + g = n + 1 ∧ v5 = .int .u64 (s : Int) ∧ v13 = .int .i64 (k : Int) ∧ s < 18446744073709551616 ∧ Hid (s = sumTo (tm16 f n) k % 18446744073709551616) ∧ Below w.heap.size w wr)
  case atStart => exact ⟨0, 0, by omega, rfl, rfl, by decide, Lib.hid (by simp [sumTo]), Below.refl _ _⟩
  case round =>
    obtain ⟨k, s, hk, rfl, rfl, hs, HI, hb⟩ := hrel
    by_cases h : k < n + 1
    · obtain ⟨g2, rfl⟩ : ∃ g2, gk = g2 + 1 := ⟨gk - 1, by omega⟩
      obtain ⟨m, hm⟩ : ∃ m, m = 8 * k + f := ⟨_, rfl⟩
      obtain ⟨d, hd⟩ : ∃ d, d = n - k := ⟨_, rfl⟩
      have hkn : (k : Int) < (n : Int) + 1 := by omega
      have hdk : decide ((k : Int) < (n : Int) + 1) = true := by simp; omega
      have hkn2 : k ≤ n := by omega
      have hkb : k ≤ 8335 := by omega
      have m1 : (8 : Int) * (k : Int) + (f : Int) = (m : Int) := by omega
      have m2 : m ≤ 66700 := by omega
      have m3 := u64w m (by omega)
      have d1 : (n : Int) - (k : Int) = (d : Int) := by omega
      have d2 : d ≤ 8335 := by omega
      obtain ⟨r, hr⟩ : ∃ r, r = 16 ^ d % m := ⟨_, rfl⟩
      have hrm : r < m := by rw [hr]; exact Nat.mod_lt _ (by omega)
      have CP := Lib.hid (pow_any d m (by omega) (by omega) (by omega) wr)
      rw [← hr] at CP
      obtain ⟨p, hp⟩ : ∃ p, p = r * 18446744073709551616 / m := ⟨_, rfl⟩
      have CQ := Lib.hid (div64_all r m hrm (by omega) wr)
      rw [← hp] at CQ
      have hpt : p = tm16 f n k % 18446744073709551616 := by rw [hp, hr, hd, hm]; exact tm16_low f n k hf0 hkn2
      have hpb : p < 18446744073709551616 := by rw [hpt]; exact Nat.mod_lt _ (by decide)
      obtain ⟨s', hs'⟩ : ∃ s', s' = (s + p) % 18446744073709551616 := ⟨_, rfl⟩
      have t3 : IntKind.u64.wrap ((s : Int) + (p : Int)) = (s' : Int) := by
        have e : ∀ z : Int, IntKind.u64.wrap z = z % 18446744073709551616 := fun z => by simp [IntKind.wrap, IntKind.bits, IntKind.signed]
        rw [e]; omega
      have HN : Hid (s' = sumTo (tm16 f n) (k + 1) % 18446744073709551616) := Lib.hid (by
        rw [hs', sumTo, HI.out, hpt, ← Nat.add_mod])
      have hsb : s' < 18446744073709551616 := by rw [hs']; exact Nat.mod_lt _ (by decide)
      have HJ := Lib.hid hk
      clear hm hd hr hp hpt hs' HI hk h hrm
      go_wp2_with fail
      refine CP.out.mono ?_
      rintro e w1 ⟨rfl, rfl⟩
      go_wp2_with fail
      refine CQ.out.mono ?_
      rintro e w2 ⟨r2, rfl, hb2⟩
      go_wp2
      go_roundg g2
      case measure => omega
      case rel => exact ⟨k + 1, s', by have := HJ.out; omega, rfl, by go_num, hsb, HN, bstep hb hb2⟩
    · obtain rfl : k = n + 1 := by omega
      have hdk : decide (((n + 1 : Nat) : Int) < (n : Int) + 1) = false := by simp
      clear hk h
      go_wp2
      go_loopg [5, 35] 16 (fun g v5 v35 wz => ∃ j s : Nat, j + g = 16 ∧ v5 = .int .u64 (s : Int) ∧ v35 = .int .i64 (j : Int) ∧ s < 18446744073709551616 ∧ Hid (s = sumTo (tm16 f n) (n + 1 + j) % 18446744073709551616) ∧ wz = wr)
      case atStart => exact ⟨0, s, by omega, rfl, rfl, hs, HI, rfl⟩
      case round =>
        obtain ⟨j, s, hj, rfl, rfl, hs, HI, rfl⟩ := hrel
        by_cases h : j < 16
        · obtain ⟨g2, rfl⟩ : ∃ g2, gk = g2 + 1 := ⟨gk - 1, by omega⟩
          obtain ⟨m, hm⟩ : ∃ m, m = 8 * (n + 1 + j) + f := ⟨_, rfl⟩
          obtain ⟨c, hc⟩ : ∃ c, c = 60 - 4 * j := ⟨_, rfl⟩
          obtain ⟨v, hv⟩ : ∃ v, v = 2 ^ c := ⟨_, rfl⟩
          have hvb : v ≤ 1152921504606846976 := by rw [hv]; exact Nat.pow_le_pow_right (n := 2) (by decide) (show c ≤ 60 by omega)
          have c1 : (60 : Int) - 4 * (j : Int) = (c : Int) := by omega
          have c2 : IntKind.u64.wrap ((2 : Int) ^ c) = (v : Int) := u64is _ _ (by rw [hv, Int.natCast_pow]; rfl) (by omega)
          have c0 : (c : Int) ≤ 60 := by omega
          have m0 : (8 : Int) * ((n : Int) + 1 + (j : Int)) + (f : Int) = (m : Int) := by omega
          have m2 : m ≤ 67300 := by omega
          have m3 := u64w m (by omega)
          have m4 : (m : Int) ≠ 0 := by omega
          obtain ⟨p, hp⟩ : ∃ p, p = v / m := ⟨_, rfl⟩
          have p1 : (v : Int) / (m : Int) = (p : Int) := by rw [hp]; rfl
          have p2 : p ≤ v := by rw [hp]; exact Nat.div_le_self _ _
          obtain ⟨s', hs'⟩ : ∃ s', s' = (s + p) % 18446744073709551616 := ⟨_, rfl⟩
          have t3 : IntKind.u64.wrap ((s : Int) + (p : Int)) = (s' : Int) := by
            have e : ∀ z : Int, IntKind.u64.wrap z = z % 18446744073709551616 := fun z => by simp [IntKind.wrap, IntKind.bits, IntKind.signed]
            rw [e]; omega
          have hsb : s' < 18446744073709551616 := by rw [hs']; exact Nat.mod_lt _ (by decide)
          have hpt : p = tm16 f n (n + 1 + j) := by rw [hp, hv, hc, hm]; exact tm16_high f n j h
          have HN : Hid (s' = sumTo (tm16 f n) (n + 1 + (j + 1)) % 18446744073709551616) := Lib.hid (by
            rw [hs', ← Nat.add_assoc, sumTo, HI.out, hpt, Nat.mod_add_mod])
          have hj16 : j ≤ 15 := by omega
          have HJ := Lib.hid hj
          have hdk : decide ((j : Int) < 16) = true := by simp; omega
          clear hm hp hpt hs' HI hj h hv hc
          go_wp2
          go_roundg g2
          case measure => omega
          case rel => exact ⟨j + 1, s', by have := HJ.out; omega, rfl, by go_num, hsb, HN, rfl⟩
        · obtain rfl : j = 16 := by omega
          have hsR : s = R := by rw [HI.out, HR.out, ser16_tm]
          have hdk : decide (((16 : Nat) : Int) < 16) = false := by simp
          clear HI hj h
          go_wp2
          go_ret
          exact ⟨by rw [← hsR]; rfl, hb⟩
theorem u64m (z : Int) : IntKind.u64.wrap z = z % 18446744073709551616 := by simp [IntKind.wrap, IntKind.bits, IntKind.signed]
theorem wrap_mul64 (c x : Nat) : IntKind.u64.wrap ((c : Int) * (x : Int)) = ((c * x % 18446744073709551616 : Nat) : Int) := by
  rw [u64m, ← Int.natCast_mul]; rfl
theorem wrap_sub64 (a b : Nat) (hb : b < 18446744073709551616) : IntKind.u64.wrap ((a : Int) - (b : Int)) = (((a + (18446744073709551616 - b)) % 18446744073709551616 : Nat) : Int) := by
  rw [u64m]; omega
set_option maxHeartbeats 1600000 in
theorem reckon_any (i : Nat) (hi : i < 8336) (w : World) : Calls Try.prog 7 #[.int .i64 (i : Int)] w fun e w' => e = .returned (.tuple #[.int .i64 (piD i : Int), .int .i64 0]) ∧ Below w.heap.size w w' := by
  obtain ⟨D, hD⟩ : ∃ D, D = piD i := ⟨_, rfl⟩
  rw [← hD]
  have hdig := dig64_pi i hi
  unfold dig64 at hdig
  rw [← hD] at hdig
  have CK := Lib.hid (known_any i hi w)
  have C1 := Lib.hid fun w : World => series16_any i 1 (by omega) (by decide) (by decide) w
  have C4 := Lib.hid fun w : World => series16_any i 4 (by omega) (by decide) (by decide) w
  have C5 := Lib.hid fun w : World => series16_any i 5 (by omega) (by decide) (by decide) w
  have C6 := Lib.hid fun w : World => series16_any i 6 (by omega) (by decide) (by decide) w
  have b1 := Nat.mod_lt (ser 1 (i + 16)) (show 0 < 18446744073709551616 by decide)
  have b4 := Nat.mod_lt (ser 4 (i + 16)) (show 0 < 18446744073709551616 by decide)
  have b5 := Nat.mod_lt (ser 5 (i + 16)) (show 0 < 18446744073709551616 by decide)
  have b6 := Nat.mod_lt (ser 6 (i + 16)) (show 0 < 18446744073709551616 by decide)
  generalize ser 1 (i + 16) % 18446744073709551616 = s1 at *
  generalize ser 4 (i + 16) % 18446744073709551616 = s4 at *
  generalize ser 5 (i + 16) % 18446744073709551616 = s5 at *
  generalize ser 6 (i + 16) % 18446744073709551616 = s6 at *
  obtain ⟨x1, hx1⟩ : ∃ a, a = 4 * s1 % 18446744073709551616 := ⟨_, rfl⟩
  obtain ⟨x2, hx2⟩ : ∃ a, a = 2 * s4 % 18446744073709551616 := ⟨_, rfl⟩
  obtain ⟨x3, hx3⟩ : ∃ a, a = (x1 + (18446744073709551616 - x2)) % 18446744073709551616 := ⟨_, rfl⟩
  obtain ⟨x4, hx4⟩ : ∃ a, a = (x3 + (18446744073709551616 - s5)) % 18446744073709551616 := ⟨_, rfl⟩
  obtain ⟨x5, hx5⟩ : ∃ a, a = (x4 + (18446744073709551616 - s6)) % 18446744073709551616 := ⟨_, rfl⟩
  have hD2 : D = x5 / 1152921504606846976 := by rw [← hdig, hx5, hx4, hx3, hx2, hx1]
  have e1 : IntKind.u64.wrap ((4 : Int) * (s1 : Int)) = (x1 : Int) := by rw [hx1]; exact wrap_mul64 4 s1
  have e2 : IntKind.u64.wrap ((2 : Int) * (s4 : Int)) = (x2 : Int) := by rw [hx2]; exact wrap_mul64 2 s4
  have e3 : IntKind.u64.wrap ((x1 : Int) - (x2 : Int)) = (x3 : Int) := by rw [hx3]; exact wrap_sub64 x1 x2 (by rw [hx2]; exact Nat.mod_lt _ (by decide))
  have e4 : IntKind.u64.wrap ((x3 : Int) - (s5 : Int)) = (x4 : Int) := by rw [hx4]; exact wrap_sub64 x3 s5 b5
  have e5 : IntKind.u64.wrap ((x4 : Int) - (s6 : Int)) = (x5 : Int) := by rw [hx5]; exact wrap_sub64 x4 s6 b6
  have e6 : (x5 : Int) / 1152921504606846976 = (D : Int) := by rw [hD2]; rfl
  have hx5b : x5 < 18446744073709551616 := by rw [hx5]; exact Nat.mod_lt _ (by decide)
  have hDb : D ≤ 15 := by clear hx1 hx2 hx3 hx4 hx5 e1 e2 e3 e4 e5 e6 hdig; omega
  clear hx1 hx2 hx3 hx4 hx5 hD2 hdig hD
  go_enter Try.func7, Try.ntmps7
  go_wp2_with fail
  refine CK.out.mono ?_
  rintro e w1 ⟨rfl, rfl⟩
  go_wp2_with fail
  refine (C1.out _).mono ?_
  rintro e w2 ⟨rfl, k1⟩
  go_wp2_with fail
  refine (C4.out _).mono ?_
  rintro e w3 ⟨rfl, k2⟩
  go_wp2_with fail
  refine (C5.out _).mono ?_
  rintro e w4 ⟨rfl, k3⟩
  go_wp2_with fail
  refine (C6.out _).mono ?_
  rintro e w5 ⟨rfl, k4⟩
  go_wp2
  go_ret2
  exact ⟨rfl, bstep k1 (bstep k2 (bstep k3 k4))⟩
theorem piOk : PiOk where
  digit i hi w := same_ret (digit_any i hi w)
  digit_bad z hz w := same_ret (digit_bad z hz w)
  reckon := reckon_any
  reckon_bad z hz w := same_ret (reckon_bad z hz w)
end Go.Proofs.Ytggdfmapddpafaa
