/- power of package pi by its contract. Conditions: those typed. -/
import Derived.Test.YtggdfmapddpafaaPiDiv
namespace Go.Proofs.Ytggdfmapddpafaa
set_option maxRecDepth 50000
open Go.RowKit Pi16

/-- one bit more of the exponent -/
theorem bit_step (x i b m : Nat) (hx : x = 16 ^ (i / 2 ^ (b + 1)) % m) : (x * x * (if i / 2 ^ b % 2 = 1 then 16 else 1)) % m = 16 ^ (i / 2 ^ b) % m := by
  have h1 : i / 2 ^ (b + 1) = i / 2 ^ b / 2 := by rw [Nat.pow_succ, Nat.div_div_eq_div_mul]
  rw [h1] at hx
  generalize i / 2 ^ b = e at *
  have he := Nat.div_add_mod e 2
  have hxx : x * x % m = 16 ^ (2 * (e / 2)) % m := by rw [hx, ← Nat.mul_mod, ← Nat.pow_add, Nat.two_mul]
  rw [Nat.mul_mod, hxx, ← Nat.mul_mod]
  by_cases h : e % 2 = 1
  · rw [if_pos h, ← Nat.pow_succ, show (2 * (e / 2)).succ = e by omega]
  · rw [if_neg h, Nat.mul_one, show 2 * (e / 2) = e by omega]
theorem i64_and1 (e : Nat) (h : e ≤ 1000000) : bits .and .i64 (e : Int) 1 = ((e % 2 : Nat) : Int) := by
  have h1 : (BitVec.ofInt 64 (e : Int)).toNat = e := by
    rw [BitVec.ofInt_natCast, BitVec.toNat_ofNat]; exact Nat.mod_eq_of_lt (by omega)
  have h2 : (BitVec.ofInt 64 1).toNat = 1 := by decide
  show IntKind.i64.wrap ((BitVec.ofInt 64 (e : Int) &&& BitVec.ofInt 64 1).toNat : Int) = _
  rw [BitVec.toNat_and, h1, h2, Nat.and_one_is_mod]
  exact IntWalk.i64_in _ (by omega)
theorem sq_small {a m : Nat} (ha : a < m) (hm : m ≤ 1048576) : a * a < 1099511627776 := mul_small ha ha hm

set_option maxHeartbeats 1600000 in
theorem pow_any (i m : Nat) (hi : i ≤ 1000000) (hm0 : 1 ≤ m) (hm : m ≤ 1048576) (w : World) : Calls Try.prog 17 #[.int .i64 (i : Int), .int .u64 (m : Int)] w fun e w' => e = .returned (.int .u64 ((16 ^ i % m : Nat) : Int)) ∧ w' = w := by
  obtain ⟨R, hR⟩ : ∃ R, R = 16 ^ i % m := ⟨_, rfl⟩
  rw [← hR]
  have HR := Lib.hid hR
  clear hR
  have m1 : (m : Int) ≠ 0 := by omega
  have CL := Lib.hid (bits_Len (i : Int) w (by omega) (by omega))
  rw [Int.toNat_natCast] at CL
  obtain ⟨l, hl⟩ : ∃ l, l = Lib.bitLen i := ⟨_, rfl⟩
  rw [← hl] at CL
  have hlb : l ≤ 20 ∧ i < 2 ^ l := by
    by_cases h0 : i = 0
    · have hz : Lib.bitLen 0 = 0 := by decide
      subst h0
      rw [hz] at hl
      subst hl
      simp
    · obtain ⟨k1, k2, k3, k4⟩ := bitLen_between 20 i (by omega) (by decide) h0
      rw [← hl] at k1 k4
      exact ⟨k1, k4⟩
  have HI : Hid (1 % m = 16 ^ (i / 2 ^ l) % m) := Lib.hid (by rw [Nat.div_eq_of_lt hlb.2, Nat.pow_zero])
  have hl2 := hlb.1
  obtain ⟨x0, hx0⟩ : ∃ x, x = 1 % m := ⟨_, rfl⟩
  have e0 : (1 : Int) % (m : Int) = (x0 : Int) := by rw [hx0, Int.natCast_emod]; rfl
  have b0 : x0 < m := by rw [hx0]; exact Nat.mod_lt _ (by omega)
  rw [← hx0] at HI
  clear hl hlb hx0
  go_enter Try.func17, Try.ntmps17
  go_wp2_with fail
  refine CL.out.mono ?_
  rintro e w1 ⟨rfl, rfl⟩
  go_wp2
  go_loopg [5, 6] l (fun g v5 v6 wr => ∃ x : Nat, v5 = .int .u64 (x : Int) ∧ v6 = .int .i64 ((g : Int) - 1) ∧ x < m ∧ g ≤ 20 ∧ Hid (x = 16 ^ (i / 2 ^ g) % m) ∧ wr = w1)
  case atStart => exact ⟨x0, rfl, rfl, b0, hl2, HI, rfl⟩
  case round =>
    obtain ⟨x, rfl, rfl, hx, hg20, HX, rfl⟩ := hrel
    rcases Nat.eq_zero_or_pos gk with h0 | hpos
    · subst h0
      have hxR : x = R := by rw [HX.out, HR.out]; simp
      have d1 : decide ((0 : Int) ≤ ((0 : Nat) : Int) - 1) = false := by decide
      clear HX
      go_wp2
      go_ret
      exact ⟨by rw [← hxR]; rfl, rfl⟩
    · obtain ⟨b, rfl⟩ : ∃ b, gk = b + 1 := ⟨gk - 1, by omega⟩
      have eb : ((b + 1 : Nat) : Int) - 1 = (b : Int) := by omega
      have gb : (0 : Int) ≤ (b : Int) := by omega
      have gb2 : (b : Int) ≤ 20 := by omega
      have HB := Lib.hid (bit_step x i b m HX.out)
      obtain ⟨e, he⟩ : ∃ e, e = i / 2 ^ b := ⟨_, rfl⟩
      have heb : e ≤ 1000000 := by rw [he]; exact Nat.le_trans (Nat.div_le_self _ _) hi
      have fe : (i : Int) / 2 ^ b = (e : Int) := by rw [he, Int.natCast_ediv, Int.natCast_pow]; rfl
      have fa := i64_and1 e heb
      rw [← he] at HB
      have HE := Lib.hid he
      obtain ⟨q, hq⟩ : ∃ q, q = x * x := ⟨_, rfl⟩
      have q1 : (x : Int) * (x : Int) = (q : Int) := by rw [hq, Int.natCast_mul]
      have q2 : q < 1099511627776 := by rw [hq]; exact sq_small hx hm
      rw [← hq] at HB
      by_cases hodd : e % 2 = 1
      · rw [hodd] at fa
        rw [if_pos hodd] at HB
        obtain ⟨r, hr⟩ : ∃ r, r = q * 16 % m := ⟨_, rfl⟩
        have r1 : (q : Int) * 16 % (m : Int) = (r : Int) := by rw [hr, Int.natCast_emod, Int.natCast_mul]; rfl
        have r2 : r < m := by rw [hr]; exact Nat.mod_lt _ (by omega)
        rw [← hr] at HB
        clear HX he hq hr hodd
        rw [eb]
        go_wp2
        go_roundg b
        case measure => omega
        case rel => exact ⟨r, by rw [r1], rfl, r2, by omega, Lib.hid (by rw [HB.out, HE.out]), rfl⟩
      · have h0 : e % 2 = 0 := by omega
        rw [h0] at fa
        rw [if_neg hodd, Nat.mul_one] at HB
        obtain ⟨r, hr⟩ : ∃ r, r = q % m := ⟨_, rfl⟩
        have r1 : (q : Int) % (m : Int) = (r : Int) := by rw [hr, Int.natCast_emod]
        have r2 : r < m := by rw [hr]; exact Nat.mod_lt _ (by omega)
        rw [← hr] at HB
        clear HX he hq hr hodd h0
        rw [eb]
        go_wp2
        go_roundg b
        case measure => omega
        case rel => exact ⟨r, by rw [r1], rfl, r2, by omega, Lib.hid (by rw [HB.out, HE.out]), rfl⟩
end Go.Proofs.Ytggdfmapddpafaa
