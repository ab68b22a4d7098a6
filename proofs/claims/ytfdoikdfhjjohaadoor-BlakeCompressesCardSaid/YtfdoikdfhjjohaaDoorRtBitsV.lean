/- The document's Bits of the second and third roots by its contract: the first 32 bits behind the point. Conditions: those typed. -/
import Derived.Test.YtfdoikdfhjjohaaDoorRtTimes
import Derived.Deep.LoopGhost
import Derived.WalkMore
namespace Go.Proofs.YtfdoikdfhjjohaaDoor
set_option maxRecDepth 50000
open Go.RowKit

theorem rt_step {B : Nat} {a b c : World} (hB : B ≤ b.heap.size) (h : Below B a b) (k : Below b.heap.size b c) : Below B a c := h.trans (k.mono hB)
/-- one root at most -/
theorem root_one {t R S N : Nat} (h1 : R ^ t ≤ N) (h2 : N < (S + 1) ^ t) : R ≤ S := by
  rcases Nat.lt_or_ge S R with h | h
  · have := Nat.pow_le_pow_left (show S + 1 ≤ R from h) t
    omega
  · exact h
/-- c is the first 32 bits behind the point of the t-th root of n -/
def IsBits (t n c : Nat) : Prop := c < 4294967296 ∧ ∃ W, (4294967296 * W + c) ^ t ≤ 4294967296 ^ t * n ∧ 4294967296 ^ t * n < (4294967296 * W + c + 1) ^ t
theorem bits_one {t n c c' : Nat} (h : IsBits t n c) (h' : IsBits t n c') : c = c' := by
  obtain ⟨l, W, a, b⟩ := h
  obtain ⟨l', W', a', b'⟩ := h'
  have e1 := root_one a b'
  have e2 := root_one a' b
  omega

set_option maxHeartbeats 1600000 in
theorem bits_any (n t : Nat) (hn : n ≤ 1300) (ht0 : 2 ≤ t) (ht : t ≤ 3) (w : World) : Calls Tryd.prog 26 #[.int .i64 (n : Int), .int .i64 (t : Int), .int .i64 2] w fun e w' => ∃ c : Nat, e = .returned (.int .u64 (c : Int)) ∧ IsBits t n c ∧ Below w.heap.size w w' := by
  have hp0 : ∀ x : Nat, x ≤ x ^ t := fun x => by
    rcases Nat.eq_zero_or_pos x with rfl | hx
    · exact Nat.zero_le _
    · calc x = x ^ 1 := (Nat.pow_one x).symm
        _ ≤ x ^ t := Nat.pow_le_pow_right hx (by omega)
  obtain ⟨t2, ht2⟩ : ∃ t2, t2 = 2 * t := ⟨_, rfl⟩
  have hmul : (2 : Int) * (t : Int) = (t2 : Int) := by omega
  have ht2b : t2 ≤ 6 := by omega
  have HT := Lib.hid ht2
  have HP := Lib.hid hp0
  clear ht2 hp0
  go_enter Tryd.func26, Tryd.ntmps26
  go_wp2_with fail
  refine (of_any n (by omega) w).mono ?_
  rintro e w1 ⟨v1, rfl, n1, b1⟩
  have N1 := Lib.hid n1
  have B1 := Lib.hid b1
  clear n1 b1
  go_wp2_with fail
  refine (up_any v1 n 4 t2 (by omega) (by omega) w1 N1.out).mono ?_
  rintro e w2 ⟨vg, rfl, n2, b2⟩
  have NG := Lib.hid n2
  have B2 := Lib.hid (B1.out.trans (b2.mono B1.out.size))
  clear n2 b2 N1 B1
  go_wp2
  go_loopg [8] 1400 (fun g v8 wr => ∃ W : Nat, W + g = 1400 ∧ v8 = .int .i64 (W : Int) ∧ Hid (W ^ t ≤ n) ∧ Below w.heap.size w wr ∧ Below w2.heap.size w2 wr)
  case atStart => exact ⟨0, rfl, rfl, Lib.hid (by rw [Nat.zero_pow (by omega)]; exact Nat.zero_le _), B2.out, Below.refl _ _⟩
  case round =>
    obtain ⟨W, hW, rfl, HL, hb, hb2⟩ := hrel
    have HB := Lib.hid hb
    have HB2 := Lib.hid hb2
    have hWn : W ≤ n := Nat.le_trans (HP.out W) HL.out
    obtain ⟨W1, hW1⟩ : ∃ W1, W1 = W + 1 := ⟨_, rfl⟩
    have q1 : (W : Int) + 1 = (W1 : Int) := by omega
    have hW1b : W1 ≤ 1301 := by omega
    have HW1 := Lib.hid (And.intro hW1 hW)
    clear hb hb2 hW1 hW
    go_wp2_with fail
    refine (of_any W1 (by omega) wr).mono ?_
    rintro e w3 ⟨v3, rfl, n3, b3⟩
    have N3 := Lib.hid n3
    have B3 := Lib.hid b3
    clear n3 b3
    go_wp2_with fail
    refine (power_any v3 W1 4 t (by omega) ht w3 N3.out).mono ?_
    rintro e w4 ⟨v4, rfl, n4, b4⟩
    have N4 := Lib.hid n4
    have B4 := Lib.hid (rt_step B3.out.size B3.out b4)
    clear n4 b4 N3 B3
    go_wp2_with fail
    refine (of_any n (by omega) w4).mono ?_
    rintro e w5 ⟨v5, rfl, n5, b5⟩
    have CA := Lib.hid (above_any v4 v5 (W1 ^ t) n (4 + t * 5) 4 (by omega) (by omega) w5 (N4.out.keep b5) n5)
    have B5 := Lib.hid (rt_step B4.out.size B4.out b5)
    clear n5 b5 N4 B4
    go_wp2_with fail
    refine CA.out.mono ?_
    rintro e w6 ⟨rfl, rfl⟩
    clear CA
    by_cases hlt : n < W1 ^ t
    · have hd : decide (n < W1 ^ t) = true := decide_eq_true hlt
      rw [hd]
      have HLT := Lib.hid hlt
      clear hd hlt
      go_wp2
      go_loopg [9, 10] 32 (fun b v9 v10 wq => ∃ c : Nat, v9 = .int .u64 (c : Int) ∧ v10 = .int .i64 ((b : Int) - 1) ∧ b ≤ 32 ∧ c < 4294967296 ∧ Hid (c + 2 ^ b ≤ 4294967296) ∧ Hid ((4294967296 * W + c) ^ t ≤ 4294967296 ^ t * n) ∧ Hid (4294967296 ^ t * n < (4294967296 * W + c + 2 ^ b) ^ t) ∧ Below w.heap.size w wq ∧ Below w2.heap.size w2 wq)
      case atStart =>
        refine ⟨0, rfl, rfl, by omega, by omega, Lib.hid (by decide), Lib.hid ?_, Lib.hid ?_, rt_step HB.out.size HB.out B5.out, rt_step HB2.out.size HB2.out B5.out⟩
        · rw [Nat.add_zero, Nat.mul_pow]
          exact Nat.mul_le_mul_left _ HL.out
        · have e : 4294967296 * W + 0 + 2 ^ 32 = 4294967296 * W1 := by
            obtain ⟨a, _⟩ := HW1.out
            rw [a, Nat.mul_add]
          rw [e, Nat.mul_pow]
          exact Nat.mul_lt_mul_of_pos_left HLT.out (Nat.pow_pos (by decide))
      case round =>
        obtain ⟨c, rfl, rfl, hb32, hc, HC, HA, HZ, hq, hq2⟩ := hrel
        have HQ := Lib.hid hq
        have HQ2 := Lib.hid hq2
        clear hq hq2
        rcases Nat.eq_zero_or_pos gk with h0 | h0
        · subst h0
          have hlast : IsBits t n c := ⟨hc, W, HA.out, by have := HZ.out; simpa using this⟩
          have HI := Lib.hid hlast
          clear hlast
          go_wp2
          go_ret
          exact ⟨c, rfl, HI.out, HQ.out⟩
        · obtain ⟨d, rfl⟩ : ∃ d, gk = d + 1 := ⟨gk - 1, by omega⟩
          have q : ((d + 1 : Nat) : Int) - 1 = (d : Int) := by omega
          rw [q]
          have hd32 : d < 32 := by omega
          clear q h0 hb32
          obtain ⟨pd, hpd⟩ : ∃ pd : Nat, pd = 2 ^ d := ⟨_, rfl⟩
          have hpb : pd ≤ 2147483648 := by rw [hpd]; exact Nat.pow_le_pow_right (by decide) (show d ≤ 31 by omega)
          have hp2 : 2 ^ (d + 1) = pd + pd := by rw [Nat.pow_succ, hpd]; omega
          rw [hp2] at HC HZ
          have hwp : IntKind.u64.wrap ((2 : Int) ^ d) = (pd : Int) := by
            have e : ((2 : Int) ^ d) = (pd : Int) := by rw [hpd]; exact (Int.natCast_pow 2 d).symm
            rw [e, IntKind.wrap_u64]; omega
          obtain ⟨tr, htr⟩ : ∃ tr, tr = c + pd := ⟨_, rfl⟩
          have hct : (c : Int) + (pd : Int) = (tr : Int) := by omega
          have htb : tr < 4294967296 := by have := HC.out; omega
          have HTR := Lib.hid (And.intro htr hpd)
          clear hp2 hpd htr
          go_wp2_with fail
          refine (of_any W (by omega) wr).mono ?_
          rintro e w7 ⟨v7, rfl, n7, b7⟩
          have N7 := Lib.hid n7
          have B7 := Lib.hid b7
          clear n7 b7
          go_wp2_with fail
          refine (up_any v7 W 4 2 (by omega) (by omega) w7 N7.out).mono ?_
          rintro e w8 ⟨v8, rfl, n8, b8⟩
          have N8 := Lib.hid n8
          have B8 := Lib.hid (rt_step B7.out.size B7.out b8)
          clear n8 b8 N7 B7
          go_wp2_with fail
          refine (of_any tr (by omega) w8).mono ?_
          rintro e w9 ⟨v9, rfl, n9, b9⟩
          have CS := Lib.hid (sum_any v8 v9 (65536 ^ 2 * W) tr 6 (by omega) w9 ((N8.out.keep b9).more (by omega)) (n9.more (by omega)))
          have B9 := Lib.hid (rt_step B8.out.size B8.out b9)
          clear n9 b9 N8 B8
          go_wp2_with fail
          refine CS.out.mono ?_
          rintro e w10 ⟨v10, rfl, n10, b10⟩
          have CP := Lib.hid (power_any v10 (65536 ^ 2 * W + tr) 7 t (by omega) ht w10 (n10.more (by omega)))
          have B10 := Lib.hid (rt_step B9.out.size B9.out b10)
          clear n10 b10 B9 CS
          go_wp2_with fail
          refine CP.out.mono ?_
          rintro e w11 ⟨v11, rfl, n11, b11⟩
          have B11 := Lib.hid (rt_step B10.out.size B10.out b11)
          have CB := Lib.hid (above_any v11 vg ((65536 ^ 2 * W + tr) ^ t) (65536 ^ t2 * n) (4 + t * 8) (4 + t2) (by omega) (by omega) w11 (n11.more (by omega)) (NG.out.keep (rt_step HQ2.out.size HQ2.out B11.out)))
          clear n11 b11 B10 CP
          have e1 : 65536 ^ t2 = 4294967296 ^ t := by rw [HT.out, Nat.pow_mul]
          rw [e1, show (65536 : Nat) ^ 2 = 4294967296 from rfl] at CB
          clear e1
          go_wp2_with fail
          refine CB.out.mono ?_
          rintro e w12 ⟨rfl, rfl⟩
          clear CB
          have BQ := Lib.hid (rt_step HQ.out.size HQ.out B11.out)
          have BQ2 := Lib.hid (rt_step HQ2.out.size HQ2.out B11.out)
          have qd : ((d : Nat) : Int) - 1 = (d : Int) - 1 := rfl
          by_cases hh : 4294967296 ^ t * n < (4294967296 * W + tr) ^ t
          · have hd : decide (4294967296 ^ t * n < (4294967296 * W + tr) ^ t) = true := decide_eq_true hh
            rw [hd]
            have HH := Lib.hid hh
            clear hd hh qd
            go_wp2
            go_roundg d
            case measure => omega
            case rel =>
              obtain ⟨g1, g2⟩ := HTR.out
              refine ⟨c, rfl, rfl, by omega, by omega, Lib.hid ?_, HA, Lib.hid ?_, BQ.out, BQ2.out⟩
              · rw [← g2]; have := HC.out; omega
              · rw [← g2, Nat.add_assoc, ← g1]; exact HH.out
          · have hd : decide (4294967296 ^ t * n < (4294967296 * W + tr) ^ t) = false := decide_eq_false hh
            rw [hd]
            have HH := Lib.hid hh
            clear hd hh qd
            go_wp2
            go_roundg d
            case measure => omega
            case rel =>
              obtain ⟨g1, g2⟩ := HTR.out
              refine ⟨tr, rfl, rfl, by omega, by omega, Lib.hid ?_, Lib.hid (Nat.le_of_not_lt HH.out), Lib.hid ?_, BQ.out, BQ2.out⟩
              · rw [← g2]; have := HC.out; omega
              · have e : 4294967296 * W + tr + 2 ^ d = 4294967296 * W + c + (pd + pd) := by rw [← g2, g1]; omega
                rw [e]; exact HZ.out
    · have hd : decide (n < W1 ^ t) = false := decide_eq_false hlt
      rw [hd]
      have HLT := Lib.hid hlt
      clear hd hlt
      have HBB := Lib.hid (rt_step HB.out.size HB.out B5.out)
      have HBB2 := Lib.hid (rt_step HB2.out.size HB2.out B5.out)
      obtain ⟨a1, a2⟩ := HW1.out
      obtain ⟨g2, rfl⟩ : ∃ g2, gk = g2 + 1 := ⟨gk - 1, by have := HP.out W1; have := HLT.out; omega⟩
      have HA2 := Lib.hid (And.intro a1 a2)
      clear a1 a2
      go_wp2
      go_roundg g2
      case measure => omega
      case rel =>
        obtain ⟨a1, a2⟩ := HA2.out
        exact ⟨W1, by omega, rfl, Lib.hid (Nat.le_of_not_lt HLT.out), HBB.out, HBB2.out⟩
end Go.Proofs.YtfdoikdfhjjohaaDoor
