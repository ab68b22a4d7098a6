/- The law EqualAny by the calls' contracts. Condition: no text is longer than what may come in. -/
import Derived.Test.YticjndlgjbbemaaEqAwake
import Derived.Test.YticjndlgjbbemaaEqAny
namespace Go.Proofs.Yticjndlgjbbemaa
set_option maxRecDepth 50000
open Go.RowKit

theorem rsame_below2 (a b : ByteArray) (ha : a.size ≤ 140737488351232) (w : World) : Calls Try.prog 8 #[.string a, .string b] w fun e w' => e = .returned (.bool (eqB a b)) ∧ Below w.heap.size w w' :=
  (rsame_any a b ha w).mono fun e w' ⟨h1, q, h2⟩ => ⟨h1, by subst h2; exact below_drewN (Below.refl _ w) q⟩

set_option maxHeartbeats 3200000 in
theorem anys_any (a : ByteArray) (ha : a.size ≤ 140737488351232) (A : Option Addr) (c : Nat) (ss : List ByteArray) (bit : Int) (x y : Nat) (hx : x < 256) (hy : y < 256) (w : World) (hr : Reads w w.heap.size A (stv ss)) :
    Calls Try.prog 5 #[.string a, .slice A ss.length c, .int .i64 bit, .int .u8 (x : Int), .int .u8 (y : Int)] w fun e w' => e = .returned (.bool true) ∧ Below w.heap.size w w' := by
  have CA := Lib.hid awake_any
  by_cases hl : ss.length ≤ 100
  · by_cases ha1 : a.size ≤ 1000
    · have CY := Lib.hid (any_any a ha1 A c ss hl)
      have CP := Lib.hid (pick_any bit x y hx hy)
      have HR := Lib.hid hr
      have HM := Lib.hid fun k hk => Nat.le_trans (many_le a ss k hk) (Nat.mul_le_mul (show k ≤ 100 by omega) ha1)
      have HF0 : Hid (among a ss 0 = false) := Lib.hid rfl
      have hlI : decide ((100 : Int) < (ss.length : Int)) = false := by simp; omega
      have haI : decide ((1000 : Int) < (a.size : Int)) = false := by simp; omega
      clear hr
      go_enter Try.func5, Try.ntmps5
      go_wp2_with fail
      refine (CA.out _).mono ?_
      rintro e w1 ⟨rfl, hb1⟩
      have B1 := Lib.hid hb1
      have R1 := Lib.hid ((HR.out.below hb1).more hb1.size)
      clear hb1
      go_wp2_with fail
      refine (CY.out _ R1.out).mono ?_
      rintro e w2 ⟨rfl, hb2⟩
      have B2 := Lib.hid (below_step B1.out hb2)
      clear hb2 B1 R1 CA CY
      go_wp2
      go_loopw [13, 14, 37] (fun v13 v14 v37 wr => ∃ (k : Nat) (t : Bool) (m : Nat), k ≤ ss.length ∧ v37 = .int .i64 (k : Int) ∧ v13 = .bool t ∧ v14 = .int .i64 (m : Int) ∧ Hid (t = among a ss k) ∧ Hid (m = many a ss k) ∧ Hid (Below w.heap.size w wr)) (fun _ _ v37 _ => ss.length - (intOf v37).toNat)
      case atStart => exact ⟨0, false, 0, Nat.zero_le _, rfl, rfl, rfl, Lib.hid rfl, Lib.hid rfl, B2⟩
      case round =>
        obtain ⟨k, t, m, hk, rfl, rfl, rfl, HT, HMk, HB⟩ := hrel
        have hm : m ≤ 100 * 1000 := by rw [HMk.out]; exact HM.out k hk
        clear B2
        by_cases hlt : k < ss.length
        · obtain ⟨b, off, rfl, hbB, hcell⟩ := (HR.out.below HB.out) k (by rw [stv_length]; exact hlt)
          rw [stv_at] at hcell
          have HA := Lib.hid (among_next a ss k hlt)
          have HY := Lib.hid (many_next a ss k hlt)
          rw [← HT.out] at HA
          rw [← HMk.out] at HY
          clear HT HMk
          generalize ss[k] = s at *
          have CR := Lib.hid (rsame_below2 a s ha)
          generalize eqB a s = u at *
          by_cases he : s.size = a.size
          · have heI : ((s.size : Int) == (a.size : Int)) = true := by rw [beq_iff_eq]; omega
            have hc : cnt a s = a.size := if_pos he.symm
            rw [hc] at HY
            clear he hc
            cases t
            · go_wp2_with fail
              refine (CR.out _).mono ?_
              rintro e w3 ⟨rfl, hb3⟩
              have B3 := Lib.hid (below_step HB.out hb3)
              clear hb3 CR HB hcell
              cases u
              all_goals
                go_wp2
                go_roundw
                case rel => exact ⟨k + 1, _, m + a.size, by omega, by go_num, rfl, by go_num, Lib.hid HA.out.symm, Lib.hid HY.out.symm, B3⟩
                case measure => simp [intOf]; omega
            · go_wp2
              go_roundw
              case rel => exact ⟨k + 1, _, m + a.size, by omega, by go_num, rfl, by go_num, Lib.hid HA.out.symm, Lib.hid HY.out.symm, HB⟩
              case measure => simp [intOf]; omega
          · have heI : ((s.size : Int) == (a.size : Int)) = false := by rw [beq_eq_false_iff_ne]; omega
            have hc : cnt a s = 0 := if_neg (fun h => he h.symm)
            rw [hc] at HY
            clear he hc
            cases t
            · go_wp2_with fail
              refine (CR.out _).mono ?_
              rintro e w3 ⟨rfl, hb3⟩
              have B3 := Lib.hid (below_step HB.out hb3)
              clear hb3 CR HB hcell
              cases u
              all_goals
                go_wp2
                go_roundw
                case rel => exact ⟨k + 1, _, m, by omega, by go_num, rfl, rfl, Lib.hid HA.out.symm, Lib.hid HY.out.symm, B3⟩
                case measure => simp [intOf]; omega
            · go_wp2
              go_roundw
              case rel => exact ⟨k + 1, _, m, by omega, by go_num, rfl, rfl, Lib.hid HA.out.symm, Lib.hid HY.out.symm, HB⟩
              case measure => simp [intOf]; omega
        · obtain rfl : k = ss.length := by omega
          have hself : ((m : Int) != (m : Int)) = false := by simp
          rw [← HT.out, ← HMk.out]
          go_wp2_with fail
          refine (CP.out _).mono ?_
          rintro e w3 ⟨rfl, rfl⟩
          have hselfT : (t != t) = false := by cases t <;> rfl
          by_cases h0 : bit = 0
          · subst h0
            rw [show pick 0 x y = y from rfl, show pickE 0 = 0 from rfl]
            have hyy : ((y : Int) == (y : Int)) = true := by simp
            go_wp2
            go_ret
            exact ⟨rfl, HB.out⟩
          · by_cases h1 : bit = 1
            · subst h1
              rw [show pick 1 x y = x from rfl, show pickE 1 = 0 from rfl]
              have hxx : ((x : Int) == (x : Int)) = true := by simp
              go_wp2
              go_ret
              exact ⟨rfl, HB.out⟩
            · have hb0 : (bit == 0) = false := by rw [beq_eq_false_iff_ne]; exact h0
              have hb1 : (bit == 1) = false := by rw [beq_eq_false_iff_ne]; exact h1
              have HP1 : pick bit x y = 0 := by simp [pick, h0, h1]
              have HP2 : pickE bit = 1 := by simp [pickE, h0, h1]
              rw [HP1, HP2]
              clear h0 h1 HP1 HP2
              go_wp2
              go_ret
              exact ⟨rfl, HB.out⟩
    · have hlI : decide ((100 : Int) < (ss.length : Int)) = false := by simp; omega
      have haI : decide ((1000 : Int) < (a.size : Int)) = true := by simp; omega
      clear hr
      go_enter Try.func5, Try.ntmps5
      go_wp2_with fail
      refine (CA.out _).mono ?_
      rintro e w1 ⟨rfl, hb1⟩
      have B1 := Lib.hid hb1
      clear hb1
      go_wp2
      go_ret
      exact ⟨rfl, B1.out⟩
  · have hlI : decide ((100 : Int) < (ss.length : Int)) = true := by simp; omega
    clear hr
    go_enter Try.func5, Try.ntmps5
    go_wp2_with fail
    refine (CA.out _).mono ?_
    rintro e w1 ⟨rfl, hb1⟩
    have B1 := Lib.hid hb1
    clear hb1
    go_wp2
    go_ret
    exact ⟨rfl, B1.out⟩
end Go.Proofs.Yticjndlgjbbemaa
