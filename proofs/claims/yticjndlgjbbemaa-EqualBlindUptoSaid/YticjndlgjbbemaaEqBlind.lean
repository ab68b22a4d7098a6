/- The law EqualBlind by the calls' contracts. Conditions: the first and the third text have at most 2^44 bytes, the others no more than what may come in. -/
import Derived.Test.YticjndlgjbbemaaEqAwake
namespace Go.Proofs.Yticjndlgjbbemaa
set_option maxRecDepth 50000
open Go.RowKit

set_option maxHeartbeats 3200000 in
theorem blind_any (a b c d : ByteArray) (ha : a.size ≤ 17592186044416) (hc : c.size ≤ 17592186044416) (w : World) :
    Calls Try.prog 4 #[.string a, .string b, .string c, .string d] w fun e w' => e = .returned (.bool true) ∧ Below w.heap.size w w' := by
  have CA := Lib.hid awake_any
  have CT := Lib.hid (trace_reads a b ha)
  have CU := Lib.hid (trace_reads c d hc)
  by_cases h1 : a.size = c.size
  · by_cases h2 : b.size = d.size
    · have e1 : ((a.size : Int) == (c.size : Int)) = true := by rw [beq_iff_eq]; omega
      have e2 : ((b.size : Int) == (d.size : Int)) = true := by rw [beq_iff_eq]; omega
      have n1 : ((a.size : Int) != (c.size : Int)) = false := by simp [bne, e1]
      have n2 : ((b.size : Int) != (d.size : Int)) = false := by simp [bne, e2]
      have hcn : cnt c d = cnt a b := by unfold cnt; rw [h1, h2]
      rw [hcn] at CU
      have hle : cnt a b ≤ a.size := by unfold cnt; split <;> omega
      clear h1 h2 hcn
      generalize cnt a b = n at *
      generalize eqB a b = t1 at *
      generalize eqB c d = t2 at *
      go_enter Try.func4, Try.ntmps4
      go_wp2_with fail
      refine (CA.out _).mono ?_
      rintro e w1 ⟨rfl, hb1⟩
      have B1 := Lib.hid hb1
      clear hb1
      go_wp2_with fail
      refine (CT.out _).mono ?_
      rintro e w2 ⟨A, c1, rfl, hr2, hb2⟩
      have B2 := Lib.hid (below_step B1.out hb2)
      have R2 := Lib.hid hr2
      clear hb2 hr2
      go_wp2_with fail
      refine (CU.out _).mono ?_
      rintro e w3 ⟨A2, c2, rfl, hr3, hb3⟩
      have B3 := Lib.hid (below_step B2.out hb3)
      have R3 := Lib.hid ((R2.out.below hb3).more hb3.size)
      have S3 := Lib.hid hr3
      clear hb3 hr3 R2 B1 B2 CA CT CU
      have hself : ((n : Int) != (n : Int)) = false := by simp
      go_wp2
      go_loopw [47] (fun v47 wr => ∃ k : Nat, k ≤ n ∧ v47 = .int .i64 (k : Int) ∧ ∃ q, wr = w3.drewN q) (fun v47 _ => n - (intOf v47).toNat)
      case atStart => exact ⟨0, Nat.zero_le _, rfl, 0, rfl⟩
      case round =>
        obtain ⟨k, hk, rfl, q, rfl⟩ := hrel
        by_cases hlt : k < n
        · obtain ⟨g, off, rfl, hbB, hcell⟩ := R3.out k (by rw [stp_length]; exact hlt)
          rw [stp_at] at hcell
          obtain ⟨g2, off2, rfl, hbB2, hcell2⟩ := S3.out k (by rw [stp_length]; exact hlt)
          rw [stp_at] at hcell2
          have hkI : (k : Int) < (n : Int) := by omega
          go_wp2
          go_quiet (fail)
          go_wp2
          go_roundw
          case rel => exact ⟨k + 1, by omega, by go_num, _, by first | rfl | exact World.drewN_drewN _ _ _⟩
          case measure => simp [intOf]; omega
        · obtain rfl : k = n := by omega
          go_wp2
          go_ret
          exact ⟨rfl, below_drewN B3.out _⟩
    · have e1 : ((a.size : Int) == (c.size : Int)) = true := by rw [beq_iff_eq]; omega
      have e2 : ((b.size : Int) == (d.size : Int)) = false := by rw [beq_eq_false_iff_ne]; omega
      have n1 : ((a.size : Int) != (c.size : Int)) = false := by simp [bne, e1]
      have n2 : ((b.size : Int) != (d.size : Int)) = true := by simp [bne, e2]
      clear h1 h2 CT CU
      go_enter Try.func4, Try.ntmps4
      go_wp2_with fail
      refine (CA.out _).mono ?_
      rintro e w1 ⟨rfl, hb1⟩
      have B1 := Lib.hid hb1
      clear hb1
      go_wp2
      go_ret
      exact ⟨rfl, B1.out⟩
  · have e1 : ((a.size : Int) == (c.size : Int)) = false := by rw [beq_eq_false_iff_ne]; omega
    have n1 : ((a.size : Int) != (c.size : Int)) = true := by simp [bne, e1]
    clear h1 CT CU
    go_enter Try.func4, Try.ntmps4
    go_wp2_with fail
    refine (CA.out _).mono ?_
    rintro e w1 ⟨rfl, hb1⟩
    have B1 := Lib.hid hb1
    clear hb1
    go_wp2
    go_ret
    exact ⟨rfl, B1.out⟩
end Go.Proofs.Yticjndlgjbbemaa
