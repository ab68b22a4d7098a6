/- The law EqualTells by the calls' contracts. Conditions: the first text has at most 2^44 bytes, the other no more than what may come in. -/
import Derived.Test.YticjndlgjbbemaaEqAwake
namespace Go.Proofs.Yticjndlgjbbemaa
set_option maxRecDepth 50000
open Go.RowKit

theorem rsame_below (a b : ByteArray) (ha : a.size ≤ 140737488351232) (w : World) : Calls Try.prog 8 #[.string a, .string b] w fun e w' => e = .returned (.bool (eqB a b)) ∧ Below w.heap.size w w' :=
  (rsame_any a b ha w).mono fun e w' ⟨h1, q, h2⟩ => ⟨h1, by subst h2; exact below_drewN (Below.refl _ w) q⟩

set_option maxHeartbeats 3200000 in
theorem tells_any (a b : ByteArray) (ha : a.size ≤ 17592186044416) (w : World) :
    Calls Try.prog 3 #[.string a, .string b] w fun e w' => e = .returned (.bool true) ∧ Below w.heap.size w w' := by
  have CA := Lib.hid awake_any
  have CT := Lib.hid (trace_reads a b ha)
  have CR := Lib.hid (rsame_below a b (by omega))
  have CS := Lib.hid (esame_any a b (by omega))
  have CE := Lib.hid (esame_any a a (by omega))
  rw [eqB_self] at CE
  by_cases hs : a.size = b.size
  · have hsI : ((a.size : Int) == (b.size : Int)) = true := by rw [beq_iff_eq]; omega
    have hsN : ((a.size : Int) != (b.size : Int)) = false := by simp [bne, hsI]
    have hc : cnt a b = a.size := if_pos hs
    rw [hc] at CT
    clear hs hc
    cases eqB a b
    all_goals
      go_enter Try.func3, Try.ntmps3
      go_wp2_with fail
      refine (CA.out _).mono ?_
      rintro e w1 ⟨rfl, hb1⟩
      have B1 := Lib.hid hb1
      clear hb1
      go_wp2_with fail
      refine (CT.out _).mono ?_
      rintro e w2 ⟨A, c, rfl, hr2, hb2⟩
      have B2 := Lib.hid (below_step B1.out hb2)
      have R2 := Lib.hid hr2
      clear hb2 hr2
      go_wp2_with fail
      refine (CR.out _).mono ?_
      rintro e w3 ⟨rfl, hb3⟩
      have B3 := Lib.hid (below_step B2.out hb3)
      have R3 := Lib.hid ((R2.out.below hb3).more hb3.size)
      clear hb3
      go_wp2_with fail
      refine (CS.out _).mono ?_
      rintro e w4 ⟨rfl, hb4⟩
      have B4 := Lib.hid (below_step B3.out hb4)
      have R4 := Lib.hid ((R3.out.below hb4).more hb4.size)
      clear hb4
      go_wp2_with fail
      refine (CE.out _).mono ?_
      rintro e w5 ⟨rfl, hb5⟩
      have B5 := Lib.hid (below_step B4.out hb5)
      have R5 := Lib.hid ((R4.out.below hb5).more hb5.size)
      clear hb5 R2 R3 R4 B1 B2 B3 B4 CA CT CR CS CE
      have hself : ((a.size : Int) != (a.size : Int)) = false := by simp
      go_wp2
      go_loopw [49] (fun v49 wr => ∃ k : Nat, k ≤ a.size ∧ v49 = .int .i64 (k : Int) ∧ wr = w5) (fun v49 _ => a.size - (intOf v49).toNat)
      case atStart => exact ⟨0, Nat.zero_le _, rfl, rfl⟩
      case round =>
        obtain ⟨k, hk, rfl, rfl⟩ := hrel
        by_cases hlt : k < a.size
        · obtain ⟨g, off, rfl, hbB, hcell⟩ := R5.out k (by rw [stp_length]; exact hlt)
          rw [stp_at] at hcell
          have NE := Lib.hid fun w => nestep k (by omega) w
          go_wp2_with (refine wpList_value_want rfl (.bool false) (neq_run _ _ _ _ _ _ rfl rfl rfl g_step (NE.out _)) ?_)
          go_roundw
          case rel => exact ⟨k + 1, by omega, by go_num, trivial⟩
          case measure => simp [intOf]; omega
        · obtain rfl : k = a.size := by omega
          go_wp2
          go_ret
          exact ⟨rfl, B5.out⟩
  · have hsI : ((a.size : Int) == (b.size : Int)) = false := by rw [beq_eq_false_iff_ne]; omega
    have hc : cnt a b = 0 := if_neg hs
    rw [hc] at CT
    rw [eqB_len a b hs] at CT CR CS
    clear hs hc
    go_enter Try.func3, Try.ntmps3
    go_wp2_with fail
    refine (CA.out _).mono ?_
    rintro e w1 ⟨rfl, hb1⟩
    have B1 := Lib.hid hb1
    clear hb1
    go_wp2_with fail
    refine (CT.out _).mono ?_
    rintro e w2 ⟨A, c, rfl, hr2, hb2⟩
    have B2 := Lib.hid (below_step B1.out hb2)
    clear hb2 hr2
    go_wp2_with fail
    refine (CR.out _).mono ?_
    rintro e w3 ⟨rfl, hb3⟩
    have B3 := Lib.hid (below_step B2.out hb3)
    clear hb3
    go_wp2_with fail
    refine (CS.out _).mono ?_
    rintro e w4 ⟨rfl, hb4⟩
    have B4 := Lib.hid (below_step B3.out hb4)
    clear hb4
    go_wp2_with fail
    refine (CE.out _).mono ?_
    rintro e w5 ⟨rfl, hb5⟩
    have B5 := Lib.hid (below_step B4.out hb5)
    clear hb5
    go_wp2
    go_ret
    exact ⟨rfl, B5.out⟩
end Go.Proofs.Yticjndlgjbbemaa
