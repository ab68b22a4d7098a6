/- RootPrimes's body: it returns true, and old memory is as it was. No condition. -/
import Derived.Test.YtfkokgcfjminiaaRtAwake
import Derived.Deep.QuietTactic
import Derived.BigQuiet
import Derived.WalkSmall
namespace Go.Proofs.Ytfkokgcfjminiaa
open Go.RowKit

set_option maxHeartbeats 800000 in
theorem four_any (n : Int) (w : World) : Calls Try.prog 3 #[.int .i64 n] w fun e w' => e = .returned (.bool true) ∧ Below w.heap.size w w' := by
  by_cases h0 : n < 0
  · have P := Lib.hid fun w => primes_bad n (.inl h0) w
    go_enter Try.func3, Try.ntmps3
    go_wp2_with (go_at_call 7; refine (awake_any _).mono ?_; rintro e w1 ⟨rfl, hb⟩)
    refine (P.out _).mono ?_
    rintro e w' ⟨rfl, rfl⟩
    go_wp2
    go_ret
    exact ⟨rfl, hb⟩
  · by_cases h1 : 1000 < n
    · have P := Lib.hid fun w => primes_bad n (.inr ⟨by omega, h1⟩) w
      go_enter Try.func3, Try.ntmps3
      go_wp2_with (go_at_call 7; refine (awake_any _).mono ?_; rintro e w1 ⟨rfl, hb⟩)
      refine (P.out _).mono ?_
      rintro e w' ⟨rfl, rfl⟩
      go_wp2
      go_ret
      exact ⟨rfl, hb⟩
    · by_cases h2 : 200 < n
      · go_enter Try.func3, Try.ntmps3
        go_wp2_with (go_at_call 7; refine (awake_any _).mono ?_; rintro e w1 ⟨rfl, hb⟩)
        go_ret
        exact ⟨rfl, hb⟩
      · obtain ⟨m, rfl⟩ : ∃ m : Nat, n = (m : Int) := ⟨n.toNat, by omega⟩
        have hm : m ≤ 200 := by omega
        have P := Lib.hid fun w => primes_good m hm w
        have F := Lib.hid fun w => first_any m hm w
        have hlen := firstP_length hm
        generalize firstP m = f at *
        subst hlen
        go_enter Try.func3, Try.ntmps3
        go_wp2_with (go_at_call 7; refine (awake_any _).mono ?_; rintro e w1 ⟨rfl, hb⟩)
        refine (P.out _).mono ?_
        rintro e w2 ⟨v, rfl, hown, hb2⟩
        obtain ⟨A, c, rfl, ho1, ho2, ho3⟩ := own_form hown
        clear ho1 ho2 ho3
        have hR := Reads.of_own hown
        have hb3 := step_trans hb hb2
        clear hb hb2 hown
        go_wp2_with fail
        refine (F.out _).mono ?_
        rintro e w3 ⟨v, rfl, hown, hb2⟩
        obtain ⟨A2, c2, rfl, ho1, ho2, ho3⟩ := own_form hown
        clear ho1 ho2 ho3
        have hR1 := Lib.hid (hR.below hb2)
        have hR2 := Lib.hid (Reads.of_own hown)
        have hb := step_trans hb3 hb2
        have hown0 := hb2.size
        clear hb3 hb2 hown hR
        go_wp2
        go_loopw [6, 46] (fun _ i wr => ∃ k : Nat, k ≤ f.length ∧ i = .int .i64 k ∧ Hid (Reads wr w3.heap.size A (ints f)) ∧ Hid (Reads wr w3.heap.size A2 (ints f)) ∧ Below w.heap.size w wr) (fun _ i _ => f.length - (intOf i).toNat)
        case atStart => exact ⟨0, Nat.zero_le _, rfl, Lib.hid (hR1.out.more hown0), hR2, hb⟩
        case round =>
          obtain ⟨k, hk, rfl, hR1, hR2, hb⟩ := hrel
          by_cases hlt : k < f.length
          · obtain ⟨b, off, rfl, hbB, hcell⟩ := hR1.out k (by rw [ints_length]; exact hlt)
            obtain ⟨b2, off2, rfl, hbB2, hcell2⟩ := hR2.out k (by rw [ints_length]; exact hlt)
            rw [int_at] at hcell hcell2
            generalize f[k] = x at *
            go_wp2
            go_quiet (fail)
            go_wp2
            go_roundw
            case rel => exact ⟨k + 1, by omega, by go_num, Lib.hid (hR1.out.drewN _), Lib.hid (hR2.out.drewN _), below_drewN hb _⟩
            case measure => simp [intOf]; omega
          · obtain rfl : k = f.length := by omega
            go_wp2
            go_ret
            exact ⟨rfl, hb⟩
end Go.Proofs.Ytfkokgcfjminiaa
