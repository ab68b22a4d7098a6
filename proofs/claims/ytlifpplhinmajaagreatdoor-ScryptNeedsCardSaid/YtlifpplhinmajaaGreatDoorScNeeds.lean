/- The law ScryptNeeds, for every log, r, p and size. Condition: both packages' tables lie at their places. -/
import Derived.Test.YtlifpplhinmajaaGreatDoorScAwake
namespace Go.Proofs.YtlifpplhinmajaaGreatDoor
set_option maxRecDepth 50000
open Go.RowKit Bb Sl Sha

theorem check_two (log r p b : Int) : ∃ (E : Int) (B : Bool), (∀ w, Calls Tryz.prog 7 #[.int .i64 log, .int .i64 r, .int .i64 p, .int .i64 b] w fun e w' => e = .returned (.int .i64 E) ∧ w = w') ∧
    (∀ w, Calls Tryz.prog 8 #[.int .i64 log, .int .i64 r, .int .i64 p, .int .i64 b] w fun e w' => e = .returned (.bool B) ∧ w = w') ∧ ((E = 0 ∧ B = true) ∨ (E = 2 ∧ B = false)) := by
  rcases sc_ways log r p b with ⟨lg, R, P, n, rfl, rfl, rfl, rfl, hF⟩ | hB
  · exact ⟨0, true, scheck_ok hF, rcheck_ok hF, .inl ⟨rfl, rfl⟩⟩
  · exact ⟨2, false, scheck_bad hB, rcheck_bad hB, .inr ⟨rfl, rfl⟩⟩
set_option maxHeartbeats 3200000 in
theorem sneeds_any (log r p b : Int) (w : World) (hk : KAt w) (hq : QAt w) :
    Calls Tryz.prog 3 #[.int .i64 log, .int .i64 r, .int .i64 p, .int .i64 b] w fun e w' => e = .returned (.bool true) ∧ Below w.heap.size w w' := by
  have CA := Lib.hid (awake25_any w hk hq)
  clear hk hq
  obtain ⟨E, B, hC, hR, hx⟩ := check_two log r p b
  have HC := Lib.hid hC
  have HR := Lib.hid hR
  clear hC hR
  rcases sc_ways log r p 1 with ⟨lg, R, P, n, rfl, rfl, rfl, hn, hF⟩ | hB
  · obtain rfl : n = 1 := by omega
    have C1 := Lib.hid (rcheck_ok hF)
    have C2 := Lib.hid (sneed_ok hF)
    have C3 := Lib.hid (rneed_ok hF)
    clear hF hn
    generalize needN lg R P = D at *
    rcases hx with ⟨rfl, rfl⟩ | ⟨rfl, rfl⟩
    all_goals
      go_enter Tryz.func3, Tryz.ntmps3
      go_wp2_with fail
      refine CA.out.mono ?_
      rintro e w1 ⟨rfl, hb⟩
      have HB := Lib.hid hb
      clear hb
      go_wp2_with fail
      refine (HC.out _).mono ?_
      rintro e w' ⟨rfl, rfl⟩
      go_wp2_with fail
      refine (HR.out _).mono ?_
      rintro e w' ⟨rfl, rfl⟩
      go_wp2_with fail
      refine (C2.out _).mono ?_
      rintro e w2 ⟨rfl, hb⟩
      have HB2 := Lib.hid (below_step HB.out hb)
      clear hb
      go_wp2_with fail
      refine (C1.out _).mono ?_
      rintro e w' ⟨rfl, rfl⟩
      go_wp2_with fail
      refine (C3.out _).mono ?_
      rintro e w' ⟨rfl, rfl⟩
      go_wp2
      go_ret
      exact ⟨rfl, HB2.out⟩
  · have C1 := Lib.hid (rcheck_bad hB)
    have C2 := Lib.hid (sneed_bad hB)
    clear hB
    rcases hx with ⟨rfl, rfl⟩ | ⟨rfl, rfl⟩
    all_goals
      go_enter Tryz.func3, Tryz.ntmps3
      go_wp2_with fail
      refine CA.out.mono ?_
      rintro e w1 ⟨rfl, hb⟩
      have HB := Lib.hid hb
      clear hb
      go_wp2_with fail
      refine (HC.out _).mono ?_
      rintro e w' ⟨rfl, rfl⟩
      go_wp2_with fail
      refine (HR.out _).mono ?_
      rintro e w' ⟨rfl, rfl⟩
      go_wp2_with fail
      refine (C2.out _).mono ?_
      rintro e w2 ⟨rfl, hb⟩
      have HB2 := Lib.hid (below_step HB.out hb)
      clear hb
      go_wp2_with fail
      refine (C1.out _).mono ?_
      rintro e w' ⟨rfl, rfl⟩
      go_wp2
      go_ret
      exact ⟨rfl, HB2.out⟩
/-- an arena is made -/
theorem anew_kit (n : Nat) (h : n ≤ 4194304) (w : World) (hk : KAt w) (hq : QAt w) : Calls Tryz.prog 11 #[.int .i64 (n : Int)] w fun e w' => ∃ a, e = .returned (.tuple #[.pointer (some ⟨a, 0, none⟩), .int .i64 0]) ∧ AreAt w' a n 0 0 0 ∧ KAt w' ∧ QAt w' ∧ ¬ 2 = a ∧ ¬ 0 = a ∧ w.heap.size ≤ a ∧ Below w.heap.size w w' := by
  refine (anew_any n h w).mono ?_
  rintro e w' ⟨rfl, hA, hb⟩
  have h1 := hq.1
  have h2 := hk.1
  exact ⟨_, rfl, hA, hk.next hb, hq.next hb, by omega, by omega, Nat.le_refl _, hb⟩
end Go.Proofs.YtlifpplhinmajaaGreatDoor
