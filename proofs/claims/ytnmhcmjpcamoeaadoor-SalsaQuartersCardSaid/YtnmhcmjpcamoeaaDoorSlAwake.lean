/- Chapter 12's example by the calls' contracts, and the law SalsaQuarters. Condition: the package's table reads as it was laid. -/
import Derived.Test.YtnmhcmjpcamoeaaDoorSlCore
import Derived.Test.YtnmhcmjpcamoeaaDoorSlRef
import Derived.Test.YtnmhcmjpcamoeaaDoorSlEq
namespace Go.Proofs.YtnmhcmjpcamoeaaDoor
set_option maxRecDepth 50000
open Go.RowKit Rot Sl

theorem zeros_ok : okw (List.replicate 16 0) := by
  intro x hx
  rw [List.eq_of_mem_replicate hx]; decide
set_option maxHeartbeats 1600000 in
theorem awake_any (w : World) (hk : QAt w) : Calls Tryd.prog 6 #[] w fun e w' => e = .returned (.bool true) ∧ Below w.heap.size w w' := by
  have CQ : Hid (∀ w, Calls Tryd.prog 7 #[.int .u32 1, .int .u32 0, .int .u32 0, .int .u32 0] w fun e w' => e = .returned (.tuple #[.int .u32 134250821, .int .u32 128, .int .u32 66048, .int .u32 542113792]) ∧ w = w') := Lib.hid fun w => by
    have h := quarter_any ⟨1, 0, 0, 0⟩ ⟨by decide, by decide, by decide, by decide⟩ w
    rw [quarter_one] at h
    exact h
  have CE : Hid (Calls Tryd.prog 12 #[.agg (wd (List.replicate 16 0))] w fun e w' => e = .returned (.agg (wd (List.replicate 16 0))) ∧ Below w.heap.size w w') := Lib.hid (by
    have h := eight_any (List.replicate 16 0) (by simp) zeros_ok w hk
    rwa [core_zero] at h)
  have EQ : Hid (∀ w, (binOp .eql 23 (.agg (wd (List.replicate 16 0))) (.agg (wd (List.replicate 16 0)))).run Tryd.prog w = .ok (.bool true) w) := Lib.hid fun w => same_w16 _ (by simp) zeros_ok w
  clear hk
  go_enter Tryd.func6, Tryd.ntmps6
  go_wp2_with fail
  refine (CQ.out _).mono ?_
  rintro e w1 ⟨rfl, rfl⟩
  go_wp2_with fail
  refine CE.out.mono ?_
  rintro e w1 ⟨rfl, hb⟩
  have HB := Lib.hid hb
  clear hb
  go_wp2_with (refine wpList_value_want rfl (.bool true) (eql_run w1 _ _ _ _ _ rfl rfl rfl g_w16 (EQ.out w1)) ?_)
  go_ret
  exact ⟨rfl, HB.out⟩
end Go.Proofs.YtnmhcmjpcamoeaaDoor
