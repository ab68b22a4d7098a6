/- The example of chapter 19 by its contract. No condition. -/
import Derived.Test.YtnolgjbehnjomaaBbBytes
namespace Go.Proofs.Ytnolgjbehnjomaa
set_option maxRecDepth 50000
open Go.RowKit Bb

theorem ex_ok : okb (ofB [1, 2]) := ofB_ok (by decide) (by decide)
theorem ex_0 : (sb (ofB [1, 2]) 1 7).getD 0 0 = 30064771073 := by decide
theorem ex_1 : (sb (ofB [1, 2]) 1 7).getD 1 0 = 2 := by decide
set_option maxHeartbeats 1600000 in
theorem awake19_any (w : World) : Calls Try.prog 6 #[] w fun e w' => e = .returned (.bool true) ∧ Below w.heap.size w w' := by
  have hz := zero_b
  go_enter Try.func6, Try.ntmps6
  go_wp2_with fail
  have hb0 := (Below.refl _ w).alloc (Nat.le_refl _) (.cells #[.int .u64 1, .int .u64 2] 24)
  have hR0 : Reads (w.alloc (.cells #[.int .u64 1, .int .u64 2] 24)) (w.alloc (.cells #[.int .u64 1, .int .u64 2] 24)).heap.size (some ⟨w.heap.size, 0, none⟩) (u64s [1, 2]) := fun k hk => by
    have hr := RowAt.new w 24 #[.int .u64 1, .int .u64 2]
    refine ⟨_, _, rfl, hr.lt, ?_⟩
    rw [Nat.zero_add, hr.cell k]
    have hk2 : k < 2 := hk
    rcases (show k = 0 ∨ k = 1 by omega) with rfl | rfl <;> rfl
  refine (of_any _ 2 [1, 2] (by decide) (by decide) _ hR0).mono ?_
  rintro e w2 ⟨rfl, hb2⟩
  have HB2 := Lib.hid (below_step hb0 hb2)
  have HEX := Lib.hid ex_ok
  have H0 := Lib.hid ex_0
  have H1 := Lib.hid ex_1
  have HSL : Hid ((sb (ofB [1, 2]) 1 7).length = 128) := Lib.hid (by decide)
  clear hR0 hb0 hb2
  generalize ofB [1, 2] = z at *
  have HZ : Hid ((wq z).size = 128) := Lib.hid (by rw [wq_size]; exact HEX.out.1)
  have RN := Lib.hid (RowAt.new w2 26 (wq zb))
  have RZ := Lib.hid (RN.out.setRow (wq z))
  have HB3 : Hid (Below w2.heap.size w2 ((w2.alloc (.cells (wq zb) 26)).setRow w2.heap.size (wq z))) := Lib.hid (below_setRow ((Below.refl _ w2).alloc (Nat.le_refl _) _) (Nat.le_refl _) _)
  obtain ⟨b, hb⟩ : ∃ b, b = w2.heap.size := ⟨_, rfl⟩
  rw [← hb] at RZ HB3 RN
  go_wp2_with (refine wpList_store_row rfl 26 (.tmp 1) (.tmp 7) rfl w2.heap.size (wq z) rfl rfl 26 _ (by rw [← hb]; exact RN.out) (by rw [HZ.out]; exact b_size) (by rw [HZ.out]; rfl) (wq_one _) ?_)
  rw [← hb]
  generalize World.setRow _ _ _ = w3 at *
  have HBB := Lib.hid hb
  clear hb RN
  refine (set_any RZ.out HEX.out 1 (by decide) 7 (by decide)).mono ?_
  rintro e w4 ⟨rfl, hr4, hk4⟩
  have HB4 := Lib.hid (below_step HB2.out (HB3.out.trans (hk4.below (by rw [HBB.out]; exact HB3.out.size) (by intro x hx; subst hx; exact Nat.le_refl _)) |>.mono (Nat.le_of_eq HBB.out.symm)))
  have c0 := (hr4.cell 0).trans (wq_at _ 0 (by rw [HSL.out]; decide))
  have c1 := (hr4.cell 1).trans (wq_at _ 1 (by rw [HSL.out]; decide))
  rw [H0.out] at c0
  rw [H1.out] at c1
  clear hr4 hk4 HB2 HB3 RZ
  go_wp2
  go_ret
  exact ⟨rfl, HB4.out⟩
end Go.Proofs.Ytnolgjbehnjomaa
