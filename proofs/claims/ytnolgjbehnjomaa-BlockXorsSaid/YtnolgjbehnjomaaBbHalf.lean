/- Half and SetHalf of package block, and the document's Half, by their contracts. Conditions: those typed. -/
import Derived.Test.YtnolgjbehnjomaaBbEq
import Derived.Test.YtnolgjbehnjomaaFdHeld
import Derived.IntWalk
import Derived.Lib.Hide
import Derived.Deep.QuietTactic
import Derived.BigQuiet
import Derived.BigRegion
import Derived.StillTailTactics
namespace Go.Proofs.Ytnolgjbehnjomaa
set_option maxRecDepth 50000
open Go.RowKit Bb

theorem below_any (i j r : Nat) (hi : i = 2 * j + r) (hr : r < 2) (hb : i < 256) (w : World) : Calls Try.prog 21 #[.int .i64 (i : Int)] w fun e w' => e = .returned (.int .i64 (if r = 0 then 0 else 32)) ∧ w = w' := by
  have e2 : (i : Int).tmod 2 = (r : Int) := by rw [Int.tmod_eq_emod_of_nonneg (by omega)]; omega
  have e3 : (i : Int) % 2 = (r : Int) := by omega
  clear hi
  rcases (show r = 0 ∨ r = 1 by omega) with rfl | rfl
  all_goals
    go_enter Try.func21, Try.ntmps21
    go_wp2
    go_ret
    exact ⟨rfl, rfl⟩

theorem has_nil (i : Int) (w : World) : Calls Try.prog 20 #[.pointer none, .int .i64 i] w fun e w' => e = .returned (.bool false) ∧ w = w' := by
  go_enter Try.func20, Try.ntmps20
  go_wp2
  go_ret
  exact ⟨rfl, rfl⟩
theorem has_way (a : Addr) (i : Int) (x y : Bool) (h1 : decide (0 ≤ i) = x) (h2 : decide (i < 256) = y) (w : World) : Calls Try.prog 20 #[.pointer (some a), .int .i64 i] w fun e w' => e = .returned (.bool (x && y)) ∧ w = w' := by
  cases x <;> cases y
  all_goals
    go_enter Try.func20, Try.ntmps20
    go_wp2
    go_ret
    exact ⟨rfl, rfl⟩
theorem has_any (a : Addr) (i : Int) (w : World) : Calls Try.prog 20 #[.pointer (some a), .int .i64 i] w fun e w' => e = .returned (.bool (decide (0 ≤ i ∧ i < 256))) ∧ w = w' := by
  have := has_way a i _ _ rfl rfl w
  rwa [show (decide (0 ≤ i) && decide (i < 256)) = decide (0 ≤ i ∧ i < 256) by simp] at this

theorem half_nil (i : Int) (w : World) : Calls Try.prog 14 #[.pointer none, .int .i64 i] w fun e w' => e = .returned (.int .u32 0) ∧ w = w' := by
  have C := Lib.hid (has_nil i w)
  go_enter Try.func14, Try.ntmps14
  go_wp2_with fail
  refine C.out.mono ?_; rintro e w' ⟨rfl, rfl⟩
  go_wp2
  go_ret
  exact ⟨rfl, rfl⟩
theorem half_bad (a : Addr) (i : Int) (h : i < 0 ∨ 256 ≤ i) (w : World) : Calls Try.prog 14 #[.pointer (some a), .int .i64 i] w fun e w' => e = .returned (.int .u32 0) ∧ w = w' := by
  have C := has_any a i w
  rw [show decide (0 ≤ i ∧ i < 256) = false by simp; omega] at C
  have C := Lib.hid C
  go_enter Try.func14, Try.ntmps14
  go_wp2_with fail
  refine C.out.mono ?_; rintro e w' ⟨rfl, rfl⟩
  go_wp2
  go_ret
  exact ⟨rfl, rfl⟩

set_option maxHeartbeats 1600000 in
theorem half_any {w : World} {b : Nat} {L : List Nat} (hR : RowAt w b 26 (wq L)) (hL : okb L) (i : Nat) (hi : i < 256) : Calls Try.prog 14 #[.pointer (some ⟨b, 0, none⟩), .int .i64 (i : Int)] w fun e w' => e = .returned (.int .u32 (hb L i : Nat)) ∧ ∃ q, w' = w.drewN q := by
  have C := has_any ⟨b, 0, none⟩ i w
  rw [show decide (0 ≤ (i : Int) ∧ (i : Int) < 256) = true by simp; omega] at C
  have C := Lib.hid C
  obtain ⟨j, r, e, hr⟩ : ∃ j r, i = 2 * j + r ∧ r < 2 := ⟨i / 2, i % 2, by omega, by omega⟩
  have hj : j < 128 := by omega
  obtain ⟨z, hz⟩ : ∃ z : Int, z = if r = 0 then 0 else 32 := ⟨_, rfl⟩
  have C2 := fun w => below_any i j r e hr hi w
  rw [← hz] at C2
  have C2 := Lib.hid C2
  have e1 : (i : Int).tdiv 2 = (j : Int) := by rw [Int.tdiv_eq_ediv_of_nonneg (by omega)]; omega
  have e1' : (i : Int) / 2 = (j : Int) := by omega
  have hc : ∀ q, (w.drewN q).cell? ⟨b, j, none⟩ = some (.int .u64 (L.getD j 0 : Nat)) := fun q => (hR.cell j).trans (wq_at L j (by rw [hL.1]; exact hj))
  have hx := ok_at hL j
  have hj0 : (0 : Int) ≤ (j : Int) := by omega
  have hj1 : (j : Int) < 128 := by omega
  have hwj : IntKind.i64.wrap (j : Int) = (j : Int) := by rw [IntKind.wrap_i64]; omega
  have HH : Hid (hb L i = hf (L.getD j 0) r) := Lib.hid (by unfold hb; rw [show i / 2 = j by omega, show i % 2 = r by omega])
  rw [HH.out]
  clear HH e hR hL
  generalize L.getD j 0 = x at *
  rcases (show r = 0 ∨ r = 1 by omega) with rfl | rfl
  · obtain rfl : z = 0 := hz
    have E : Hid (hf x 0 = x % 4294967296) := Lib.hid (by simp [hf])
    rw [E.out]
    clear E
    go_enter Try.func14, Try.ntmps14
    go_wp2_with fail
    refine C.out.mono ?_; rintro e w' ⟨rfl, rfl⟩
    clear C
    go_wp2
    go_quiet (refine Calls.quiet_of_same ((C2.out _).mono fun _ _ h => ⟨h.1, h.2.symm⟩))
    go_wp2
    go_ret
    exact ⟨rfl, _, rfl⟩
  · obtain rfl : z = 32 := hz
    have E : Hid (hf x 1 = x / 4294967296) := Lib.hid (by simp [hf]; omega)
    rw [E.out]
    clear E
    have q1 : (x : Int) / 4294967296 = ((x / 4294967296 : Nat) : Int) := by omega
    have q2 : x / 4294967296 < 4294967296 := by omega
    generalize x / 4294967296 = u at *
    go_enter Try.func14, Try.ntmps14
    go_wp2_with fail
    refine C.out.mono ?_; rintro e w' ⟨rfl, rfl⟩
    clear C
    go_wp2
    go_quiet (refine Calls.quiet_of_same ((C2.out _).mono fun _ _ h => ⟨h.1, h.2.symm⟩))
    go_wp2
    go_ret
    exact ⟨rfl, _, rfl⟩

theorem set_nil (i : Int) (x : Nat) (w : World) : Calls Try.prog 16 #[.pointer none, .int .i64 i, .int .u32 (x : Int)] w fun e w' => e = .returned (.bool false) ∧ w = w' := by
  have C := Lib.hid (has_nil i w)
  go_enter Try.func16, Try.ntmps16
  go_wp2_with fail
  refine C.out.mono ?_; rintro e w' ⟨rfl, rfl⟩
  go_wp2
  go_ret
  exact ⟨rfl, rfl⟩
theorem set_bad (a : Addr) (i : Int) (x : Nat) (h : i < 0 ∨ 256 ≤ i) (w : World) : Calls Try.prog 16 #[.pointer (some a), .int .i64 i, .int .u32 (x : Int)] w fun e w' => e = .returned (.bool false) ∧ w = w' := by
  have C := has_any a i w
  rw [show decide (0 ≤ i ∧ i < 256) = false by simp; omega] at C
  have C := Lib.hid C
  go_enter Try.func16, Try.ntmps16
  go_wp2_with fail
  refine C.out.mono ?_; rintro e w' ⟨rfl, rfl⟩
  go_wp2
  go_ret
  exact ⟨rfl, rfl⟩
theorem frozen_drew (w : World) (p : Addr) : w.drew.frozen? p = w.frozen? p := rfl

set_option maxHeartbeats 1600000 in
theorem set_any {w : World} {b : Nat} {L : List Nat} (hR : RowAt w b 26 (wq L)) (hL : okb L) (i : Nat) (hi : i < 256) (x : Nat) (hx : x < 4294967296) :
    Calls Try.prog 16 #[.pointer (some ⟨b, 0, none⟩), .int .i64 (i : Int), .int .u32 (x : Int)] w fun e w' => e = .returned (.bool true) ∧ RowAt w' b 26 (wq (sb L i x)) ∧ Kept (fun k => k = b) w w' := by
  have C := has_any ⟨b, 0, none⟩ i w
  rw [show decide (0 ≤ (i : Int) ∧ (i : Int) < 256) = true by simp; omega] at C
  have C := Lib.hid C
  obtain ⟨j, r, e, hr⟩ : ∃ j r, i = 2 * j + r ∧ r < 2 := ⟨i / 2, i % 2, by omega, by omega⟩
  have hj : j < 128 := by omega
  obtain ⟨z, hz⟩ : ∃ z : Int, z = if r = 0 then 0 else 32 := ⟨_, rfl⟩
  have C2 := fun w => below_any i j r e hr hi w
  rw [← hz] at C2
  have C2 := Lib.hid C2
  have e1 : (i : Int).tdiv 2 = (j : Int) := by rw [Int.tdiv_eq_ediv_of_nonneg (by omega)]; omega
  have e1' : (i : Int) / 2 = (j : Int) := by omega
  have hc : ∀ tp d os out, (World.mk w.heap tp d os out).cell? ⟨b, j, none⟩ = some (.int .u64 (L.getD j 0 : Nat)) := fun _ _ _ _ => (hR.cell j).trans (wq_at L j (by rw [hL.1]; exact hj))
  have hf0 := hR.frozen j
  have hw := ok_at hL j
  have hj0 : (0 : Int) ≤ (j : Int) := by omega
  have hj1 : (j : Int) < 128 := by omega
  have hwj : IntKind.i64.wrap (j : Int) = (j : Int) := by rw [IntKind.wrap_i64]; omega
  have HF : Hid (∀ y, sb L i x = L.set j y ↔ L.set j (wf (L.getD j 0) r x) = L.set j y) := Lib.hid (by unfold sb; rw [show i / 2 = j by omega, show i % 2 = r by omega]; exact fun _ => Iff.rfl)
  have HS : Hid (∀ y, RowAt (w.drew.setCell ⟨b, j, none⟩ (.int .u64 ((y : Nat) : Int))) b 26 (wq (L.set j y)) ∧ Kept (fun k => k = b) w (w.drew.setCell ⟨b, j, none⟩ (.int .u64 ((y : Nat) : Int)))) := Lib.hid fun y => ⟨by rw [← wq_set]; exact hR.drew.setCell j _, (Kept.refl (fun k => k = b) w).drew.set (p := ⟨b, j, none⟩) (.inl rfl) _⟩
  clear e hR hL
  generalize L.getD j 0 = v at *
  rcases (show r = 0 ∨ r = 1 by omega) with rfl | rfl
  · obtain rfl : z = 0 := hz
    obtain ⟨a1, a2⟩ := low0 v x hw hx
    have hn := wf_lt v 0 x hw hx
    generalize wf v 0 x = n at *
    have hm : v / 4294967296 * 4294967296 < 18446744073709551616 := by omega
    generalize v / 4294967296 * 4294967296 = m at *
    have hxw : IntKind.u64.wrap (x : Int) = (x : Int) := by rw [IntKind.wrap_u64]; omega
    go_enter Try.func16, Try.ntmps16
    go_wp2_with fail
    refine C.out.mono ?_; rintro e w' ⟨rfl, rfl⟩
    clear C
    go_wp2_with fail
    refine (C2.out _).mono ?_; rintro e w' ⟨rfl, rfl⟩
    clear C2
    go_wp2
    refine wp_region_still_tail 19 (by kernel_rfl) (by kernel_rfl) ?_
    simp only [List.take_succ_cons, List.take_zero, List.drop_succ_cons, List.drop_zero]
    repeat still_step
    refine wpStill_nil ?_
    change wpList _ _ _ _ _ w.drew
    have fk : w.drew.frozen? ⟨b, j, none⟩ = false := hf0
    have ck : w.drew.cell? ⟨b, j, none⟩ = some (.int .u64 (v : Int)) := hc _ _ _ _
    clear hc hf0
    generalize w.drew = w2 at *
    go_wp2
    go_ret
    refine ⟨rfl, ?_⟩
    rw [a1, a2, (HF.out n).2 rfl]
    exact HS.out n
  · obtain rfl : z = 32 := hz
    obtain ⟨a1, a2⟩ := low1 v x hw hx
    have hn := wf_lt v 1 x hw hx
    generalize wf v 1 x = n at *
    have hm : v % 4294967296 < 18446744073709551616 := by omega
    generalize v % 4294967296 = m at *
    have hy : x * 4294967296 < 18446744073709551616 := by omega
    have y1 : (x : Int) * 4294967296 = ((x * 4294967296 : Nat) : Int) := by omega
    generalize x * 4294967296 = y at *
    have hyw : IntKind.u64.wrap (y : Int) = (y : Int) := by rw [IntKind.wrap_u64]; omega
    have hxw : IntKind.u64.wrap (x : Int) = (x : Int) := by rw [IntKind.wrap_u64]; omega
    go_enter Try.func16, Try.ntmps16
    go_wp2_with fail
    refine C.out.mono ?_; rintro e w' ⟨rfl, rfl⟩
    clear C
    go_wp2_with fail
    refine (C2.out _).mono ?_; rintro e w' ⟨rfl, rfl⟩
    clear C2
    go_wp2
    refine wp_region_still_tail 19 (by kernel_rfl) (by kernel_rfl) ?_
    simp only [List.take_succ_cons, List.take_zero, List.drop_succ_cons, List.drop_zero]
    repeat still_step
    refine wpStill_nil ?_
    change wpList _ _ _ _ _ w.drew
    have fk : w.drew.frozen? ⟨b, j, none⟩ = false := hf0
    have ck : w.drew.cell? ⟨b, j, none⟩ = some (.int .u64 (v : Int)) := hc _ _ _ _
    clear hc hf0
    generalize w.drew = w2 at *
    go_wp2
    go_ret
    refine ⟨rfl, ?_⟩
    rw [a1, a2, (HF.out n).2 rfl]
    exact HS.out n

/-- the document's Half -/
theorem rhalf_bad (L : List Nat) (i : Int) (h : i < 0 ∨ 256 ≤ i) (w : World) : Calls Try.prog 15 #[.agg (wq L), .int .i64 i] w fun e w' => e = .returned (.int .u32 0) ∧ Below w.heap.size w w' := by
  have HB := Lib.hid ((Below.refl _ w).alloc (Nat.le_refl _) (.cells (wq L) 26))
  rcases (show i < 0 ∨ (¬ i < 0 ∧ 255 < i) by omega) with h1 | ⟨h1, h2⟩
  · have d1 : decide (i < 0) = true := by simp; omega
    clear h
    go_enter Try.func15, Try.ntmps15
    go_wp2
    go_ret
    exact ⟨rfl, HB.out⟩
  · have d1 : decide (i < 0) = false := by simp; omega
    have d2 : decide (i > 255) = true := by simp; omega
    clear h
    go_enter Try.func15, Try.ntmps15
    go_wp2
    go_ret
    exact ⟨rfl, HB.out⟩
set_option maxHeartbeats 1600000 in
theorem rhalf_any {L : List Nat} (hL : okb L) (i : Nat) (hi : i < 256) (w : World) : Calls Try.prog 15 #[.agg (wq L), .int .i64 (i : Int)] w fun e w' => e = .returned (.int .u32 (hb L i : Nat)) ∧ Below w.heap.size w w' := by
  have HB := Lib.hid ((Below.refl _ w).alloc (Nat.le_refl _) (.cells (wq L) 26))
  have hR := RowAt.new w 26 (wq L)
  obtain ⟨j, r, e, hr⟩ : ∃ j r, i = 2 * j + r ∧ r < 2 := ⟨i / 2, i % 2, by omega, by omega⟩
  have hj : j < 128 := by omega
  have e1 : (i : Int).tdiv 2 = (j : Int) := by rw [Int.tdiv_eq_ediv_of_nonneg (by omega)]; omega
  have e1' : (i : Int) / 2 = (j : Int) := by omega
  have e2 : (i : Int).tmod 2 = (r : Int) := by rw [Int.tmod_eq_emod_of_nonneg (by omega)]; omega
  have e2' : (i : Int) % 2 = (r : Int) := by omega
  have hc := (hR.cell j).trans (wq_at L j (by rw [hL.1]; exact hj))
  have hw := ok_at hL j
  have hj0 : (0 : Int) ≤ (j : Int) := by omega
  have hj1 : (j : Int) < 128 := by omega
  have hwj : IntKind.i64.wrap (j : Int) = (j : Int) := by rw [IntKind.wrap_i64]; omega
  have d1 : decide ((i : Int) < 0) = false := by simp
  have d2 : decide ((i : Int) > 255) = false := by simp; omega
  have HH : Hid (hb L i = hf (L.getD j 0) r) := Lib.hid (by unfold hb; rw [show i / 2 = j by omega, show i % 2 = r by omega])
  rw [HH.out]
  clear HH e hR hL
  generalize L.getD j 0 = x at *
  rcases (show r = 0 ∨ r = 1 by omega) with rfl | rfl
  · have E : Hid (hf x 0 = x % 4294967296) := Lib.hid (by simp [hf])
    rw [E.out]
    clear E
    have q1 : (x : Int) % 4294967296 = ((x % 4294967296 : Nat) : Int) := by omega
    have q1' : (x : Int).tmod 4294967296 = ((x % 4294967296 : Nat) : Int) := by rw [Int.tmod_eq_emod_of_nonneg (by omega)]; omega
    have q2 : x % 4294967296 < 4294967296 := by omega
    generalize x % 4294967296 = u at *
    go_enter Try.func15, Try.ntmps15
    go_wp2
    go_ret
    exact ⟨rfl, HB.out⟩
  · have E : Hid (hf x 1 = x / 4294967296) := Lib.hid (by simp [hf]; omega)
    rw [E.out]
    clear E
    have q1 : (x : Int) / 4294967296 = ((x / 4294967296 : Nat) : Int) := by omega
    have q1' : (x : Int).tdiv 4294967296 = ((x / 4294967296 : Nat) : Int) := by rw [Int.tdiv_eq_ediv_of_nonneg (by omega)]; omega
    have q2 : x / 4294967296 < 4294967296 := by omega
    generalize x / 4294967296 = u at *
    go_enter Try.func15, Try.ntmps15
    go_wp2
    go_ret
    exact ⟨rfl, HB.out⟩
end Go.Proofs.Ytnolgjbehnjomaa
