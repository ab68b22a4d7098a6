/- Half and SetHalf of package block, of a block amid others, by their contracts. Conditions: those typed. -/
import Derived.Test.YtohmkhmanidljaaDoorBbEq
import Derived.Test.YtohmkhmanidljaaDoorFdHeld
import Derived.IntWalk
import Derived.Lib.Hide
import Derived.Deep.QuietTactic
import Derived.BigQuiet
import Derived.BigRegion
import Derived.StillTailTactics
namespace Go.Proofs.YtohmkhmanidljaaDoor
set_option maxRecDepth 50000
open Go.RowKit Bb

theorem below_any (i j r : Nat) (hi : i = 2 * j + r) (hr : r < 2) (hb : i < 256) (w : World) : Calls Tryd.prog 46 #[.int .i64 (i : Int)] w fun e w' => e = .returned (.int .i64 (if r = 0 then 0 else 32)) ∧ w = w' := by
  have e2 : (i : Int).tmod 2 = (r : Int) := by rw [Int.tmod_eq_emod_of_nonneg (by omega)]; omega
  have e3 : (i : Int) % 2 = (r : Int) := by omega
  clear hi
  rcases (show r = 0 ∨ r = 1 by omega) with rfl | rfl
  all_goals
    go_enter Tryd.func46, Tryd.ntmps46
    go_wp2
    go_ret
    exact ⟨rfl, rfl⟩

theorem has_way (a : Addr) (i : Int) (x y : Bool) (h1 : decide (0 ≤ i) = x) (h2 : decide (i < 256) = y) (w : World) : Calls Tryd.prog 45 #[.pointer (some a), .int .i64 i] w fun e w' => e = .returned (.bool (x && y)) ∧ w = w' := by
  cases x <;> cases y
  all_goals
    go_enter Tryd.func45, Tryd.ntmps45
    go_wp2
    go_ret
    exact ⟨rfl, rfl⟩
theorem has_any (a : Addr) (i : Int) (w : World) : Calls Tryd.prog 45 #[.pointer (some a), .int .i64 i] w fun e w' => e = .returned (.bool (decide (0 ≤ i ∧ i < 256))) ∧ w = w' := by
  have := has_way a i _ _ rfl rfl w
  rwa [show (decide (0 ≤ i) && decide (i < 256)) = decide (0 ≤ i ∧ i < 256) by simp] at this

set_option maxHeartbeats 1600000 in
theorem halfo_any {w : World} {b o : Nat} {L : List Nat} (hR : RowAt w b 95 (wq L)) (hL : ∀ k, L.getD k 0 < 18446744073709551616) (i : Nat) (hi : i < 256) (ho : o + 128 ≤ L.length) : Calls Tryd.prog 35 #[.pointer (some ⟨b, o, none⟩), .int .i64 (i : Int)] w fun e w' => e = .returned (.int .u32 (hf (L.getD (o + i / 2) 0) (i % 2) : Nat)) ∧ ∃ q, w' = w.drewN q := by
  have C := has_any ⟨b, o, none⟩ i w
  rw [show decide (0 ≤ (i : Int) ∧ (i : Int) < 256) = true by simp; omega] at C
  have C := Lib.hid C
  obtain ⟨j, r, e, hr⟩ : ∃ j r, i = 2 * j + r ∧ r < 2 := ⟨i / 2, i % 2, by omega, by omega⟩
  have hj : j < 128 := by omega
  obtain ⟨z, hz⟩ : ∃ z : Int, z = if r = 0 then 0 else 32 := ⟨_, rfl⟩
  have C2 := fun w => below_any i j r e hr hi w
  rw [← hz] at C2
  have C2 := Lib.hid C2
  have e1 : (i : Int).tdiv 2 = (j : Int) := by rw [Int.tdiv_eq_ediv_of_nonneg (by omega)]; omega
  have e1' : (i : Int) / 2 = (j : Int) := by omega
  have hc : ∀ q, (w.drewN q).cell? ⟨b, o + j, none⟩ = some (.int .u64 (L.getD (o + j) 0 : Nat)) := fun q => (hR.cell (o + j)).trans (wq_at L (o + j) (by omega))
  have hx := hL (o + j)
  have hj0 : (0 : Int) ≤ (j : Int) := by omega
  have hj1 : (j : Int) < 128 := by omega
  have hwj : IntKind.i64.wrap (j : Int) = (j : Int) := by rw [IntKind.wrap_i64]; omega
  rw [show i / 2 = j by omega, show i % 2 = r by omega]
  clear e hR hL ho
  generalize L.getD (o + j) 0 = x at *
  rcases (show r = 0 ∨ r = 1 by omega) with rfl | rfl
  · obtain rfl : z = 0 := hz
    have E : Hid (hf x 0 = x % 4294967296) := Lib.hid (by simp [hf])
    rw [E.out]
    clear E
    go_enter Tryd.func35, Tryd.ntmps35
    go_wp2_with fail
    refine C.out.mono ?_; rintro e w' ⟨rfl, rfl⟩
    clear C
    go_wp2
    go_quiet (refine Calls.quiet_of_same ((C2.out _).mono fun _ _ h => ⟨h.1, h.2.symm⟩))
    go_wp2
    go_ret
    exact ⟨rfl, _, rfl⟩
  · obtain rfl : z = 32 := hz
    have E : Hid (hf x 1 = x / 4294967296) := Lib.hid (by simp [hf]; omega)
    rw [E.out]
    clear E
    have q1 : (x : Int) / 4294967296 = ((x / 4294967296 : Nat) : Int) := by omega
    have q2 : x / 4294967296 < 4294967296 := by omega
    generalize x / 4294967296 = u at *
    go_enter Tryd.func35, Tryd.ntmps35
    go_wp2_with fail
    refine C.out.mono ?_; rintro e w' ⟨rfl, rfl⟩
    clear C
    go_wp2
    go_quiet (refine Calls.quiet_of_same ((C2.out _).mono fun _ _ h => ⟨h.1, h.2.symm⟩))
    go_wp2
    go_ret
    exact ⟨rfl, _, rfl⟩

theorem frozen_drew (w : World) (p : Addr) : w.drew.frozen? p = w.frozen? p := rfl

set_option maxHeartbeats 1600000 in
theorem seto_any {w : World} {b o : Nat} {L : List Nat} (hR : RowAt w b 95 (wq L)) (hL : ∀ k, L.getD k 0 < 18446744073709551616) (i : Nat) (hi : i < 256) (ho : o + 128 ≤ L.length) (x : Nat) (hx : x < 4294967296) :
    Calls Tryd.prog 37 #[.pointer (some ⟨b, o, none⟩), .int .i64 (i : Int), .int .u32 (x : Int)] w fun e w' => e = .returned (.bool true) ∧ RowAt w' b 95 (wq (L.set (o + i / 2) (wf (L.getD (o + i / 2) 0) (i % 2) x))) ∧ Kept (fun k => k = b) w w' := by
  have C := has_any ⟨b, o, none⟩ i w
  rw [show decide (0 ≤ (i : Int) ∧ (i : Int) < 256) = true by simp; omega] at C
  have C := Lib.hid C
  obtain ⟨j, r, e, hr⟩ : ∃ j r, i = 2 * j + r ∧ r < 2 := ⟨i / 2, i % 2, by omega, by omega⟩
  have hj : j < 128 := by omega
  obtain ⟨z, hz⟩ : ∃ z : Int, z = if r = 0 then 0 else 32 := ⟨_, rfl⟩
  have C2 := fun w => below_any i j r e hr hi w
  rw [← hz] at C2
  have C2 := Lib.hid C2
  have e1 : (i : Int).tdiv 2 = (j : Int) := by rw [Int.tdiv_eq_ediv_of_nonneg (by omega)]; omega
  have e1' : (i : Int) / 2 = (j : Int) := by omega
  have hc : ∀ tp d os out, (World.mk w.heap tp d os out).cell? ⟨b, o + j, none⟩ = some (.int .u64 (L.getD (o + j) 0 : Nat)) := fun _ _ _ _ => (hR.cell (o + j)).trans (wq_at L (o + j) (by omega))
  have hf0 := hR.frozen (o + j)
  have hw := hL (o + j)
  have hj0 : (0 : Int) ≤ (j : Int) := by omega
  have hj1 : (j : Int) < 128 := by omega
  have hwj : IntKind.i64.wrap (j : Int) = (j : Int) := by rw [IntKind.wrap_i64]; omega
  rw [show i / 2 = j by omega, show i % 2 = r by omega]
  have HS : Hid (∀ y, RowAt (w.drew.setCell ⟨b, o + j, none⟩ (.int .u64 ((y : Nat) : Int))) b 95 (wq (L.set (o + j) y)) ∧ Kept (fun k => k = b) w (w.drew.setCell ⟨b, o + j, none⟩ (.int .u64 ((y : Nat) : Int)))) := Lib.hid fun y => ⟨by rw [← wq_set]; exact hR.drew.setCell (o + j) _, (Kept.refl (fun k => k = b) w).drew.set (p := ⟨b, o + j, none⟩) (.inl rfl) _⟩
  clear e hR hL ho
  generalize L.getD (o + j) 0 = v at *
  rcases (show r = 0 ∨ r = 1 by omega) with rfl | rfl
  · obtain rfl : z = 0 := hz
    obtain ⟨a1, a2⟩ := low0 v x hw hx
    have hn := wf_lt v 0 x hw hx
    generalize wf v 0 x = n at *
    have hm : v / 4294967296 * 4294967296 < 18446744073709551616 := by omega
    generalize v / 4294967296 * 4294967296 = m at *
    have hxw : IntKind.u64.wrap (x : Int) = (x : Int) := by rw [IntKind.wrap_u64]; omega
    go_enter Tryd.func37, Tryd.ntmps37
    go_wp2_with fail
    refine C.out.mono ?_; rintro e w' ⟨rfl, rfl⟩
    clear C
    go_wp2_with fail
    refine (C2.out _).mono ?_; rintro e w' ⟨rfl, rfl⟩
    clear C2
    go_wp2
    refine wp_region_still_tail 19 (by kernel_rfl) (by kernel_rfl) ?_
    simp only [List.take_succ_cons, List.take_zero, List.drop_succ_cons, List.drop_zero]
    repeat still_step
    refine wpStill_nil ?_
    change wpList _ _ _ _ _ w.drew
    have fk : w.drew.frozen? ⟨b, o + j, none⟩ = false := hf0
    have ck : w.drew.cell? ⟨b, o + j, none⟩ = some (.int .u64 (v : Int)) := hc _ _ _ _
    clear hc hf0
    generalize w.drew = w2 at *
    go_wp2
    go_ret
    refine ⟨rfl, ?_⟩
    rw [a1, a2]
    exact HS.out n
  · obtain rfl : z = 32 := hz
    obtain ⟨a1, a2⟩ := low1 v x hw hx
    have hn := wf_lt v 1 x hw hx
    generalize wf v 1 x = n at *
    have hm : v % 4294967296 < 18446744073709551616 := by omega
    generalize v % 4294967296 = m at *
    have hy : x * 4294967296 < 18446744073709551616 := by omega
    have y1 : (x : Int) * 4294967296 = ((x * 4294967296 : Nat) : Int) := by omega
    generalize x * 4294967296 = y at *
    have hyw : IntKind.u64.wrap (y : Int) = (y : Int) := by rw [IntKind.wrap_u64]; omega
    have hxw : IntKind.u64.wrap (x : Int) = (x : Int) := by rw [IntKind.wrap_u64]; omega
    go_enter Tryd.func37, Tryd.ntmps37
    go_wp2_with fail
    refine C.out.mono ?_; rintro e w' ⟨rfl, rfl⟩
    clear C
    go_wp2_with fail
    refine (C2.out _).mono ?_; rintro e w' ⟨rfl, rfl⟩
    clear C2
    go_wp2
    refine wp_region_still_tail 19 (by kernel_rfl) (by kernel_rfl) ?_
    simp only [List.take_succ_cons, List.take_zero, List.drop_succ_cons, List.drop_zero]
    repeat still_step
    refine wpStill_nil ?_
    change wpList _ _ _ _ _ w.drew
    have fk : w.drew.frozen? ⟨b, o + j, none⟩ = false := hf0
    have ck : w.drew.cell? ⟨b, o + j, none⟩ = some (.int .u64 (v : Int)) := hc _ _ _ _
    clear hc hf0
    generalize w.drew = w2 at *
    go_wp2
    go_ret
    refine ⟨rfl, ?_⟩
    rw [a1, a2]
    exact HS.out n

end Go.Proofs.YtohmkhmanidljaaDoor
