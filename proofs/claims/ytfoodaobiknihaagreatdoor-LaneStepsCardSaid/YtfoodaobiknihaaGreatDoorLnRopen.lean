/- Open of the document's lane, by its contracts. Conditions: those typed. -/
import Derived.Test.YtfoodaobiknihaaGreatDoorLnR
namespace Go.Proofs.YtfoodaobiknihaaGreatDoor
set_option maxRecDepth 50000
open Go.RowKit Bb Bn
section
variable {a t l m b c g z : Nat} {w : World} {p s i : Int} {h gt : Bool}
set_option maxHeartbeats 6400000 in
theorem ropen_done : Calls Tryz.prog 15 #[spv a t l m b c g z, rlv p s i h gt true] w fun e w' => e = .returned (rlv p s i h gt true) ∧ Below w.heap.size w w' := by
  obtain ⟨w1, e1⟩ : ∃ w1, w1 = ((w.alloc (.cells (spc a t l m b c g z) 48)).alloc (.cells (rlc p s i h gt true) 57)).alloc (.cells (rlc 0 0 0 false false false) 57) := ⟨_, rfl⟩
  have b1 : Below w.heap.size w w1 := by rw [e1]; exact (two_box _ _ _).alloc (by simp only [World.size_alloc]; omega) _
  have hSh : RowAt w1 w.heap.size 48 (spc a t l m b c g z) := by rw [e1]; exact ((RowAt.new w _ _).alloc _).alloc _
  have hX : RowAt w1 (w.heap.size + 1) 57 (rlc p s i h gt true) := by
    rw [e1]
    have h := RowAt.new (w.alloc (.cells (spc a t l m b c g z) 48)) 57 (rlc p s i h gt true)
    rw [World.size_alloc] at h
    exact h.alloc _
  have hZ : RowAt w1 (w.heap.size + 1 + 1) 57 (rlc 0 0 0 false false false) := by
    rw [e1]
    have h := RowAt.new ((w.alloc (.cells (spc a t l m b c g z) 48)).alloc (.cells (rlc p s i h gt true) 57)) 57 (rlc 0 0 0 false false false)
    rwa [World.size_alloc, World.size_alloc] at h
  have kt : w1.cell? ⟨w.heap.size, 1, none⟩ = some (.int .i64 (t : Int)) := (RowAt.cell hSh 1).trans rfl
  have k4 : w1.cell? ⟨w.heap.size + 1, 4, none⟩ = some (.bool gt) := rl_cell hX 4 rfl
  have k5 : w1.cell? ⟨w.heap.size + 1, 5, none⟩ = some (.bool true) := rl_cell hX 5 rfl
  have HXn := Lib.hid hX
  have HZn := Lib.hid hZ
  have HBn := Lib.hid b1
  clear b1 hX hZ
  have E1 := Lib.hid e1
  clear e1 hSh
  go_enter Tryz.func15, Tryz.ntmps15
  go_upto_region 1 with fail
  rw [← E1.out]
  clear E1
  generalize hT2 : w.heap.size + 1 + 1 = T2 at *
  generalize hT1 : w.heap.size + 1 = T1 at *
  generalize hT0 : w.heap.size = T0 at *
  have HTT : Hid (w.heap.size = T0 ∧ T1 = T0 + 1 ∧ T2 = T0 + 1 + 1) := Lib.hid ⟨hT0, by omega, by omega⟩
  clear hT0 hT1 hT2
  go_wp2_with (first
    | refine wpList_load_want rfl 57 _ rfl _ _ rfl (rl_load HXn.out) ?_
    | refine wpList_store_of rfl _ _ _ rfl ⟨T2, 0, none⟩ _ rfl rfl (rl_store HZn.out) ?_)
  refine bodyPost_ret (v := rlv p s i h gt true) (results_cell_row rfl _ _ T2 57 (rlc p s i h gt true) (0, 0) _ rfl (HZn.out.setRow (rlc p s i h gt true)) Tryz.underlying57 rfl rl_size) rfl ⟨rfl, ?_⟩
  have hT := HTT.out
  exact hT.1.symm ▸ below_setRow (show Below T0 w w1 from HBn.out) (by omega) _
set_option maxHeartbeats 6400000 in
theorem ropen_not : Calls Tryz.prog 15 #[spv a t l m b c g z, rlv p s i h false false] w fun e w' => e = .returned (rlv p s i h false false) ∧ Below w.heap.size w w' := by
  obtain ⟨w1, e1⟩ : ∃ w1, w1 = ((w.alloc (.cells (spc a t l m b c g z) 48)).alloc (.cells (rlc p s i h false false) 57)).alloc (.cells (rlc 0 0 0 false false false) 57) := ⟨_, rfl⟩
  have b1 : Below w.heap.size w w1 := by rw [e1]; exact (two_box _ _ _).alloc (by simp only [World.size_alloc]; omega) _
  have hSh : RowAt w1 w.heap.size 48 (spc a t l m b c g z) := by rw [e1]; exact ((RowAt.new w _ _).alloc _).alloc _
  have hX : RowAt w1 (w.heap.size + 1) 57 (rlc p s i h false false) := by
    rw [e1]
    have h := RowAt.new (w.alloc (.cells (spc a t l m b c g z) 48)) 57 (rlc p s i h false false)
    rw [World.size_alloc] at h
    exact h.alloc _
  have hZ : RowAt w1 (w.heap.size + 1 + 1) 57 (rlc 0 0 0 false false false) := by
    rw [e1]
    have h := RowAt.new ((w.alloc (.cells (spc a t l m b c g z) 48)).alloc (.cells (rlc p s i h false false) 57)) 57 (rlc 0 0 0 false false false)
    rwa [World.size_alloc, World.size_alloc] at h
  have kt : w1.cell? ⟨w.heap.size, 1, none⟩ = some (.int .i64 (t : Int)) := (RowAt.cell hSh 1).trans rfl
  have k4 : w1.cell? ⟨w.heap.size + 1, 4, none⟩ = some (.bool false) := rl_cell hX 4 rfl
  have k5 : w1.cell? ⟨w.heap.size + 1, 5, none⟩ = some (.bool false) := rl_cell hX 5 rfl
  have HXn := Lib.hid hX
  have HZn := Lib.hid hZ
  have HBn := Lib.hid b1
  clear b1 hX hZ
  have E1 := Lib.hid e1
  clear e1 hSh
  go_enter Tryz.func15, Tryz.ntmps15
  go_upto_region 1 with fail
  rw [← E1.out]
  clear E1
  generalize hT2 : w.heap.size + 1 + 1 = T2 at *
  generalize hT1 : w.heap.size + 1 = T1 at *
  generalize hT0 : w.heap.size = T0 at *
  have HTT : Hid (w.heap.size = T0 ∧ T1 = T0 + 1 ∧ T2 = T0 + 1 + 1) := Lib.hid ⟨hT0, by omega, by omega⟩
  clear hT0 hT1 hT2
  go_wp2_with (first
    | refine wpList_load_want rfl 57 _ rfl _ _ rfl (rl_load HXn.out) ?_
    | refine wpList_store_of rfl _ _ _ rfl ⟨T2, 0, none⟩ _ rfl rfl (rl_store HZn.out) ?_)
  refine bodyPost_ret (v := rlv p s i h false false) (results_cell_row rfl _ _ T2 57 (rlc p s i h false false) (0, 0) _ rfl (HZn.out.setRow (rlc p s i h false false)) Tryz.underlying57 rfl rl_size) rfl ⟨rfl, ?_⟩
  have hT := HTT.out
  exact hT.1.symm ▸ below_setRow (show Below T0 w w1 from HBn.out) (by omega) _
end
set_option maxHeartbeats 6400000 in
theorem ropen_last {a t l m b c g z p : Nat} {w : World} {i : Int} {h : Bool} (ht : t ≤ 4294967295) (hp : p + 1 = t) : Calls Tryz.prog 15 #[spv a t l m b c g z, rlv p 3 i h true false] w fun e w' => e = .returned (rlv p 3 i h true true) ∧ Below w.heap.size w w' := by
  obtain ⟨w1, e1⟩ : ∃ w1, w1 = ((w.alloc (.cells (spc a t l m b c g z) 48)).alloc (.cells (rlc p 3 i h true false) 57)).alloc (.cells (rlc 0 0 0 false false false) 57) := ⟨_, rfl⟩
  have b1 : Below w.heap.size w w1 := by rw [e1]; exact (two_box _ _ _).alloc (by simp only [World.size_alloc]; omega) _
  have hSh : RowAt w1 w.heap.size 48 (spc a t l m b c g z) := by rw [e1]; exact ((RowAt.new w _ _).alloc _).alloc _
  have hX : RowAt w1 (w.heap.size + 1) 57 (rlc p 3 i h true false) := by
    rw [e1]
    have h := RowAt.new (w.alloc (.cells (spc a t l m b c g z) 48)) 57 (rlc p 3 i h true false)
    rw [World.size_alloc] at h
    exact h.alloc _
  have hZ : RowAt w1 (w.heap.size + 1 + 1) 57 (rlc 0 0 0 false false false) := by
    rw [e1]
    have h := RowAt.new ((w.alloc (.cells (spc a t l m b c g z) 48)).alloc (.cells (rlc p 3 i h true false) 57)) 57 (rlc 0 0 0 false false false)
    rwa [World.size_alloc, World.size_alloc] at h
  have kt : w1.cell? ⟨w.heap.size, 1, none⟩ = some (.int .i64 (t : Int)) := (RowAt.cell hSh 1).trans rfl
  have r1 : IntKind.i64.wrap ((t : Int) - 1) = (p : Int) := by rw [IntKind.wrap_i64]; omega
  obtain ⟨w2, hs2, hx2, hk2⟩ := rl_setD hX (true)
  have hkk : Kept (fun j => j = w.heap.size + 1) w1 w2 := hk2
  have HZn := Lib.hid (RowAt.kept hZ hkk (by omega))
  have HXn := Lib.hid hx2
  have HBn : Hid (Below w.heap.size w w2) := Lib.hid (b1.trans (hkk.below b1.size fun y hy => by omega))
  have HS2 := Lib.hid hs2
  have k0 : w1.cell? ⟨w.heap.size + 1, 0, none⟩ = some (.int .i64 (p : Int)) := rl_cell hX 0 rfl
  have k1 : w1.cell? ⟨w.heap.size + 1, 1, none⟩ = some (.int .i64 3) := rl_cell hX 1 rfl
  have k4 : w1.cell? ⟨w.heap.size + 1, 4, none⟩ = some (.bool true) := rl_cell hX 4 rfl
  have k5 : w1.cell? ⟨w.heap.size + 1, 5, none⟩ = some (.bool false) := rl_cell hX 5 rfl
  clear b1 hX hZ hkk hs2 hx2 hk2
  have HX1 := HXn
  clear ht hp
  have E1 := Lib.hid e1
  clear e1 hSh
  go_enter Tryz.func15, Tryz.ntmps15
  go_upto_region 1 with fail
  rw [← E1.out]
  clear E1
  generalize hT2 : w.heap.size + 1 + 1 = T2 at *
  generalize hT1 : w.heap.size + 1 = T1 at *
  generalize hT0 : w.heap.size = T0 at *
  have HTT : Hid (w.heap.size = T0 ∧ T1 = T0 + 1 ∧ T2 = T0 + 1 + 1) := Lib.hid ⟨hT0, by omega, by omega⟩
  clear hT0 hT1 hT2
  go_upto_region 4 with fail
  clear k0 k1 k4 k5 kt
  go_wp2_with (first
    | refine wpList_store_of rfl _ _ _ rfl ⟨T1, 5, none⟩ _ rfl rfl HS2.out ?_
    | refine wpList_load_want rfl 57 _ rfl _ _ rfl (rl_load HXn.out) ?_
    | refine wpList_store_of rfl _ _ _ rfl ⟨T2, 0, none⟩ _ rfl rfl (rl_store HZn.out) ?_)
  refine bodyPost_ret (v := rlv p 3 i h true true) (results_cell_row rfl _ _ T2 57 (rlc p 3 i h true true) (0, 0) _ rfl (HZn.out.setRow (rlc p 3 i h true true)) Tryz.underlying57 rfl rl_size) rfl ⟨rfl, ?_⟩
  have hT := HTT.out
  exact hT.1.symm ▸ below_setRow (show Below T0 w w2 from HBn.out) (by omega) _
set_option maxHeartbeats 6400000 in
theorem ropen_wrap {a t l m b c g z p p' : Nat} {w : World} {i : Int} {h : Bool} (ht : t ≤ 4294967295) (hp : p + 1 < t) (hp' : p + 1 = p') : Calls Tryz.prog 15 #[spv a t l m b c g z, rlv p 3 i h true false] w fun e w' => e = .returned (rlv p' 0 0 false false false) ∧ Below w.heap.size w w' := by
  obtain ⟨w1, e1⟩ : ∃ w1, w1 = ((w.alloc (.cells (spc a t l m b c g z) 48)).alloc (.cells (rlc p 3 i h true false) 57)).alloc (.cells (rlc 0 0 0 false false false) 57) := ⟨_, rfl⟩
  have b1 : Below w.heap.size w w1 := by rw [e1]; exact (two_box _ _ _).alloc (by simp only [World.size_alloc]; omega) _
  have hSh : RowAt w1 w.heap.size 48 (spc a t l m b c g z) := by rw [e1]; exact ((RowAt.new w _ _).alloc _).alloc _
  have hX : RowAt w1 (w.heap.size + 1) 57 (rlc p 3 i h true false) := by
    rw [e1]
    have h := RowAt.new (w.alloc (.cells (spc a t l m b c g z) 48)) 57 (rlc p 3 i h true false)
    rw [World.size_alloc] at h
    exact h.alloc _
  have hZ : RowAt w1 (w.heap.size + 1 + 1) 57 (rlc 0 0 0 false false false) := by
    rw [e1]
    have h := RowAt.new ((w.alloc (.cells (spc a t l m b c g z) 48)).alloc (.cells (rlc p 3 i h true false) 57)) 57 (rlc 0 0 0 false false false)
    rwa [World.size_alloc, World.size_alloc] at h
  have kt : w1.cell? ⟨w.heap.size, 1, none⟩ = some (.int .i64 (t : Int)) := (RowAt.cell hSh 1).trans rfl
  have r0 : IntKind.i64.wrap ((t : Int) - 1) = ((t - 1 : Nat) : Int) := by rw [IntKind.wrap_i64]; omega
  have r1 : ¬ (p : Int) = ((t - 1 : Nat) : Int) := by omega
  have r2 : ((p : Int) == ((t - 1 : Nat) : Int)) = false := by simp; omega
  have r3 : IntKind.i64.wrap ((p : Int) + 1) = (p' : Int) := by rw [IntKind.wrap_i64]; omega
  have CF := Lib.hid fun w => rfirst27 p' 0 0 (by unfold fiN; rw [if_neg (by omega)]) w
  generalize t - 1 = t1 at r0 r1 r2
  obtain ⟨w2, hs2, hx2, hk2⟩ := rl_setS hX (4)
  obtain ⟨w3, hs3, hx3, hk3⟩ := rl_setS hx2 (0)
  obtain ⟨w4, hs4, hx4, hk4⟩ := rl_setP hx3 ((p' : Int))
  obtain ⟨w5, hs5, hx5, hk5⟩ := rl_setG hx4 (false)
  obtain ⟨w6, hs6, hx6, hk6⟩ := rl_setH hx5 (false)
  obtain ⟨w7, hs7, hx7, hk7⟩ := rl_setI hx6 (0)
  have hkk : Kept (fun j => j = w.heap.size + 1) w1 w7 := (((((hk2.trans hk3 fun _ _ h => h).trans hk4 fun _ _ h => h).trans hk5 fun _ _ h => h).trans hk6 fun _ _ h => h).trans hk7 fun _ _ h => h)
  have HZn := Lib.hid (RowAt.kept hZ hkk (by omega))
  have HXn := Lib.hid hx7
  have HBn : Hid (Below w.heap.size w w7) := Lib.hid (b1.trans (hkk.below b1.size fun y hy => by omega))
  have HS2 := Lib.hid hs2
  have HS3 := Lib.hid hs3
  have HS4 := Lib.hid hs4
  have HS5 := Lib.hid hs5
  have HS6 := Lib.hid hs6
  have HS7 := Lib.hid hs7
  have k0 : w1.cell? ⟨w.heap.size + 1, 0, none⟩ = some (.int .i64 (p : Int)) := rl_cell hX 0 rfl
  have k1 : w1.cell? ⟨w.heap.size + 1, 1, none⟩ = some (.int .i64 3) := rl_cell hX 1 rfl
  have k4 : w1.cell? ⟨w.heap.size + 1, 4, none⟩ = some (.bool true) := rl_cell hX 4 rfl
  have k5 : w1.cell? ⟨w.heap.size + 1, 5, none⟩ = some (.bool false) := rl_cell hX 5 rfl
  have m1 : w2.cell? ⟨w.heap.size + 1, 1, none⟩ = some (.int .i64 4) := rl_cell hx2 1 rfl
  have m0 : w3.cell? ⟨w.heap.size + 1, 0, none⟩ = some (.int .i64 (p : Int)) := rl_cell hx3 0 rfl
  have n0 : w6.cell? ⟨w.heap.size + 1, 0, none⟩ = some (.int .i64 (p' : Int)) := rl_cell hx6 0 rfl
  have n1 : w6.cell? ⟨w.heap.size + 1, 1, none⟩ = some (.int .i64 0) := rl_cell hx6 1 rfl
  clear b1 hX hZ hkk hs2 hx2 hk2 hs3 hx3 hk3 hs4 hx4 hk4 hs5 hx5 hk5 hs6 hx6 hk6 hs7 hx7 hk7
  clear ht hp hp'
  have E1 := Lib.hid e1
  clear e1 hSh
  go_enter Tryz.func15, Tryz.ntmps15
  go_upto_region 1 with fail
  rw [← E1.out]
  clear E1
  generalize hT2 : w.heap.size + 1 + 1 = T2 at *
  generalize hT1 : w.heap.size + 1 = T1 at *
  generalize hT0 : w.heap.size = T0 at *
  have HTT : Hid (w.heap.size = T0 ∧ T1 = T0 + 1 ∧ T2 = T0 + 1 + 1) := Lib.hid ⟨hT0, by omega, by omega⟩
  clear hT0 hT1 hT2
  go_upto_region 6 with fail
  go_upto_region 7 with (refine wpList_store_of rfl _ _ _ rfl ⟨T1, 1, none⟩ _ rfl rfl HS2.out ?_)
  simp only [Act.put]
  clear k0 k1 k4 k5 kt
  go_upto_region 8 with fail
  clear m1
  go_upto_region 9 with (refine wpList_store_of rfl _ _ _ rfl ⟨T1, 1, none⟩ _ rfl rfl HS3.out ?_)
  simp only [Act.put]
  go_upto_region 10 with (refine wpList_store_of rfl _ _ _ rfl ⟨T1, 0, none⟩ _ rfl rfl HS4.out ?_)
  simp only [Act.put]
  clear m0
  go_upto_region 11 with (refine wpList_store_of rfl _ _ _ rfl ⟨T1, 4, none⟩ _ rfl rfl HS5.out ?_)
  simp only [Act.put]
  go_upto_region 12 with (refine wpList_store_of rfl _ _ _ rfl ⟨T1, 3, none⟩ _ rfl rfl HS6.out ?_)
  simp only [Act.put]
  go_wp2_with fail
  refine (CF.out _).mono ?_
  rintro e w8 ⟨rfl, rfl⟩
  clear n0 n1
  go_wp2_with (first
    | refine wpList_store_of rfl _ _ _ rfl ⟨T1, 2, none⟩ _ rfl rfl HS7.out ?_
    | refine wpList_load_want rfl 57 _ rfl _ _ rfl (rl_load HXn.out) ?_
    | refine wpList_store_of rfl _ _ _ rfl ⟨T2, 0, none⟩ _ rfl rfl (rl_store HZn.out) ?_)
  refine bodyPost_ret (v := rlv p' 0 0 false false false) (results_cell_row rfl _ _ T2 57 (rlc p' 0 0 false false false) (0, 0) _ rfl (HZn.out.setRow (rlc p' 0 0 false false false)) Tryz.underlying57 rfl rl_size) rfl ⟨rfl, ?_⟩
  have hT := HTT.out
  exact hT.1.symm ▸ below_setRow (show Below T0 w w7 from HBn.out) (by omega) _
set_option maxHeartbeats 6400000 in
theorem ropen_next {a t l m b c g z p s s' : Nat} {w : World} {i : Int} {h : Bool} (ht : t ≤ 4294967295) (hp : p < t) (hs : s < 3) (hs' : s + 1 = s') : Calls Tryz.prog 15 #[spv a t l m b c g z, rlv p s i h true false] w fun e w' => e = .returned (rlv p s' 0 false false false) ∧ Below w.heap.size w w' := by
  obtain ⟨w1, e1⟩ : ∃ w1, w1 = ((w.alloc (.cells (spc a t l m b c g z) 48)).alloc (.cells (rlc p s i h true false) 57)).alloc (.cells (rlc 0 0 0 false false false) 57) := ⟨_, rfl⟩
  have b1 : Below w.heap.size w w1 := by rw [e1]; exact (two_box _ _ _).alloc (by simp only [World.size_alloc]; omega) _
  have hSh : RowAt w1 w.heap.size 48 (spc a t l m b c g z) := by rw [e1]; exact ((RowAt.new w _ _).alloc _).alloc _
  have hX : RowAt w1 (w.heap.size + 1) 57 (rlc p s i h true false) := by
    rw [e1]
    have h := RowAt.new (w.alloc (.cells (spc a t l m b c g z) 48)) 57 (rlc p s i h true false)
    rw [World.size_alloc] at h
    exact h.alloc _
  have hZ : RowAt w1 (w.heap.size + 1 + 1) 57 (rlc 0 0 0 false false false) := by
    rw [e1]
    have h := RowAt.new ((w.alloc (.cells (spc a t l m b c g z) 48)).alloc (.cells (rlc p s i h true false) 57)) 57 (rlc 0 0 0 false false false)
    rwa [World.size_alloc, World.size_alloc] at h
  have kt : w1.cell? ⟨w.heap.size, 1, none⟩ = some (.int .i64 (t : Int)) := (RowAt.cell hSh 1).trans rfl
  have r0 : IntKind.i64.wrap ((t : Int) - 1) = ((t - 1 : Nat) : Int) := by rw [IntKind.wrap_i64]; omega
  have r3 : IntKind.i64.wrap ((s : Int) + 1) = (s' : Int) := by rw [IntKind.wrap_i64]; omega
  have r4 : ¬ (s : Int) = 3 := by omega
  have r5 : ((s : Int) == 3) = false := by simp; omega
  have r6 : ¬ (s' : Int) = 4 := by omega
  have r7 : ((s' : Int) == 4) = false := by simp; omega
  have CF := Lib.hid fun w => rfirst27 p s' 0 (by unfold fiN; rw [if_neg (by omega)]) w
  generalize t - 1 = t1 at r0
  obtain ⟨w2, hs2, hx2, hk2⟩ := rl_setS hX ((s' : Int))
  obtain ⟨w3, hs3, hx3, hk3⟩ := rl_setG hx2 (false)
  obtain ⟨w4, hs4, hx4, hk4⟩ := rl_setH hx3 (false)
  obtain ⟨w5, hs5, hx5, hk5⟩ := rl_setI hx4 (0)
  have hkk : Kept (fun j => j = w.heap.size + 1) w1 w5 := (((hk2.trans hk3 fun _ _ h => h).trans hk4 fun _ _ h => h).trans hk5 fun _ _ h => h)
  have HZn := Lib.hid (RowAt.kept hZ hkk (by omega))
  have HXn := Lib.hid hx5
  have HBn : Hid (Below w.heap.size w w5) := Lib.hid (b1.trans (hkk.below b1.size fun y hy => by omega))
  have HS2 := Lib.hid hs2
  have HS3 := Lib.hid hs3
  have HS4 := Lib.hid hs4
  have HS5 := Lib.hid hs5
  have k0 : w1.cell? ⟨w.heap.size + 1, 0, none⟩ = some (.int .i64 (p : Int)) := rl_cell hX 0 rfl
  have k1 : w1.cell? ⟨w.heap.size + 1, 1, none⟩ = some (.int .i64 (s : Int)) := rl_cell hX 1 rfl
  have k4 : w1.cell? ⟨w.heap.size + 1, 4, none⟩ = some (.bool true) := rl_cell hX 4 rfl
  have k5 : w1.cell? ⟨w.heap.size + 1, 5, none⟩ = some (.bool false) := rl_cell hX 5 rfl
  have m1 : w2.cell? ⟨w.heap.size + 1, 1, none⟩ = some (.int .i64 (s' : Int)) := rl_cell hx2 1 rfl
  have n0 : w4.cell? ⟨w.heap.size + 1, 0, none⟩ = some (.int .i64 (p : Int)) := rl_cell hx4 0 rfl
  have n1 : w4.cell? ⟨w.heap.size + 1, 1, none⟩ = some (.int .i64 (s' : Int)) := rl_cell hx4 1 rfl
  clear b1 hX hZ hkk hs2 hx2 hk2 hs3 hx3 hk3 hs4 hx4 hk4 hs5 hx5 hk5
  clear ht hp hs hs'
  have E1 := Lib.hid e1
  clear e1 hSh
  go_enter Tryz.func15, Tryz.ntmps15
  go_upto_region 1 with fail
  rw [← E1.out]
  clear E1
  generalize hT2 : w.heap.size + 1 + 1 = T2 at *
  generalize hT1 : w.heap.size + 1 = T1 at *
  generalize hT0 : w.heap.size = T0 at *
  have HTT : Hid (w.heap.size = T0 ∧ T1 = T0 + 1 ∧ T2 = T0 + 1 + 1) := Lib.hid ⟨hT0, by omega, by omega⟩
  clear hT0 hT1 hT2
  cases hpt : decide ((p : Int) = (t1 : Int)) with
  | true =>
    have hpe : (p : Int) = (t1 : Int) := of_decide_eq_true hpt
    obtain rfl : p = t1 := by omega
    clear hpt hpe
    go_upto_region 6 with fail
    go_upto_region 7 with (refine wpList_store_of rfl _ _ _ rfl ⟨T1, 1, none⟩ _ rfl rfl HS2.out ?_)
    simp only [Act.put]
    clear k0 k1 k4 k5 kt
    go_upto_region 10 with fail
    clear m1
    go_upto_region 11 with (refine wpList_store_of rfl _ _ _ rfl ⟨T1, 4, none⟩ _ rfl rfl HS3.out ?_)
    simp only [Act.put]
    go_upto_region 12 with (refine wpList_store_of rfl _ _ _ rfl ⟨T1, 3, none⟩ _ rfl rfl HS4.out ?_)
    simp only [Act.put]
    go_wp2_with fail
    refine (CF.out _).mono ?_
    rintro e w8 ⟨rfl, rfl⟩
    clear n0 n1
    go_wp2_with (first
      | refine wpList_store_of rfl _ _ _ rfl ⟨T1, 2, none⟩ _ rfl rfl HS5.out ?_
      | refine wpList_load_want rfl 57 _ rfl _ _ rfl (rl_load HXn.out) ?_
      | refine wpList_store_of rfl _ _ _ rfl ⟨T2, 0, none⟩ _ rfl rfl (rl_store HZn.out) ?_)
    refine bodyPost_ret (v := rlv p s' 0 false false false) (results_cell_row rfl _ _ T2 57 (rlc p s' 0 false false false) (0, 0) _ rfl (HZn.out.setRow (rlc p s' 0 false false false)) Tryz.underlying57 rfl rl_size) rfl ⟨rfl, ?_⟩
    have hT := HTT.out
    exact hT.1.symm ▸ below_setRow (show Below T0 w w5 from HBn.out) (by omega) _
  | false =>
    have hpe : ¬ (p : Int) = (t1 : Int) := of_decide_eq_false hpt
    have hpb : ((p : Int) == (t1 : Int)) = false := by simpa using hpe
    go_upto_region 6 with fail
    go_upto_region 7 with (refine wpList_store_of rfl _ _ _ rfl ⟨T1, 1, none⟩ _ rfl rfl HS2.out ?_)
    simp only [Act.put]
    clear k0 k1 k4 k5 kt
    go_upto_region 10 with fail
    clear m1
    go_upto_region 11 with (refine wpList_store_of rfl _ _ _ rfl ⟨T1, 4, none⟩ _ rfl rfl HS3.out ?_)
    simp only [Act.put]
    go_upto_region 12 with (refine wpList_store_of rfl _ _ _ rfl ⟨T1, 3, none⟩ _ rfl rfl HS4.out ?_)
    simp only [Act.put]
    go_wp2_with fail
    refine (CF.out _).mono ?_
    rintro e w8 ⟨rfl, rfl⟩
    clear n0 n1
    go_wp2_with (first
      | refine wpList_store_of rfl _ _ _ rfl ⟨T1, 2, none⟩ _ rfl rfl HS5.out ?_
      | refine wpList_load_want rfl 57 _ rfl _ _ rfl (rl_load HXn.out) ?_
      | refine wpList_store_of rfl _ _ _ rfl ⟨T2, 0, none⟩ _ rfl rfl (rl_store HZn.out) ?_)
    refine bodyPost_ret (v := rlv p s' 0 false false false) (results_cell_row rfl _ _ T2 57 (rlc p s' 0 false false false) (0, 0) _ rfl (HZn.out.setRow (rlc p s' 0 false false false)) Tryz.underlying57 rfl rl_size) rfl ⟨rfl, ?_⟩
    have hT := HTT.out
    exact hT.1.symm ▸ below_setRow (show Below T0 w w5 from HBn.out) (by omega) _
end Go.Proofs.YtfoodaobiknihaaGreatDoor
