/- sha.schedule by its contract: the words that the rounds take, made of a block's own. Condition: the slice has 16 words. -/
import Derived.Test.YtlifpplhinmajaaGreatDoorArr
import Derived.Test.YtlifpplhinmajaaGreatDoorPu
import Derived.Test.YtlifpplhinmajaaGreatDoorTurn
import Derived.Test.YtlifpplhinmajaaGreatDoorLaid
import Derived.BigQuiet
import Derived.StillTailTactics
namespace Go.Proofs.YtlifpplhinmajaaGreatDoor
set_option maxRecDepth 50000
open Go.RowKit Rot Sha

theorem size64 : (Tryz.prog.info? 37).map (·.size) = some 64 := by kernel_rfl
theorem size8 : (Tryz.prog.info? 38).map (·.size) = some 8 := by kernel_rfl

theorem right_n (n s : Nat) (h : ((-(n : Int)) % 32).toNat = s) (x : Nat) (hx : x < 4294967296) (w : World) : Calls Tryz.prog 125 #[.int .u32 (x : Int), .int .i64 (n : Int)] w fun e w' => e = .returned (.int .u32 (rotl 32 x s : Nat)) ∧ w = w' := by
  rw [← h]; exact right32_any x n hx w

/-- a copy of 16 words into the row -/
theorem copied {W : World} {b : Nat} {C : Array Value} (hC : RowAt W b 37 C) (hs : C.size = 64) (A : Addr) (c : Nat) (own : List Nat) (ho : own.length = 16) (ty : TypeId)
    (hr : ∀ k, (h : k < (u32s own).length) → W.cell? (A.add k) = some (u32s own)[k]) :
    (Builtin.copy_ #[63, 63] ty #[.slice (some ⟨b, 0, none⟩) 64 64, .slice (some A) 16 c]).run Tryz.prog W = .ok (goInt 16) (W.setRow b (u32s own ++ C.toList.drop 16).toArray) := by
  have hl : (u32s own).length = 16 := by rw [u32s_length, ho]
  have := run_copy_row (P := Tryz.prog) W 63 63 ty 36 b 0 64 64 A 16 c C 37 (u32s own) Tryz.underlying63 size_u32 hC (by rw [hl]; rfl)
    (fun j v hj => by
      obtain ⟨hj', rfl⟩ := List.getElem?_eq_some_iff.1 hj
      exact hr j hj') (by rw [hl, hs]; decide) (fun v hv => by simp only [u32s, List.mem_map] at hv; obtain ⟨x, _, rfl⟩ := hv; rfl)
  rw [hl] at this
  simpa using this

set_option maxHeartbeats 1600000 in
theorem sched_any (A : Option Addr) (c : Nat) (own : List Nat) (ho : own.length = 16) (hw : ∀ x ∈ own, x < 4294967296) (w : World) (hr : Reads w w.heap.size A (u32s own)) :
    Calls Tryz.prog 124 #[.slice A 16 c] w fun e w' => e = .returned (.agg (wd (sched own))) ∧ Below w.heap.size w w' := by
  have hl : (u32s own).length = 16 := by rw [u32s_length, ho]
  obtain ⟨b, off, rfl, hb, hc0⟩ := hr 0 (by omega)
  clear hc0
  have hrd : ∀ k, (h : k < (u32s own).length) → w.cell? ((⟨b, off, none⟩ : Addr).add k) = some (u32s own)[k] := fun k hk => by
    obtain ⟨b', off', e, _, hc⟩ := hr k hk
    cases e
    have hadd : (⟨b, off, none⟩ : Addr).add k = ⟨b, off + k, none⟩ := by unfold Addr.add; split <;> simp_all
    rw [hadd]; exact hc
  have HC := Lib.hid (fun (o1 o2 : Obj) k (hk : k < (u32s own).length) => show ((w.alloc o1).alloc o2).cell? ((⟨b, off, none⟩ : Addr).add k) = some (u32s own)[k] from by
    have hbl : Below w.heap.size w ((w.alloc o1).alloc o2) := ((Below.refl _ w).alloc (Nat.le_refl _) o1).alloc (by simp) o2
    exact (hbl.cell (by unfold Addr.add; split <;> simp_all)).trans (hrd k hk))
  have HO := Lib.hid ho
  have HW := Lib.hid hw
  clear hr hrd hl ho hw
  go_enter Tryz.func124, Tryz.ntmps124
  go_wp2
  rw [copied (hC := by
    have := RowAt.new (w.alloc (.cells (Array.replicate 64 (.int .u32 0)) 37)) 37 (Array.replicate 64 (.int .u32 0))
    rw [World.size_alloc] at this
    exact this) (hs := by rfl) (hr := HC.out _ _) (ho := HO.out)]
  generalize hW : World.setRow _ _ _ = W2
  have R1 : RowAt W2 (w.heap.size + 1) 37 (wd (fill own 0)) := by
    subst hW
    have h0 := RowAt.new (w.alloc (.cells (Array.replicate 64 (.int .u32 0)) 37)) 37 (Array.replicate 64 (.int .u32 0))
    rw [World.size_alloc] at h0
    have h1 := RowAt.setRow h0 (wd (fill own 0))
    have e : (u32s own ++ (Array.replicate 64 (Value.int .u32 0)).toList.drop 16).toArray = wd (fill own 0) := by
      simp [wd, fill, u32s]
    rw [← e] at h1 ⊢
    exact h1
  have R0 : RowAt W2 w.heap.size 37 (Array.replicate 64 (.int .u32 0)) := by
    subst hW
    exact ((RowAt.new w 37 (Array.replicate 64 (.int .u32 0))).alloc _).setRowOther _ (by omega) _
  have hB : Below w.heap.size w W2 := by
    subst hW
    exact below_setRow (((Below.refl _ w).alloc (Nat.le_refl _) _).alloc (by simp) _) (by omega) _
  clear hW
  have H1 := Lib.hid R1
  have H0 := Lib.hid R0
  clear R1 R0
  go_wp2
  go_loopw [4] (fun i wr => ∃ j : Nat, j ≤ 48 ∧ i = .int .i64 ((16 + j : Nat) : Int) ∧ RowAt wr (w.heap.size + 1) 37 (wd (fill own j)) ∧ RowAt wr w.heap.size 37 (Array.replicate 64 (.int .u32 0)) ∧ Below w.heap.size w wr) (fun i _ => 64 - (intOf i).toNat)
  case atStart => exact ⟨0, by omega, rfl, H1.out, H0.out, hB⟩
  case round =>
    clear H1 H0 hB
    obtain ⟨j, hj, rfl, R1, R0, hB⟩ := hrel
    have hlen := fill_length own HO.out j
    have hlt := fill_lt own HW.out j
    by_cases h : j < 48
    · obtain ⟨i, hi⟩ : ∃ i, i = 16 + j := ⟨_, rfl⟩
      have hi1 : 16 ≤ i := by omega
      have hi2 : i < 64 := by omega
      have c15 := (R1.cell (i - 15)).trans (wd_at _ _ (by omega))
      have c2 := (R1.cell (i - 2)).trans (wd_at _ _ (by omega))
      have c16 := (R1.cell (i - 16)).trans (wd_at _ _ (by omega))
      have c7 := (R1.cell (i - 7)).trans (wd_at _ _ (by omega))
      have ci := (R1.cell i).trans (wd_at _ _ (by omega))
      have b15 := getD_lt_of _ hlt (i - 15)
      have b2 := getD_lt_of _ hlt (i - 2)
      have fi := R1.frozen i
      have HE : Hid (next (fill own j) i = add (add (add ((fill own j).getD (i - 16) 0) ((fill own j).getD (i - 7) 0)) (s0 ((fill own j).getD (i - 15) 0))) (s1 ((fill own j).getD (i - 2) 0))) := Lib.hid rfl
      have HF : Hid (fill own (j + 1) = (fill own j).set i (next (fill own j) i)) := Lib.hid (by rw [hi]; rfl)
      have HR := Lib.hid R1
      have HR0 := Lib.hid R0
      rw [← hi]
      clear R1 R0 hlen hlt
      generalize (fill own j).getD (i - 15) 0 = x15 at *
      generalize (fill own j).getD (i - 2) 0 = x2 at *
      generalize (fill own j).getD (i - 16) 0 = x16 at *
      generalize (fill own j).getD (i - 7) 0 = x7 at *
      generalize (fill own j).getD i 0 = xi at *
      obtain ⟨p15, hp15⟩ : ∃ p, p = i - 15 := ⟨_, rfl⟩
      obtain ⟨p2, hp2⟩ : ∃ p, p = i - 2 := ⟨_, rfl⟩
      obtain ⟨p16, hp16⟩ : ∃ p, p = i - 16 := ⟨_, rfl⟩
      obtain ⟨p7, hp7⟩ : ∃ p, p = i - 7 := ⟨_, rfl⟩
      rw [← hp15] at c15
      rw [← hp2] at c2
      rw [← hp16] at c16
      rw [← hp7] at c7
      have q15 : (i : Int) - 15 = (p15 : Int) := by omega
      have q2 : (i : Int) - 2 = (p2 : Int) := by omega
      have q16 : (i : Int) - 16 = (p16 : Int) := by omega
      have q7 : (i : Int) - 7 = (p7 : Int) := by omega
      have l15 : p15 < 64 := by omega
      have l2 : p2 < 64 := by omega
      have l16 : p16 < 64 := by omega
      have l7 : p7 < 64 := by omega
      have HI := Lib.hid (show i = 16 + j from hi)
      clear hi hp15 hp2 hp16 hp7 hj
      have r7 := fun w => right_n 7 25 rfl x15 b15 w
      have r18 := fun w => right_n 18 14 rfl x15 b15 w
      have r17 := fun w => right_n 17 15 rfl x2 b2 w
      have r19 := fun w => right_n 19 13 rfl x2 b2 w
      have HS := And.intro (Lib.hid r7) (And.intro (Lib.hid r18) (And.intro (Lib.hid r17) (Lib.hid r19)))
      clear r7 r18 r17 r19
      go_wp2
      go_quiet (fail)
      go_wp2
      have v16 : IntKind.i64.wrap (p16 : Int) = (p16 : Int) := IntWalk.i64_in _ (by omega)
      have v7 : IntKind.i64.wrap (p7 : Int) = (p7 : Int) := IntWalk.i64_in _ (by omega)
      have n16 : (p16 : Int) < 64 := by omega
      have n7 : (p7 : Int) < 64 := by omega
      have z16 : (0 : Int) ≤ (p16 : Int) := by omega
      have z7 : (0 : Int) ≤ (p7 : Int) := by omega
      have vi : IntKind.i64.wrap (i : Int) = (i : Int) := IntWalk.i64_in _ (by omega)
      have zi : (0 : Int) ≤ (i : Int) := by omega
      have ni : (i : Int) < 64 := by omega
      have k16 : ∀ tp d os out, (World.mk wr.heap tp d os out).cell? ⟨w.heap.size + 1, p16, none⟩ = some (.int .u32 (x16 : Int)) := fun _ _ _ _ => c16
      have k7 : ∀ tp d os out, (World.mk wr.heap tp d os out).cell? ⟨w.heap.size + 1, p7, none⟩ = some (.int .u32 (x7 : Int)) := fun _ _ _ _ => c7
      refine wp_region_still_tail 29 (by kernel_rfl) (by kernel_rfl) ?_
      simp only [List.take_succ_cons, List.take_zero, List.drop_succ_cons, List.drop_zero]
      repeat still_step
      still_call ((HS.1.out _).mono fun _ _ h => And.intro h.1 h.2.symm)
      repeat still_step
      still_call ((HS.2.1.out _).mono fun _ _ h => And.intro h.1 h.2.symm)
      repeat still_step
      still_call ((HS.2.2.1.out _).mono fun _ _ h => And.intro h.1 h.2.symm)
      repeat still_step
      still_call ((HS.2.2.2.out _).mono fun _ _ h => And.intro h.1 h.2.symm)
      repeat still_step
      refine wpStill_nil ?_
      have ki : ∀ tp d os out, (World.mk wr.heap tp d os out).cell? ⟨w.heap.size + 1, i, none⟩ = some (.int .u32 (xi : Int)) := fun _ _ _ _ => ci
      have kf : ∀ tp d os out, (World.mk wr.heap tp d os out).frozen? ⟨w.heap.size + 1, i, none⟩ = false := fun _ _ _ _ => fi
      have hv := next_val x16 x7 x15 x2 b15 b2
      have hd : ({ heap := (wr.drewN nq).heap, tape := (wr.drewN nq).tape, drawn := (wr.drewN nq).drawn + 1, os := (wr.drewN nq).os, output := (wr.drewN nq).output } : World) = (wr.drewN nq).drew := rfl
      rw [hd]
      go_wp2
      go_roundw
      case rel =>
        refine ⟨j + 1, by omega, by have := HI.out; go_num, ?_, (HR0.out.drewN (nq + 1)).setOther _ (by simp) _, ((below_drewN hB (nq + 1)).setCell (by simp) _)⟩
        rw [HF.out, HE.out, ← wd_set]
        exact (HR.out.drewN (nq + 1)).setCell i _
      case measure => have := HI.out; simp [intOf]; omega
    · obtain rfl : j = 48 := by omega
      have hs : (wd (fill own 48)).size = 64 := by rw [wd_size]; exact hlen
      have HR := Lib.hid R1
      have HR0 := Lib.hid R0
      have HS := Lib.hid hs
      clear R1 R0 hlen hlt hs
      go_wp2_with (first
        | refine wpList_load_row rfl 37 (.tmp 3) rfl (w.heap.size + 1) rfl 37 (wd (fill own 48)) (0, 0) _ HR.out Tryz.underlying37 rfl (by rw [HS.out]; exact size64) ?_
        | refine wpList_store_row rfl 37 (.tmp 2) (.tmp 53) rfl w.heap.size (wd (fill own 48)) rfl rfl 37 _ HR0.out (by rw [HS.out]; exact size64) (by rw [HS.out]; rfl) (wd_one _) ?_)
      have hR := HR0.out.setRow (wd (fill own 48))
      refine bodyPost_ret (v := .agg (wd (sched own))) (results_cell_row rfl _ _ w.heap.size 37 (wd (fill own 48)) (0, 0) _ rfl hR Tryz.underlying37 rfl (by rw [HS.out]; exact size64)) rfl ⟨rfl, ?_⟩
      exact below_setRow hB (Nat.le_refl _) _
end Go.Proofs.YtlifpplhinmajaaGreatDoor
