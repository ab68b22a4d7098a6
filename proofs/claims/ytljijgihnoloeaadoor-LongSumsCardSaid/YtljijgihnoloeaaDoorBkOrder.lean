/- digit and Order of package blake by their contracts. Condition: the round is no less than 0 and a number of 64 bits, or it is below 0. -/
import Derived.Test.YtljijgihnoloeaaDoorBkWords
namespace Go.Proofs.YtljijgihnoloeaaDoor
set_option maxRecDepth 50000
open Go.RowKit Rot Bl

/-- the letter of a hexadecimal digit -/
def cd (d : Nat) : Nat := if d < 10 then 48 + d else 87 + d
theorem hexd_any (d : Nat) (hd : d < 16) (w : World) : Calls Tryd.prog 54 #[.int .u8 (cd d : Nat)] w fun e w' => e = .returned (.int .i64 (d : Int)) ∧ w = w' := by
  by_cases h : d < 10
  · have e : cd d = 48 + d := by unfold cd; rw [if_pos h]
    rw [e]
    go_enter Tryd.func54, Tryd.ntmps54
    go_wp2
    go_ret
    refine ⟨?_, rfl⟩
    simp; omega
  · obtain ⟨k, rfl⟩ : ∃ k, d = 10 + k := ⟨d - 10, by omega⟩
    have e : cd (10 + k) = 97 + k := by unfold cd; rw [if_neg h]; omega
    rw [e]
    go_enter Tryd.func54, Tryd.ntmps54
    go_wp2
    go_ret
    refine ⟨?_, rfl⟩
    simp; omega
def partO (l : List Nat) (i : Nat) : List Nat := l.take i ++ List.replicate (16 - i) 0
theorem partO_length (l : List Nat) (hl : l.length = 16) (i : Nat) (h : i ≤ 16) : (partO l i).length = 16 := by simp [partO, hl]; omega
theorem partO_set (l : List Nat) (hl : l.length = 16) (i : Nat) (h : i < 16) : (partO l i).set i (l.getD i 0) = partO l (i + 1) := by
  unfold partO
  have e : List.replicate (16 - i) 0 = 0 :: List.replicate (16 - (i + 1)) 0 := by rw [show 16 - i = (16 - (i + 1)) + 1 by omega]; rfl
  rw [e, List.set_append_right _ _ (by simp [hl]; omega), List.length_take, hl, Nat.min_eq_left (by omega), Nat.sub_self, List.set_cons_zero]
  rw [List.take_succ_eq_append_getElem (by omega), List.getD_eq_getElem?_getD, List.getElem?_eq_getElem (by omega), List.append_assoc]
  rfl
theorem partO_all (l : List Nat) (hl : l.length = 16) : partO l 16 = l := by simp [partO, ← hl]
theorem ords_at (m i : Nat) (hm : m < 10) (hi : i < 16) : (ords.flatten.map cd).getD (m * 16 + i) 0 = cd ((ords.getD m []).getD i 0) := by
  have h : ((List.range 10).all fun m => (List.range 16).all fun i => (ords.flatten.map cd).getD (m * 16 + i) 0 == cd ((ords.getD m []).getD i 0)) = true := by kernel_rfl
  have := List.all_eq_true.1 (List.all_eq_true.1 h m (List.mem_range.2 hm)) i (List.mem_range.2 hi)
  simpa using this

def sx : ByteArray := ⟨#[48, 49, 50, 51, 52, 53, 54, 55, 56, 57, 97, 98, 99, 100, 101, 102, 101, 97, 52, 56, 57, 102, 100, 54, 49, 99, 48, 50, 98, 55, 53, 51, 98, 56, 99, 48, 53, 50, 102, 100, 97, 101, 51, 54, 55, 49, 57, 52, 55, 57, 51, 49, 100, 99, 98, 101, 50, 54, 53, 97, 52, 48, 102, 56, 57, 48, 53, 55, 50, 52, 97, 102, 101, 49, 98, 99, 54, 56, 51, 100, 50, 99, 54, 97, 48, 98, 56, 51, 52, 100, 55, 53, 102, 101, 49, 57, 99, 53, 49, 102, 101, 100, 52, 97, 48, 55, 54, 51, 57, 50, 56, 98, 100, 98, 55, 101, 99, 49, 51, 57, 53, 48, 102, 52, 56, 54, 50, 97, 54, 102, 101, 57, 98, 51, 48, 56, 99, 50, 100, 55, 49, 52, 97, 53, 97, 50, 56, 52, 55, 54, 49, 53, 102, 98, 57, 101, 51, 99, 100, 48]⟩
theorem sx_at (q : Nat) (h : q < sx.size) : (sx[q]).toNat = (ords.flatten.map cd).getD q 0 := by
  have e : sx.data.toList.map UInt8.toNat = ords.flatten.map cd := by kernel_rfl
  have h2 : q < sx.data.toList.length := h
  rw [← e, List.getD_eq_getElem?_getD, List.getElem?_map, List.getElem?_eq_getElem h2]
  rfl
set_option maxHeartbeats 1600000 in
theorem order_neg (z : Int) (hz : z < 0) (w : World) : Calls Tryd.prog 46 #[.int .i64 z] w fun e w' => e = .returned (.agg (iq (List.replicate 16 0))) ∧ Below w.heap.size w w' := by
  go_enter Tryd.func46, Tryd.ntmps46
  go_wp2
  refine bodyPost_ret (v := .agg (iq (List.replicate 16 0))) (results_cell_row rfl _ _ w.heap.size 80 (iq (List.replicate 16 0)) (0, 0) _ rfl ?_ Tryd.underlying80 rfl q_int16) rfl ⟨rfl, ((Below.refl _ w).alloc (Nat.le_refl _) _).alloc (by simp) _⟩
  exact (RowAt.new w 80 (iq (List.replicate 16 0))).alloc _
set_option maxHeartbeats 1600000 in
theorem order_any (r : Nat) (w : World) : Calls Tryd.prog 46 #[.int .i64 (r : Int)] w fun e w' => e = .returned (.agg (iq (order r))) ∧ Below w.heap.size w w' := by
  obtain ⟨m, hm⟩ : ∃ m, m = r % 10 := ⟨_, rfl⟩
  have hm10 : m < 10 := by omega
  have ht : (r : Int).tmod 10 = (m : Int) := by rw [Int.tmod_eq_emod_of_nonneg (by omega)]; omega
  have HO : Hid (order r = ords.getD m []) := Lib.hid (by rw [hm]; rfl)
  have hl : (order r).length = 16 := order_length r
  have HL := Lib.hid hl
  clear hm hl
  go_enter Tryd.func46, Tryd.ntmps46
  go_wp2
  have hL2 : (ords.getD m []).length = 16 := by rw [← HO.out]; exact HL.out
  generalize hW : (w.alloc _).alloc _ = W2
  have R0 : RowAt W2 w.heap.size 80 (iq (List.replicate 16 0)) := by subst hW; exact (RowAt.new w _ _).alloc _
  have R1 : RowAt W2 (w.heap.size + 1) 80 (iq (partO (ords.getD m []) 0)) := by
    subst hW
    have h := RowAt.new (w.alloc (.cells (iq (List.replicate 16 0)) 80)) 80 (iq (List.replicate 16 0))
    rw [World.size_alloc] at h; exact h
  have hB : Below w.heap.size w W2 := by subst hW; exact ((Below.refl _ w).alloc (Nat.le_refl _) _).alloc (by simp) _
  clear hW
  have H0 := Lib.hid R0
  have H1 := Lib.hid R1
  have HB := Lib.hid hB
  have HL2 := Lib.hid hL2
  clear R0 R1 hB hL2
  go_loopw [12] (fun v wr => ∃ j : Nat, j ≤ 16 ∧ v = .int .i64 (j : Int) ∧ RowAt wr (w.heap.size + 1) 80 (iq (partO (ords.getD m []) j)) ∧ RowAt wr w.heap.size 80 (iq (List.replicate 16 0)) ∧ Below w.heap.size w wr) (fun v _ => 16 - (intOf v).toNat)
  case atStart => exact ⟨0, by omega, rfl, H1.out, H0.out, HB.out⟩
  case round =>
    clear H1 H0 HB
    obtain ⟨j, hj, rfl, R1, R0, hB⟩ := hrel
    by_cases h : j < 16
    · have hdt : decide ((j : Int) < 16) = true := by simp; omega
      have hlen := partO_length (ords.getD m []) HL2.out j (by omega)
      have cj := (R1.cell j).trans (iq_at _ _ (by omega))
      have fj := R1.frozen j
      have HS := Lib.hid (partO_set (ords.getD m []) HL2.out j h)
      have hlt : (ords.getD m []).getD j 0 < 16 := by rw [← HO.out]; exact order_lt r j
      have CD := Lib.hid fun w => hexd_any ((ords.getD m []).getD j 0) hlt w
      have HA := Lib.hid (ords_at m j hm10 h)
      have H1 := Lib.hid R1
      have H0 := Lib.hid R0
      have HB := Lib.hid hB
      clear R1 R0 hB hlen
      obtain ⟨q, hq⟩ : ∃ q, q = m * 16 + j := ⟨_, rfl⟩
      rw [← hq] at HA
      have hq2 : (m : Int) * 16 + (j : Int) = (q : Int) := by omega
      have hb : q < 160 := by omega
      clear hq
      go_wp2_with fail
      generalize hg : UInt8.toNat _ = x
      have hx : x = cd ((ords.getD m []).getD j 0) := by
        rw [← hg]
        exact (sx_at q hb).trans HA.out
      subst hx
      clear hg
      refine (CD.out _).mono ?_
      rintro e w' ⟨rfl, rfl⟩
      generalize (ords.getD m []).getD j 0 = d at *
      go_wp2
      go_roundw
      case rel =>
        refine ⟨j + 1, by omega, by go_num, ?_, H0.out.setOther _ (by simp) _, HB.out.setCell (by simp) _⟩
        rw [← HS.out, ← iq_set]
        exact H1.out.setCell j _
      case measure => simp [intOf]; omega
    · obtain rfl : j = 16 := by omega
      have hdt : decide (((16 : Nat) : Int) < 16) = false := by simp
      rw [partO_all _ HL2.out, ← HO.out] at R1
      have H1 := Lib.hid R1
      have H0 := Lib.hid R0
      have HB := Lib.hid hB
      clear R1 R0 hB
      have hs : (iq (order r)).size = 16 := by rw [iq_size]; exact HL.out
      have HS := Lib.hid hs
      clear hs
      go_wp2_with (first
        | refine wpList_load_row rfl 80 (.tmp 3) rfl (w.heap.size + 1) rfl 80 (iq (order r)) (0, 0) _ H1.out Tryd.underlying80 rfl (by rw [HS.out]; exact q_int16) ?_
        | refine wpList_store_row rfl 80 (.tmp 2) (.tmp 23) rfl w.heap.size (iq (order r)) rfl rfl 80 _ H0.out (by rw [HS.out]; exact q_int16) (by rw [HS.out]; rfl) (iq_one _) ?_)
      have hR := H0.out.setRow (iq (order r))
      refine bodyPost_ret (v := .agg (iq (order r))) (results_cell_row rfl _ _ w.heap.size 80 (iq (order r)) (0, 0) _ rfl hR Tryd.underlying80 rfl (by rw [HS.out]; exact q_int16)) rfl ⟨rfl, ?_⟩
      exact below_setRow HB.out (Nat.le_refl _) _
end Go.Proofs.YtljijgihnoloeaaDoor
