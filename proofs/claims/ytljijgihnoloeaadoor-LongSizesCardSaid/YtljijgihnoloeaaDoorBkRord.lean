/- Order of the document by its contract. Condition: the round is no less than 0, or it is below 0. -/
import Derived.Test.YtljijgihnoloeaaDoorBkOrder
import Derived.Deep.QuietTactic
namespace Go.Proofs.YtljijgihnoloeaaDoor
set_option maxRecDepth 50000
open Go.RowKit Rot Bl

def lits : List Value := [Value.string ⟨#[48, 49, 50, 51, 52, 53, 54, 55, 56, 57, 97, 98, 99, 100, 101, 102]⟩, Value.string ⟨#[101, 97, 52, 56, 57, 102, 100, 54, 49, 99, 48, 50, 98, 55, 53, 51]⟩, Value.string ⟨#[98, 56, 99, 48, 53, 50, 102, 100, 97, 101, 51, 54, 55, 49, 57, 52]⟩, Value.string ⟨#[55, 57, 51, 49, 100, 99, 98, 101, 50, 54, 53, 97, 52, 48, 102, 56]⟩, Value.string ⟨#[57, 48, 53, 55, 50, 52, 97, 102, 101, 49, 98, 99, 54, 56, 51, 100]⟩, Value.string ⟨#[50, 99, 54, 97, 48, 98, 56, 51, 52, 100, 55, 53, 102, 101, 49, 57]⟩, Value.string ⟨#[99, 53, 49, 102, 101, 100, 52, 97, 48, 55, 54, 51, 57, 50, 56, 98]⟩, Value.string ⟨#[100, 98, 55, 101, 99, 49, 51, 57, 53, 48, 102, 52, 56, 54, 50, 97]⟩, Value.string ⟨#[54, 102, 101, 57, 98, 51, 48, 56, 99, 50, 100, 55, 49, 52, 97, 53]⟩, Value.string ⟨#[97, 50, 56, 52, 55, 54, 49, 53, 102, 98, 57, 101, 51, 99, 100, 48]⟩]
def so (l : List Nat) : ByteArray := ⟨(l.map fun d => UInt8.ofNat (cd d)).toArray⟩
theorem lits_at (m : Nat) (h : m < lits.length) : lits[m] = .string (so (ords.getD m [])) := by
  have e : lits = (List.range 10).map (fun m => Value.string (so (ords.getD m []))) := by kernel_rfl
  have h2 : lits[m]? = some (.string (so (ords.getD m []))) := by
    rw [e, List.getElem?_map, List.getElem?_range (by simpa [lits] using h)]; rfl
  exact (List.getElem?_eq_some_iff.1 h2).2
theorem so_size (l : List Nat) : (so l).size = l.length := by simp [so, ByteArray.size]
theorem so_at (l : List Nat) (hl : ∀ i, l.getD i 0 < 16) (i : Nat) (h : i < (so l).size) : ((so l)[i]).toNat = cd (l.getD i 0) := by
  have h2 : i < l.length := by rwa [so_size] at h
  have e : ((so l)[i]) = UInt8.ofNat (cd (l.getD i 0)) := by
    show (so l).data[i]'_ = _
    simp [so, List.getD_eq_getElem?_getD, List.getElem?_eq_getElem h2]
  have := hl i
  have hc : cd (l.getD i 0) < 256 := by unfold cd; split <;> omega
  rw [e, UInt8.toNat_ofNat']
  omega
theorem cd_inj (a b : Nat) (ha : a < 16) (hb : b < 16) (h : cd a = cd b) : a = b := by
  unfold cd at h; split at h <;> split at h <;> omega
def digs : ByteArray := ⟨#[48, 49, 50, 51, 52, 53, 54, 55, 56, 57, 97, 98, 99, 100, 101, 102]⟩
theorem digs_at (d : Nat) (h : d < digs.size) : (digs[d]).toNat = cd d := by
  have e : digs = so (List.range 16) := by kernel_rfl
  have h2 : d < 16 := h
  have h3 := so_at (List.range 16) (fun i => by
    rw [List.getD_eq_getElem?_getD]
    by_cases hi : i < 16
    · rw [List.getElem?_range hi]; exact hi
    · rw [List.getElem?_eq_none (by simp; omega)]; decide) d (by rw [so_size]; simpa using h2)
  rw [List.getD_eq_getElem?_getD, List.getElem?_range h2] at h3
  simpa [e] using h3
/-- place j of a row, on the way to its digit -/
def midO (l : List Nat) (j d : Nat) : List Nat := (partO l j).set j (if l.getD j 0 < d then l.getD j 0 else 0)
theorem midO_start (l : List Nat) (hl : l.length = 16) (j : Nat) (h : j < 16) : midO l j 0 = partO l j := by
  unfold midO
  rw [if_neg (by omega)]
  have e : (partO l j)[j]? = some 0 := by
    unfold partO
    have h0 : (l.take j).length = j := by rw [List.length_take, hl]; omega
    rw [List.getElem?_append_right (by omega), h0, Nat.sub_self, List.getElem?_replicate, if_pos (by omega)]
  obtain ⟨hh, he⟩ := List.getElem?_eq_some_iff.1 e
  conv => lhs; rw [← he]
  exact List.set_getElem_self hh
theorem midO_end (l : List Nat) (hl : l.length = 16) (j : Nat) (h : j < 16) (hd : l.getD j 0 < 16) : midO l j 16 = partO l (j + 1) := by
  unfold midO
  rw [if_pos hd, partO_set l hl j h]
theorem midO_yes (l : List Nat) (j d : Nat) (h : l.getD j 0 = d) : (midO l j d).set j d = midO l j (d + 1) := by
  unfold midO
  rw [List.set_set, if_pos (by omega), h]
theorem midO_no (l : List Nat) (j d : Nat) (h : l.getD j 0 ≠ d) : midO l j d = midO l j (d + 1) := by
  unfold midO
  by_cases h2 : l.getD j 0 < d
  · rw [if_pos h2, if_pos (by omega)]
  · rw [if_neg h2, if_neg (by omega)]
theorem midO_length (l : List Nat) (hl : l.length = 16) (j d : Nat) (h : j ≤ 16) : (midO l j d).length = 16 := by
  unfold midO; rw [List.length_set, partO_length l hl j h]

set_option maxHeartbeats 1600000 in
theorem rorder_neg (z : Int) (hz : z < 0) (w : World) : Calls Tryd.prog 37 #[.int .i64 z] w fun e w' => e = .returned (.agg (iq (List.replicate 16 0))) ∧ Below w.heap.size w w' := by
  go_enter Tryd.func37, Tryd.ntmps37
  go_wp2
  refine bodyPost_ret (v := .agg (iq (List.replicate 16 0))) (results_cell_row rfl _ _ w.heap.size 80 (iq (List.replicate 16 0)) (0, 0) _ rfl ?_ Tryd.underlying80 rfl q_int16) rfl ⟨rfl, (((Below.refl _ w).alloc (Nat.le_refl _) _).alloc (by simp) _).alloc (by simp; omega) _⟩
  exact ((RowAt.new w 80 (iq (List.replicate 16 0))).alloc _).alloc _
set_option maxHeartbeats 1600000 in
theorem rorder_any (r : Nat) (w : World) : Calls Tryd.prog 37 #[.int .i64 (r : Int)] w fun e w' => e = .returned (.agg (iq (order r))) ∧ Below w.heap.size w w' := by
  obtain ⟨m, hm⟩ : ∃ m, m = r % 10 := ⟨_, rfl⟩
  have hm10 : m < 10 := by omega
  have ht : (r : Int).tmod 10 = (m : Int) := by rw [Int.tmod_eq_emod_of_nonneg (by omega)]; omega
  have HO : Hid (order r = ords.getD m []) := Lib.hid (by rw [hm]; rfl)
  have hl : (order r).length = 16 := order_length r
  have HL := Lib.hid hl
  clear hm hl
  go_enter Tryd.func37, Tryd.ntmps37
  go_wp2_with fail
  have hL2 : (ords.getD m []).length = 16 := by rw [← HO.out]; exact HL.out
  have hlt : ∀ i, (ords.getD m []).getD i 0 < 16 := fun i => by rw [← HO.out]; exact order_lt r i
  generalize hv : GetElem.getElem (_ : List Value) m _ = v
  have hs : v = .string (so (ords.getD m [])) := by
    rw [← hv]
    exact lits_at m hm10
  subst hs
  clear hv
  generalize hW : ((w.alloc _).alloc _).alloc _ = W2
  have R0 : RowAt W2 w.heap.size 80 (iq (List.replicate 16 0)) := by subst hW; exact ((RowAt.new w _ _).alloc _).alloc _
  have R1 : RowAt W2 (w.heap.size + 1 + 1) 80 (iq (partO (ords.getD m []) 0)) := by
    subst hW
    have h := RowAt.new ((w.alloc (.cells (iq (List.replicate 16 0)) 80)).alloc (.cells lits.toArray 9)) 80 (iq (List.replicate 16 0))
    rw [World.size_alloc, World.size_alloc] at h; exact h
  have hB : Below w.heap.size w W2 := by subst hW; exact (((Below.refl _ w).alloc (Nat.le_refl _) _).alloc (by simp) _).alloc (by simp; omega) _
  clear hW
  have hg : digs.size = 16 := rfl
  have hgd := digs_at
  generalize hD : (⟨#[48, 49, 50, 51, 52, 53, 54, 55, 56, 57, 97, 98, 99, 100, 101, 102]⟩ : ByteArray) = D
  have hD2 : digs = D := hD
  rw [hD2] at hg hgd
  clear hD hD2
  have hz := so_size (ords.getD m [])
  rw [hL2] at hz
  have hzd := so_at (ords.getD m []) hlt
  generalize so (ords.getD m []) = s at *
  have H0 := Lib.hid R0
  have H1 := Lib.hid R1
  have HB := Lib.hid hB
  have HL2 := Lib.hid hL2
  have HLT := Lib.hid hlt
  have HG := Lib.hid hgd
  have HZ := Lib.hid hzd
  clear R0 R1 hB hL2 hlt hgd hzd
  go_loopw [7] (fun v wr => ∃ j : Nat, j ≤ 16 ∧ v = .int .i64 (j : Int) ∧ RowAt wr (w.heap.size + 1 + 1) 80 (iq (partO (ords.getD m []) j)) ∧ RowAt wr w.heap.size 80 (iq (List.replicate 16 0)) ∧ Below w.heap.size w wr) (fun v _ => 16 - (intOf v).toNat)
  case atStart => exact ⟨0, by omega, rfl, H1.out, H0.out, HB.out⟩
  case round =>
    clear H1 H0 HB
    obtain ⟨j, hj, rfl, R1, R0, hB⟩ := hrel
    have H1 := Lib.hid R1
    have H0 := Lib.hid R0
    have HB := Lib.hid hB
    clear R1 R0 hB
    by_cases h : j < 16
    · have hdt : decide ((j : Int) < 16) = true := by simp; omega
      go_wp2
      go_loopw [8] (fun v wr => ∃ d : Nat, d ≤ 16 ∧ v = .int .i64 (d : Int) ∧ RowAt wr (w.heap.size + 1 + 1) 80 (iq (midO (ords.getD m []) j d)) ∧ RowAt wr w.heap.size 80 (iq (List.replicate 16 0)) ∧ Below w.heap.size w wr) (fun v _ => 16 - (intOf v).toNat)
      case atStart => exact ⟨0, by omega, rfl, by rw [midO_start _ HL2.out j h]; exact H1.out, H0.out, HB.out⟩
      case round =>
        clear H1 H0 HB
        obtain ⟨d, hd, rfl, R1, R0, hB⟩ := hrel
        by_cases hd2 : d < 16
        · have hdt2 : decide ((d : Int) < 16) = true := by simp; omega
          have hjs : j < s.size := by omega
          have hdD : d < D.size := by omega
          have hlen := midO_length (ords.getD m []) HL2.out j d (by omega)
          have cj := (R1.cell j).trans (iq_at _ _ (by omega))
          have fj := R1.frozen j
          have x1 := HZ.out j hjs
          have x2 := HG.out d hdD
          have hin := cd_inj d ((ords.getD m []).getD j 0) hd2 (HLT.out j)
          have hy := midO_yes (ords.getD m []) j d
          have hn := midO_no (ords.getD m []) j d
          generalize (ords.getD m []).getD j 0 = o at *
          have H1 := Lib.hid R1
          have H0 := Lib.hid R0
          have HB := Lib.hid hB
          have HY := Lib.hid hy
          have HN := Lib.hid hn
          clear R1 R0 hB hlen hy hn
          by_cases he : d = o
          · subst he
            clear hin
            go_wp2
            go_quiet (fail)
            go_wp2
            go_roundw
            case rel =>
              refine ⟨d + 1, by omega, by go_num, ?_, (H0.out.drewN nq).setOther _ (by simp <;> omega) _, (below_drewN HB.out nq).setCell (by simp <;> omega) _⟩
              rw [← HY.out (by trivial), ← iq_set]
              exact (H1.out.drewN nq).setCell j _
            case measure => simp [intOf]; omega
          · have hne : ¬ cd d = cd o := fun e => he (hin e)
            clear hin
            go_wp2
            go_quiet (fail)
            go_wp2
            go_roundw
            case rel =>
              refine ⟨d + 1, by omega, by go_num, ?_, H0.out.drewN nq, below_drewN HB.out nq⟩
              rw [← HN.out (fun e => he e.symm)]
              exact H1.out.drewN nq
            case measure => simp [intOf]; omega
        · obtain rfl : d = 16 := by omega
          have hdt2 : decide (((16 : Nat) : Int) < 16) = false := by simp
          have H1 := Lib.hid R1
          have H0 := Lib.hid R0
          have HB := Lib.hid hB
          clear R1 R0 hB
          go_wp2
          go_roundw
          case rel => exact ⟨j + 1, by omega, by go_num, by rw [← midO_end _ HL2.out j h (HLT.out j)]; exact H1.out, H0.out, HB.out⟩
          case measure => simp [intOf]; omega
    · obtain rfl : j = 16 := by omega
      have hdt : decide (((16 : Nat) : Int) < 16) = false := by simp
      rw [partO_all _ HL2.out, ← HO.out] at H1
      have hs : (iq (order r)).size = 16 := by rw [iq_size]; exact HL.out
      have HS := Lib.hid hs
      clear hs
      go_wp2_with (first
        | refine wpList_load_row rfl 80 (.tmp 4) rfl (w.heap.size + 1 + 1) rfl 80 (iq (order r)) (0, 0) _ H1.out Tryd.underlying80 rfl (by rw [HS.out]; exact q_int16) ?_
        | refine wpList_store_row rfl 80 (.tmp 2) (.tmp 39) rfl w.heap.size (iq (order r)) rfl rfl 80 _ H0.out (by rw [HS.out]; exact q_int16) (by rw [HS.out]; rfl) (iq_one _) ?_)
      have hR := H0.out.setRow (iq (order r))
      refine bodyPost_ret (v := .agg (iq (order r))) (results_cell_row rfl _ _ w.heap.size 80 (iq (order r)) (0, 0) _ rfl hR Tryd.underlying80 rfl (by rw [HS.out]; exact q_int16)) rfl ⟨rfl, ?_⟩
      exact below_setRow HB.out (Nat.le_refl _) _
end Go.Proofs.YtljijgihnoloeaaDoor
