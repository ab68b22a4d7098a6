/- Reserve and Release of an arena, by their contracts. Conditions: those typed. -/
import Derived.Test.YtohmkhmanidljaaDoorArMem
import Derived.Lib.MinMax
namespace Go.Proofs.YtohmkhmanidljaaDoor
set_option maxRecDepth 50000
open Go.RowKit Bb

theorem zb_cells' : u64s zb = List.replicate 128 (.int .u64 0) := by unfold u64s zb; rw [List.map_replicate]; rfl
theorem bcs_zeros : ∀ n : Nat, bcs (List.replicate n zb) = List.replicate (n * 128) (.int .u64 0)
  | 0 => rfl
  | n + 1 => by
    rw [List.replicate_succ, show bcs (zb :: List.replicate n zb) = u64s zb ++ bcs (List.replicate n zb) by simp [bcs], bcs_zeros n,
      zb_cells', List.replicate_append_replicate]
    congr 1
    omega
theorem zeros_ok (n : Nat) : ∀ b ∈ List.replicate n zb, okb b := fun b hb => by rw [List.eq_of_mem_replicate hb]; exact zb_ok
theorem made_b (n : Nat) : madeCells (wq zb) (n * 128) = (bcs (List.replicate n zb)).toArray := by
  rw [bcs_zeros]
  apply Array.ext
  · simp [size_madeCells]
  · intro i h1 h2
    simp only [madeCells, Array.getElem_map, Array.getElem_range, wq_size, List.getElem_toArray, List.getElem_replicate]
    rw [show zb.length = 128 by simp [zb], getElem!_pos (wq zb) (i % 128) (by rw [wq_size]; simp [zb]; omega)]
    simp only [wq, zb_cells', List.getElem_toArray, List.getElem_replicate]
theorem b_info : (Tryd.prog.info? 95).map (fun i => (i.zero, i.size, i.bytes)) = some (some (.agg (wq zb)), 128, 1024) := by kernel_rfl
theorem b_parts : ∃ i, Tryd.prog.info? 95 = some i ∧ i.zero = some (.agg (wq zb)) ∧ i.size = 128 ∧ i.bytes = 1024 := by
  have h := b_info
  cases hq : Tryd.prog.info? 95 with
  | none => rw [hq] at h; cases h
  | some i =>
    rw [hq] at h
    simp only [Option.map_some, Option.some.injEq, Prod.mk.injEq] at h
    exact ⟨i, rfl, h.1, h.2.1, h.2.2⟩
theorem make_blocks (n : Nat) (hn : n ≤ 4194304) (w : World) : (Instr.makeSlice 66 (.int .i64 (n : Int)) (.int .i64 (n : Int))).run Tryd.prog w = .ok (.slice (some ⟨w.heap.size, 0, none⟩) n n) (w.alloc (.cells (bcs (List.replicate n zb)).toArray 95)) := by
  obtain ⟨i, hi, hz, hs, hb⟩ := b_parts
  have := run_make (P := Tryd.prog) w 66 95 i _ Tryd.underlying66 hi hz .i64 .i64 (n : Int) (n : Int) (by omega) (Int.le_refl _) (by rw [hb]; omega) (by omega)
  rw [this, hs, Int.toNat_natCast, ← made_b]
  rfl
theorem clear_blocks {w : World} {g : Nat} {l : List (List Nat)} (h : BlkAt w g l) (ho : ∀ b ∈ l, okb b) (ty : TypeId) :
    ∃ w', (Builtin.clear_ #[66] ty #[.slice (some ⟨g, 0, none⟩) l.length l.length]).run Tryd.prog w = .ok (.tuple #[]) w' ∧ BlkAt w' g (List.replicate l.length zb) ∧ Kept (fun k => k = g) w w' ∧ w'.heap.size = w.heap.size := by
  cases l with
  | nil =>
    refine ⟨w, ?_, h, Kept.refl _ _, rfl⟩
    simp [Builtin.clear_, run_underlying Tryd.underlying66]
  | cons b0 l0 =>
    have hl := bcs_length ho
    generalize hn : (b0 :: l0).length = n at *
    obtain ⟨m, rfl⟩ : ∃ m, n = m + 1 := ⟨n - 1, by simp at hn; omega⟩
    have hz : (Builtin.zeroCells (wq zb) (m + 1)).toList = bcs (List.replicate (m + 1) zb) := by
      rw [show bcs (List.replicate (m + 1) zb) = (bcs (List.replicate (m + 1) zb)).toArray.toList from rfl, ← made_b]
      unfold Builtin.zeroCells madeCells
      rw [wq_size]
      rfl
    have hst := run_storeCells_at Tryd.prog g 0 95 (bcs (List.replicate (m + 1) zb)) 0 (bcs (b0 :: l0)).toArray w h (by rw [bcs_zeros]; simp [hl]) (by rw [bcs_zeros]; intro v hv; rw [List.eq_of_mem_replicate hv]; rfl)
    rw [show (bcs (b0 :: l0)).toArray.toList.take (0 + 0) ++ bcs (List.replicate (m + 1) zb) ++ (bcs (b0 :: l0)).toArray.toList.drop (0 + 0 + (bcs (List.replicate (m + 1) zb)).length) = bcs (List.replicate (m + 1) zb) by
      rw [List.drop_of_length_le (by rw [bcs_zeros]; simp [hl])]; simp] at hst
    refine ⟨w.setRow g (bcs (List.replicate (m + 1) zb)).toArray, ?_, RowAt.setRow h _, ⟨rfl, rfl, rfl, Nat.le_of_eq (setRow_size _ _ _).symm, fun k hk hne => setRow_other _ _ _ _ hne⟩, setRow_size _ _ _⟩
    have hcl : (Value.agg (wq zb)).cells = wq zb := rfl
    have hzc : Tryd.zeroCells95 = wq zb := by kernel_rfl
    simp [Builtin.clear_, run_underlying Tryd.underlying66, hzc, hcl, hz, hst]

theorem ares_nil (n : Int) (w : World) : Calls Tryd.prog 17 #[.pointer none, .int .i64 n] w fun e w' => e = .returned (.tuple #[.pointer none, .int .i64 11]) ∧ w' = w := by
  go_enter Tryd.func17, Tryd.ntmps17
  go_wp2
  go_ret2
  exact ⟨rfl, rfl⟩
theorem ares_neg (a : Addr) (n : Int) (hn : n < 0) (w : World) : Calls Tryd.prog 17 #[.pointer (some a), .int .i64 n] w fun e w' => e = .returned (.tuple #[.pointer none, .int .i64 1]) ∧ w' = w := by
  have d1 : decide (n < 0) = true := by simp; omega
  go_enter Tryd.func17, Tryd.ntmps17
  go_wp2
  go_ret2
  exact ⟨rfl, rfl⟩
set_option maxHeartbeats 800000 in
theorem ares_full {w : World} {a B u h c : Nat} (hA : AreAt w a B u h c) (n : Int) (hn0 : 0 ≤ n) (hn : (B : Int) - u < n) (hB : B ≤ 4194304) (hu : u ≤ B) : Calls Tryd.prog 17 #[.pointer (some ⟨a, 0, none⟩), .int .i64 n] w fun e w' => e = .returned (.tuple #[.pointer none, .int .i64 4]) ∧ ∃ q, w' = w.drewN q := by
  obtain ⟨x0, x1, x2, x3, f0, f1, f2, f3⟩ := hA.at_
  clear hA
  obtain ⟨r, hr⟩ : ∃ r : Nat, (B : Int) - u = r := ⟨B - u, by omega⟩
  have d1 : decide (n < 0) = false := by simp; omega
  have d2 : decide ((r : Int) < n) = true := by simp; omega
  have hw : IntKind.i64.wrap ((B : Int) - u) = (r : Int) := by rw [IntKind.wrap_i64]; omega
  go_enter Tryd.func17, Tryd.ntmps17
  go_wp2
  go_quiet (fail)
  go_wp2
  go_ret2
  exact ⟨rfl, _, rfl⟩

set_option maxHeartbeats 1600000 in
theorem ares_any {w : World} {a B u h c : Nat} (hA : AreAt w a B u h c) (n : Nat) (hn : u + n ≤ B) (hB : B ≤ 4194304) (hc : c ≤ 4194304) : Calls Tryd.prog 17 #[.pointer (some ⟨a, 0, none⟩), .int .i64 (n : Int)] w fun e w' => (∃ p g, e = .returned (.tuple #[.pointer (some ⟨p, 0, none⟩), .int .i64 0]) ∧ LiveAt w' p a g (List.replicate n zb) ∧ w.heap.size ≤ p ∧ w.heap.size ≤ g) ∧ AreAt w' a B (u + n) (max h (u + n)) (c + 1) ∧ Kept (fun k => k = a) w w' := by
  obtain ⟨x0, x1, x2, x3, f0, f1, f2, f3⟩ := hA.at_
  have HA := Lib.hid fun q => ((AreAt.setU (w := w.drewN q) hA (u + n)).setC (c + 1))
  clear hA
  obtain ⟨r, hr⟩ : ∃ r : Nat, (B : Int) - u = r := ⟨B - u, by omega⟩
  have d1 : decide ((n : Int) < 0) = false := by simp
  have d2 : decide ((r : Int) < (n : Int)) = false := by simp; omega
  have d3 : decide (r < n) = false := by simp; omega
  have hw : IntKind.i64.wrap ((B : Int) - u) = (r : Int) := by rw [IntKind.wrap_i64]; omega
  have hm : max (h : Int) ((u : Int) + (n : Int)) = ((max h (u + n) : Nat) : Int) := by omega
  have hmk := make_blocks n (by omega)
  have hln : (List.replicate n zb).length = n := List.length_replicate ..
  generalize max h (u + n) = m at *
  go_enter Tryd.func17, Tryd.ntmps17
  go_wp2
  go_quiet (fail)
  go_wp2
  obtain ⟨w1, e1⟩ : ∃ w1, w1 = ((w.drewN nq).setCell ⟨a, 1, none⟩ (.int .i64 ((u : Int) + n))).setCell ⟨a, 3, none⟩ (.int .i64 ((c : Int) + 1)) := ⟨_, rfl⟩
  have hK : Kept (fun k => k = a) w w1 := by
    rw [e1]
    have h0 : Kept (fun k => k = a) w (w.drewN nq) := ⟨rfl, rfl, rfl, Nat.le_refl _, fun _ _ _ => rfl⟩
    exact (h0.set (p := ⟨a, 1, none⟩) (.inl rfl) _).set (p := ⟨a, 3, none⟩) (.inl rfl) _
  have hA1 : AreAt w1 a B (u + n) h (c + 1) := by
    have := HA.out nq
    rw [show ((u + n : Nat) : Int) = (u : Int) + n by omega, show ((c + 1 : Nat) : Int) = (c : Int) + 1 by omega] at this
    rw [e1]
    exact this
  rw [← e1]
  clear e1 HA x0 x1 x2 x3 f0 f1 f2 f3
  obtain ⟨y0, y1, y2, y3, f0, f1, f2, f3⟩ := hA1.at_
  have HA := Lib.hid (AreAt.setH (w := w1.drew) hA1 m)
  have HK := Lib.hid hK
  clear hK hA1
  rw [show ((u + n : Nat) : Int) = (u : Int) + n by omega] at y1
  clear y0 y3 f0 f1 f3
  go_region
  go_wp2
  go_ret2
  have hs := HK.out.size
  have HZ := zeros_ok n
  generalize List.replicate n zb = l at *
  obtain rfl := hln
  generalize hw2 : w1.setCell _ _ = w2
  have hA2 : AreAt w2 a B (u + l.length) m (c + 1) := by rw [← hw2]; exact HA.out
  have hs2 : w2.heap.size = w1.heap.size := by rw [← hw2]; simp [World.setCell]
  have hK2 : Kept (fun k => k = a) w w2 := by rw [← hw2]; exact HK.out.set (p := ⟨a, 2, none⟩) (.inl rfl) _
  have R1 := RowAt.new w2 95 (bcs l).toArray
  have R2 := RowAt.new (w2.alloc (.cells (bcs l).toArray 95)) 68 (pcs a l.length true (.slice (some ⟨w2.heap.size, 0, none⟩) l.length l.length))
  rw [World.size_alloc] at R2
  rw [← hs2]
  exact ⟨⟨_, w2.heap.size, rfl, ⟨R2, R1.alloc _, HZ⟩, by omega, by omega⟩, (RowAt.alloc hA2 _).alloc _, ((hK2.alloc _).alloc _).drew⟩
end Go.Proofs.YtohmkhmanidljaaDoor
