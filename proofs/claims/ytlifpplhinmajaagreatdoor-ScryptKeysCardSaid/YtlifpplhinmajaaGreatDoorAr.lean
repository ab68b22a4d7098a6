/- An arena and a piece in memory; New, Budget, Used, High, Lent, Mark, Len by their contracts. Conditions: those typed. Reserve and Release of an arena, by their contracts. Conditions: those typed. Release of an arena by its contracts. Conditions: those typed. A piece's blocks: what is at fault, At, Get, Set, Clean, by their contracts. Conditions: those typed. -/
import Derived.Test.YtlifpplhinmajaaGreatDoorBb
import Derived.Laws.CopyRow
import Derived.Laws.MakeOwn
import Derived.OwnWalk
import Derived.Lib.MinMax
import Derived.LaidEqlPtr
import Derived.Deep.MidRow
namespace Go.Proofs.YtlifpplhinmajaaGreatDoor
set_option maxRecDepth 50000
open Go.RowKit Bb

/-- an arena at block a: its budget, what is used, the most, how many pieces -/
def ars (B u h c : Nat) : Array Value := #[.int .i64 (B : Int), .int .i64 (u : Int), .int .i64 (h : Int), .int .i64 (c : Int)]
def AreAt (w : World) (a B u h c : Nat) : Prop := RowAt w a 52 (ars B u h c)
/-- a piece at block p -/
def pcs (a n : Nat) (live : Bool) (v : Value) : Array Value := #[.pointer (some ⟨a, 0, none⟩), .int .i64 (n : Int), .bool live, v]
def PceAt (w : World) (p a n : Nat) (live : Bool) (v : Value) : Prop := RowAt w p 72 (pcs a n live v)
/-- blocks at block g -/
def BlkAt (w : World) (g : Nat) (l : List (List Nat)) : Prop := RowAt w g 169 (bcs l).toArray
/-- a live piece and its blocks -/
structure LiveAt (w : World) (p a g : Nat) (l : List (List Nat)) : Prop where
  row : PceAt w p a l.length true (.slice (some ⟨g, 0, none⟩) l.length l.length)
  blk : BlkAt w g l
  ok : ∀ b ∈ l, okb b
def OffAt (w : World) (p a n : Nat) : Prop := PceAt w p a n false (.slice none 0 0)

section
variable {w w' : World} {a p g n B u h c : Nat} {live : Bool} {v : Value} {l : List (List Nat)} {M : Nat → Prop}
theorem RowAt.kept {t : TypeId} {C : Array Value} {b : Nat} (h : RowAt w b t C) (hk : Kept M w w') (hM : ¬ M b) : RowAt w' b t C := (hk.block b h.lt hM).trans h
theorem RowAt.unlike {t t' : TypeId} {C C' : Array Value} {b b' : Nat} (h : RowAt w b t C) (k : RowAt w b' t' C') (ht : (t == t') = false) : b ≠ b' := fun e => by
  subst e
  unfold RowAt at h k
  rw [h] at k
  simp only [Option.some.injEq, Obj.cells.injEq] at k
  rw [k.2.1] at ht
  simp at ht
theorem AreAt.at_ (h' : AreAt w a B u h c) : w.cell? ⟨a, 0, none⟩ = some (.int .i64 (B : Int)) ∧ w.cell? ⟨a, 1, none⟩ = some (.int .i64 (u : Int)) ∧ w.cell? ⟨a, 2, none⟩ = some (.int .i64 (h : Int)) ∧ w.cell? ⟨a, 3, none⟩ = some (.int .i64 (c : Int)) ∧
    w.frozen? ⟨a, 0, none⟩ = false ∧ w.frozen? ⟨a, 1, none⟩ = false ∧ w.frozen? ⟨a, 2, none⟩ = false ∧ w.frozen? ⟨a, 3, none⟩ = false :=
  ⟨by rw [RowAt.cell h' 0]; rfl, by rw [RowAt.cell h' 1]; rfl, by rw [RowAt.cell h' 2]; rfl, by rw [RowAt.cell h' 3]; rfl, RowAt.frozen h' 0, RowAt.frozen h' 1, RowAt.frozen h' 2, RowAt.frozen h' 3⟩
theorem PceAt.at_ (h' : PceAt w p a n live v) : w.cell? ⟨p, 0, none⟩ = some (.pointer (some ⟨a, 0, none⟩)) ∧ w.cell? ⟨p, 1, none⟩ = some (.int .i64 (n : Int)) ∧ w.cell? ⟨p, 2, none⟩ = some (.bool live) ∧ w.cell? ⟨p, 3, none⟩ = some v ∧
    w.frozen? ⟨p, 0, none⟩ = false ∧ w.frozen? ⟨p, 1, none⟩ = false ∧ w.frozen? ⟨p, 2, none⟩ = false ∧ w.frozen? ⟨p, 3, none⟩ = false :=
  ⟨by rw [RowAt.cell h' 0]; rfl, by rw [RowAt.cell h' 1]; rfl, by rw [RowAt.cell h' 2]; rfl, by rw [RowAt.cell h' 3]; rfl, RowAt.frozen h' 0, RowAt.frozen h' 1, RowAt.frozen h' 2, RowAt.frozen h' 3⟩
theorem AreAt.setU (h' : AreAt w a B u h c) (u' : Nat) : AreAt (w.setCell ⟨a, 1, none⟩ (.int .i64 (u' : Int))) a B u' h c := RowAt.setCell h' 1 _
theorem AreAt.setH (h' : AreAt w a B u h c) (x : Nat) : AreAt (w.setCell ⟨a, 2, none⟩ (.int .i64 (x : Int))) a B u x c := RowAt.setCell h' 2 _
theorem AreAt.setC (h' : AreAt w a B u h c) (x : Nat) : AreAt (w.setCell ⟨a, 3, none⟩ (.int .i64 (x : Int))) a B u h x := RowAt.setCell h' 3 _
theorem BlkAt.reads (h' : BlkAt w g l) : Reads w w.heap.size (some ⟨g, 0, none⟩) (bcs l) := fun k hk => by
  refine ⟨g, 0, rfl, RowAt.lt h', ?_⟩
  rw [Nat.zero_add, RowAt.cell h' k, List.getElem?_toArray, List.getElem?_eq_getElem hk]
end

theorem anew_bad (n : Int) (h : n < 0 ∨ 4194304 < n) (w : World) : Calls Tryz.prog 11 #[.int .i64 n] w fun e w' => e = .returned (.tuple #[.pointer none, .int .i64 1]) ∧ w' = w := by
  have hh : decide (n < 0) = true ∨ decide (n < 0) = false ∧ decide (4194304 < n) = true := by simp; omega
  rcases hh with d1 | ⟨d1, d2⟩
  all_goals
    go_enter Tryz.func11, Tryz.ntmps11
    go_wp2
    go_ret2
    exact ⟨rfl, rfl⟩
theorem anew_any (n : Nat) (h : n ≤ 4194304) (w : World) : Calls Tryz.prog 11 #[.int .i64 (n : Int)] w fun e w' => e = .returned (.tuple #[.pointer (some ⟨w.heap.size, 0, none⟩), .int .i64 0]) ∧ AreAt w' w.heap.size n 0 0 0 ∧ Below w.heap.size w w' := by
  have d1 : decide ((n : Int) < 0) = false := by simp
  have d2 : decide ((4194304 : Int) < (n : Int)) = false := by simp; omega
  have d3 : decide (4194304 < n) = false := by simp; omega
  go_enter Tryz.func11, Tryz.ntmps11
  go_wp2
  go_ret2
  exact ⟨rfl, RowAt.new _ _ _, (Below.refl _ _).alloc (Nat.le_refl _) _⟩

/-- the numbers of an arena, of none too -/
theorem ars_size : (Tryz.prog.info? 52).map (·.size) = some 4 := by kernel_rfl
theorem counts_nil (w : World) : Calls Tryz.prog 30 #[.pointer none] w fun e w' => e = .returned (.agg (ars 0 0 0 0)) ∧ Below w.heap.size w w' := by
  go_enter Tryz.func30, Tryz.ntmps30
  go_wp2
  refine bodyPost_ret (v := .agg (ars 0 0 0 0)) (results_cell_row rfl _ _ w.heap.size 52 (ars 0 0 0 0) (0, 0) _ rfl (RowAt.new _ _ _) Tryz.underlying52 rfl ars_size) rfl ⟨rfl, ?_⟩
  exact (Below.refl _ _).alloc (Nat.le_refl _) _
set_option maxHeartbeats 800000 in
theorem counts_any {w : World} {a B u h c : Nat} (hA : AreAt w a B u h c) : Calls Tryz.prog 30 #[.pointer (some ⟨a, 0, none⟩)] w fun e w' => e = .returned (.agg (ars B u h c)) ∧ Below w.heap.size w w' := by
  obtain ⟨x0, x1, x2, x3, f0, f1, f2, f3⟩ := hA.at_
  have hlt := RowAt.lt hA
  clear hA
  go_enter Tryz.func30, Tryz.ntmps30
  go_wp2
  refine bodyPost_ret (v := .agg (ars B u h c)) (results_cell_row rfl _ _ w.heap.size 52 (ars B u h c) (0, 0) _ rfl (RowAt.new _ _ _) Tryz.underlying52 rfl ars_size) rfl ⟨rfl, ?_⟩
  exact (Below.refl _ _).alloc (Nat.le_refl _) _
theorem field_int (w : World) (B u h c : Nat) : (Instr.field 52 (.agg (ars B u h c)) 0).run Tryz.prog w = .ok (.int .i64 (B : Int)) w ∧ (Instr.field 52 (.agg (ars B u h c)) 1).run Tryz.prog w = .ok (.int .i64 (u : Int)) w ∧
    (Instr.field 52 (.agg (ars B u h c)) 2).run Tryz.prog w = .ok (.int .i64 (h : Int)) w ∧ (Instr.field 52 (.agg (ars B u h c)) 3).run Tryz.prog w = .ok (.int .i64 (c : Int)) w := by
  refine ⟨?_, ?_, ?_, ?_⟩ <;> simp [Instr.field, run_underlying Tryz.underlying52, asAgg, part, isAgg, run_underlying Tryz.underlying3, ars]
theorem used_nil (w : World) : Calls Tryz.prog 14 #[.pointer none] w fun e w' => e = .returned (.int .i64 0) ∧ Below w.heap.size w w' := by
  have C := Lib.hid (counts_nil w)
  have hF := fun w => (field_int w 0 0 0 0).2.1
  go_enter Tryz.func14, Tryz.ntmps14
  go_wp2_with fail
  refine C.out.mono ?_; rintro e w1 ⟨rfl, hb⟩
  have HB := Lib.hid hb
  clear hb
  go_wp2
  go_ret
  exact ⟨rfl, HB.out⟩
theorem used_any {w : World} {a B u h c : Nat} (hA : AreAt w a B u h c) : Calls Tryz.prog 14 #[.pointer (some ⟨a, 0, none⟩)] w fun e w' => e = .returned (.int .i64 (u : Int)) ∧ Below w.heap.size w w' := by
  have C := Lib.hid (counts_any hA)
  have hF := fun w => (field_int w B u h c).2.1
  clear hA
  go_enter Tryz.func14, Tryz.ntmps14
  go_wp2_with fail
  refine C.out.mono ?_; rintro e w1 ⟨rfl, hb⟩
  have HB := Lib.hid hb
  clear hb
  go_wp2
  go_ret
  exact ⟨rfl, HB.out⟩
theorem high_nil (w : World) : Calls Tryz.prog 13 #[.pointer none] w fun e w' => e = .returned (.int .i64 0) ∧ Below w.heap.size w w' := by
  have C := Lib.hid (counts_nil w)
  have hF := fun w => (field_int w 0 0 0 0).2.2.1
  go_enter Tryz.func13, Tryz.ntmps13
  go_wp2_with fail
  refine C.out.mono ?_; rintro e w1 ⟨rfl, hb⟩
  have HB := Lib.hid hb
  clear hb
  go_wp2
  go_ret
  exact ⟨rfl, HB.out⟩
theorem high_any {w : World} {a B u h c : Nat} (hA : AreAt w a B u h c) : Calls Tryz.prog 13 #[.pointer (some ⟨a, 0, none⟩)] w fun e w' => e = .returned (.int .i64 (h : Int)) ∧ Below w.heap.size w w' := by
  have C := Lib.hid (counts_any hA)
  have hF := fun w => (field_int w B u h c).2.2.1
  clear hA
  go_enter Tryz.func13, Tryz.ntmps13
  go_wp2_with fail
  refine C.out.mono ?_; rintro e w1 ⟨rfl, hb⟩
  have HB := Lib.hid hb
  clear hb
  go_wp2
  go_ret
  exact ⟨rfl, HB.out⟩
theorem len_nil (w : World) : Calls Tryz.prog 93 #[.pointer none] w fun e w' => e = .returned (.int .i64 0) ∧ w' = w := by
  go_enter Tryz.func93, Tryz.ntmps93
  go_wp2
  go_ret
  exact ⟨rfl, rfl⟩
theorem len_any {w : World} {p a n : Nat} {live : Bool} {v : Value} (h : PceAt w p a n live v) : Calls Tryz.prog 93 #[.pointer (some ⟨p, 0, none⟩)] w fun e w' => e = .returned (.int .i64 (n : Int)) ∧ w' = w := by
  obtain ⟨x0, x1, x2, x3, f0, f1, f2, f3⟩ := h.at_
  clear h
  go_enter Tryz.func93, Tryz.ntmps93
  go_wp2
  go_ret
  exact ⟨rfl, rfl⟩
end Go.Proofs.YtlifpplhinmajaaGreatDoor

namespace Go.Proofs.YtlifpplhinmajaaGreatDoor
set_option maxRecDepth 50000
open Go.RowKit Bb

theorem zb_cells' : u64s zb = List.replicate 128 (.int .u64 0) := by unfold u64s zb; rw [List.map_replicate]; rfl
theorem bcs_zeros : ∀ n : Nat, bcs (List.replicate n zb) = List.replicate (n * 128) (.int .u64 0)
  | 0 => rfl
  | n + 1 => by
    rw [List.replicate_succ, show bcs (zb :: List.replicate n zb) = u64s zb ++ bcs (List.replicate n zb) by simp [bcs], bcs_zeros n,
      zb_cells', List.replicate_append_replicate]
    congr 1
    omega
theorem zeros_ok (n : Nat) : ∀ b ∈ List.replicate n zb, okb b := fun b hb => by rw [List.eq_of_mem_replicate hb]; exact zb_ok
theorem made_b (n : Nat) : madeCells (wq zb) (n * 128) = (bcs (List.replicate n zb)).toArray := by
  rw [bcs_zeros]
  apply Array.ext
  · simp [size_madeCells]
  · intro i h1 h2
    simp only [madeCells, Array.getElem_map, Array.getElem_range, wq_size, List.getElem_toArray, List.getElem_replicate]
    rw [show zb.length = 128 by simp [zb], getElem!_pos (wq zb) (i % 128) (by rw [wq_size]; simp [zb]; omega)]
    simp only [wq, zb_cells', List.getElem_toArray, List.getElem_replicate]
theorem b_info : (Tryz.prog.info? 169).map (fun i => (i.zero, i.size, i.bytes)) = some (some (.agg (wq zb)), 128, 1024) := by kernel_rfl
theorem b_parts : ∃ i, Tryz.prog.info? 169 = some i ∧ i.zero = some (.agg (wq zb)) ∧ i.size = 128 ∧ i.bytes = 1024 := by
  have h := b_info
  cases hq : Tryz.prog.info? 169 with
  | none => rw [hq] at h; cases h
  | some i =>
    rw [hq] at h
    simp only [Option.map_some, Option.some.injEq, Prod.mk.injEq] at h
    exact ⟨i, rfl, h.1, h.2.1, h.2.2⟩
theorem make_blocks (n : Nat) (hn : n ≤ 4194304) (w : World) : (Instr.makeSlice 70 (.int .i64 (n : Int)) (.int .i64 (n : Int))).run Tryz.prog w = .ok (.slice (some ⟨w.heap.size, 0, none⟩) n n) (w.alloc (.cells (bcs (List.replicate n zb)).toArray 169)) := by
  obtain ⟨i, hi, hz, hs, hb⟩ := b_parts
  have := run_make (P := Tryz.prog) w 70 169 i _ Tryz.underlying70 hi hz .i64 .i64 (n : Int) (n : Int) (by omega) (Int.le_refl _) (by rw [hb]; omega) (by omega)
  rw [this, hs, Int.toNat_natCast, ← made_b]
  rfl
theorem clear_blocks {w : World} {g : Nat} {l : List (List Nat)} (h : BlkAt w g l) (ho : ∀ b ∈ l, okb b) (ty : TypeId) :
    ∃ w', (Builtin.clear_ #[70] ty #[.slice (some ⟨g, 0, none⟩) l.length l.length]).run Tryz.prog w = .ok (.tuple #[]) w' ∧ BlkAt w' g (List.replicate l.length zb) ∧ Kept (fun k => k = g) w w' ∧ w'.heap.size = w.heap.size := by
  cases l with
  | nil =>
    refine ⟨w, ?_, h, Kept.refl _ _, rfl⟩
    simp [Builtin.clear_, run_underlying Tryz.underlying70]
  | cons b0 l0 =>
    have hl := bcs_length ho
    generalize hn : (b0 :: l0).length = n at *
    obtain ⟨m, rfl⟩ : ∃ m, n = m + 1 := ⟨n - 1, by simp at hn; omega⟩
    have hz : (Builtin.zeroCells (wq zb) (m + 1)).toList = bcs (List.replicate (m + 1) zb) := by
      rw [show bcs (List.replicate (m + 1) zb) = (bcs (List.replicate (m + 1) zb)).toArray.toList from rfl, ← made_b]
      unfold Builtin.zeroCells madeCells
      rw [wq_size]
      rfl
    have hst := run_storeCells_at Tryz.prog g 0 169 (bcs (List.replicate (m + 1) zb)) 0 (bcs (b0 :: l0)).toArray w h (by rw [bcs_zeros]; simp [hl]) (by rw [bcs_zeros]; intro v hv; rw [List.eq_of_mem_replicate hv]; rfl)
    rw [show (bcs (b0 :: l0)).toArray.toList.take (0 + 0) ++ bcs (List.replicate (m + 1) zb) ++ (bcs (b0 :: l0)).toArray.toList.drop (0 + 0 + (bcs (List.replicate (m + 1) zb)).length) = bcs (List.replicate (m + 1) zb) by
      rw [List.drop_of_length_le (by rw [bcs_zeros]; simp [hl])]; simp] at hst
    refine ⟨w.setRow g (bcs (List.replicate (m + 1) zb)).toArray, ?_, RowAt.setRow h _, ⟨rfl, rfl, rfl, Nat.le_of_eq (setRow_size _ _ _).symm, fun k hk hne => setRow_other _ _ _ _ hne⟩, setRow_size _ _ _⟩
    have hcl : (Value.agg (wq zb)).cells = wq zb := rfl
    have hzc : Tryz.zeroCells169 = wq zb := by kernel_rfl
    simp [Builtin.clear_, run_underlying Tryz.underlying70, hzc, hcl, hz, hst]

theorem ares_nil (n : Int) (w : World) : Calls Tryz.prog 17 #[.pointer none, .int .i64 n] w fun e w' => e = .returned (.tuple #[.pointer none, .int .i64 11]) ∧ w' = w := by
  go_enter Tryz.func17, Tryz.ntmps17
  go_wp2
  go_ret2
  exact ⟨rfl, rfl⟩
theorem ares_neg (a : Addr) (n : Int) (hn : n < 0) (w : World) : Calls Tryz.prog 17 #[.pointer (some a), .int .i64 n] w fun e w' => e = .returned (.tuple #[.pointer none, .int .i64 1]) ∧ w' = w := by
  have d1 : decide (n < 0) = true := by simp; omega
  go_enter Tryz.func17, Tryz.ntmps17
  go_wp2
  go_ret2
  exact ⟨rfl, rfl⟩
set_option maxHeartbeats 800000 in
theorem ares_full {w : World} {a B u h c : Nat} (hA : AreAt w a B u h c) (n : Int) (hn0 : 0 ≤ n) (hn : (B : Int) - u < n) (hB : B ≤ 4194304) (hu : u ≤ B) : Calls Tryz.prog 17 #[.pointer (some ⟨a, 0, none⟩), .int .i64 n] w fun e w' => e = .returned (.tuple #[.pointer none, .int .i64 4]) ∧ ∃ q, w' = w.drewN q := by
  obtain ⟨x0, x1, x2, x3, f0, f1, f2, f3⟩ := hA.at_
  clear hA
  obtain ⟨r, hr⟩ : ∃ r : Nat, (B : Int) - u = r := ⟨B - u, by omega⟩
  have d1 : decide (n < 0) = false := by simp; omega
  have d2 : decide ((r : Int) < n) = true := by simp; omega
  have hw : IntKind.i64.wrap ((B : Int) - u) = (r : Int) := by rw [IntKind.wrap_i64]; omega
  go_enter Tryz.func17, Tryz.ntmps17
  go_wp2
  go_quiet (fail)
  go_wp2
  go_ret2
  exact ⟨rfl, _, rfl⟩

set_option maxHeartbeats 1600000 in
theorem ares_any {w : World} {a B u h c : Nat} (hA : AreAt w a B u h c) (n : Nat) (hn : u + n ≤ B) (hB : B ≤ 4194304) (hc : c ≤ 4194304) : Calls Tryz.prog 17 #[.pointer (some ⟨a, 0, none⟩), .int .i64 (n : Int)] w fun e w' => (∃ p g, e = .returned (.tuple #[.pointer (some ⟨p, 0, none⟩), .int .i64 0]) ∧ LiveAt w' p a g (List.replicate n zb) ∧ w.heap.size ≤ p ∧ w.heap.size ≤ g) ∧ AreAt w' a B (u + n) (max h (u + n)) (c + 1) ∧ Kept (fun k => k = a) w w' := by
  obtain ⟨x0, x1, x2, x3, f0, f1, f2, f3⟩ := hA.at_
  have HA := Lib.hid fun q => ((AreAt.setU (w := w.drewN q) hA (u + n)).setC (c + 1))
  clear hA
  obtain ⟨r, hr⟩ : ∃ r : Nat, (B : Int) - u = r := ⟨B - u, by omega⟩
  have d1 : decide ((n : Int) < 0) = false := by simp
  have d2 : decide ((r : Int) < (n : Int)) = false := by simp; omega
  have d3 : decide (r < n) = false := by simp; omega
  have hw : IntKind.i64.wrap ((B : Int) - u) = (r : Int) := by rw [IntKind.wrap_i64]; omega
  have hm : max (h : Int) ((u : Int) + (n : Int)) = ((max h (u + n) : Nat) : Int) := by omega
  have hmk := make_blocks n (by omega)
  have hln : (List.replicate n zb).length = n := List.length_replicate ..
  generalize max h (u + n) = m at *
  go_enter Tryz.func17, Tryz.ntmps17
  go_wp2
  go_quiet (fail)
  go_wp2
  obtain ⟨w1, e1⟩ : ∃ w1, w1 = ((w.drewN nq).setCell ⟨a, 1, none⟩ (.int .i64 ((u : Int) + n))).setCell ⟨a, 3, none⟩ (.int .i64 ((c : Int) + 1)) := ⟨_, rfl⟩
  have hK : Kept (fun k => k = a) w w1 := by
    rw [e1]
    have h0 : Kept (fun k => k = a) w (w.drewN nq) := ⟨rfl, rfl, rfl, Nat.le_refl _, fun _ _ _ => rfl⟩
    exact (h0.set (p := ⟨a, 1, none⟩) (.inl rfl) _).set (p := ⟨a, 3, none⟩) (.inl rfl) _
  have hA1 : AreAt w1 a B (u + n) h (c + 1) := by
    have := HA.out nq
    rw [show ((u + n : Nat) : Int) = (u : Int) + n by omega, show ((c + 1 : Nat) : Int) = (c : Int) + 1 by omega] at this
    rw [e1]
    exact this
  rw [← e1]
  clear e1 HA x0 x1 x2 x3 f0 f1 f2 f3
  obtain ⟨y0, y1, y2, y3, f0, f1, f2, f3⟩ := hA1.at_
  have HA := Lib.hid (AreAt.setH (w := w1.drew) hA1 m)
  have HK := Lib.hid hK
  clear hK hA1
  rw [show ((u + n : Nat) : Int) = (u : Int) + n by omega] at y1
  clear y0 y3 f0 f1 f3
  go_region
  go_wp2
  go_ret2
  have hs := HK.out.size
  have HZ := zeros_ok n
  generalize List.replicate n zb = l at *
  obtain rfl := hln
  generalize hw2 : w1.setCell _ _ = w2
  have hA2 : AreAt w2 a B (u + l.length) m (c + 1) := by rw [← hw2]; exact HA.out
  have hs2 : w2.heap.size = w1.heap.size := by rw [← hw2]; simp [World.setCell]
  have hK2 : Kept (fun k => k = a) w w2 := by rw [← hw2]; exact HK.out.set (p := ⟨a, 2, none⟩) (.inl rfl) _
  have R1 := RowAt.new w2 169 (bcs l).toArray
  have R2 := RowAt.new (w2.alloc (.cells (bcs l).toArray 169)) 72 (pcs a l.length true (.slice (some ⟨w2.heap.size, 0, none⟩) l.length l.length))
  rw [World.size_alloc] at R2
  rw [← hs2]
  exact ⟨⟨_, w2.heap.size, rfl, ⟨R2, R1.alloc _, HZ⟩, by omega, by omega⟩, (RowAt.alloc hA2 _).alloc _, ((hK2.alloc _).alloc _).drew⟩
end Go.Proofs.YtlifpplhinmajaaGreatDoor

namespace Go.Proofs.YtlifpplhinmajaaGreatDoor
set_option maxRecDepth 50000
open Go.RowKit Bb

theorem ar_type : ∃ j, Tryz.prog.info? 52 = some j ∧ j.size = 4 := by
  have h := ars_size
  cases hq : Tryz.prog.info? 52 with
  | none => rw [hq] at h; cases h
  | some i => rw [hq] at h; exact ⟨i, rfl, by simpa using h⟩
theorem neq_same (a : Nat) (w : World) : (binOp .neq 29 (.pointer (some ⟨a, 0, none⟩)) (.pointer (some ⟨a, 0, none⟩))).run Tryz.prog w = .ok (.bool false) w := by
  obtain ⟨j, hj, hs⟩ := ar_type
  have h : ∀ d : Nat, (Op.equalIn (d + 1) 29 (.pointer (some ⟨a, 0, none⟩)) (.pointer (some ⟨a, 0, none⟩))).run Tryz.prog w = .ok true w := fun d => by
    simp [Op.equalIn, run_underlying Tryz.underlying29, sizeOf, typeInfo, hj, run_sameAddr_same]
  simp only [binOp]
  simp [Op.equal, Op.maxDepth, h 9999]
theorem neq_other {w : World} {a a' B B' u u' h h' c c' : Nat} (hA : AreAt w a B u h c) (hA' : AreAt w a' B' u' h' c') (hne : a' ≠ a) : (binOp .neq 29 (.pointer (some ⟨a', 0, none⟩)) (.pointer (some ⟨a, 0, none⟩))).run Tryz.prog w = .ok (.bool true) w := by
  obtain ⟨j, hj, hs⟩ := ar_type
  have hn : (⟨a', 0, none⟩ : Addr) ≠ ⟨a, 0, none⟩ := fun e => hne (by injection e)
  have h : ∀ d : Nat, (Op.equalIn (d + 1) 29 (.pointer (some ⟨a', 0, none⟩)) (.pointer (some ⟨a, 0, none⟩))).run Tryz.prog w = .ok false w := fun d => by
    simp [Op.equalIn, run_underlying Tryz.underlying29, sizeOf, typeInfo, hj, hs, run_sameAddr_other w hn hA' hA]
  simp only [binOp]
  simp [Op.equal, Op.maxDepth, h 9999]

theorem arel_nil (p : Option Addr) (w : World) : Calls Tryz.prog 24 #[.pointer none, .pointer p] w fun e w' => e = .returned (.int .i64 11) ∧ w' = w := by
  go_enter Tryz.func24, Tryz.ntmps24
  go_wp2
  go_ret
  exact ⟨rfl, rfl⟩
theorem arel_none (a : Addr) (w : World) : Calls Tryz.prog 24 #[.pointer (some a), .pointer none] w fun e w' => e = .returned (.int .i64 11) ∧ w' = w := by
  go_enter Tryz.func24, Tryz.ntmps24
  go_wp2
  go_ret
  exact ⟨rfl, rfl⟩
theorem arel_other {w : World} {a a' p n : Nat} {live : Bool} {v : Value} {B B' u u' h h' c c' : Nat} (hP : PceAt w p a' n live v) (hA : AreAt w a B u h c) (hA' : AreAt w a' B' u' h' c') (ha : a' ≠ a) : Calls Tryz.prog 24 #[.pointer (some ⟨a, 0, none⟩), .pointer (some ⟨p, 0, none⟩)] w fun e w' => e = .returned (.int .i64 11) ∧ w' = w := by
  obtain ⟨x0, x1, x2, x3, f0, f1, f2, f3⟩ := hP.at_
  have hN := neq_other hA hA' ha
  clear hP hA hA'
  go_enter Tryz.func24, Tryz.ntmps24
  go_wp2
  go_ret
  exact ⟨rfl, rfl⟩
theorem arel_off {w : World} {a p n : Nat} {v : Value} (hP : PceAt w p a n false v) : Calls Tryz.prog 24 #[.pointer (some ⟨a, 0, none⟩), .pointer (some ⟨p, 0, none⟩)] w fun e w' => e = .returned (.int .i64 12) ∧ w' = w := by
  obtain ⟨x0, x1, x2, x3, f0, f1, f2, f3⟩ := hP.at_
  have hN := neq_same a
  clear hP
  go_enter Tryz.func24, Tryz.ntmps24
  go_wp2
  go_ret
  exact ⟨rfl, rfl⟩

set_option maxHeartbeats 1600000 in
theorem arel_any {w : World} {a B u h c p g : Nat} {l : List (List Nat)} (hA : AreAt w a B u h c) (hP : LiveAt w p a g l) (hn : l.length ≤ u) (hu : u ≤ 4194304) (hc1 : 1 ≤ c) (hc : c ≤ 4194304) :
    Calls Tryz.prog 24 #[.pointer (some ⟨a, 0, none⟩), .pointer (some ⟨p, 0, none⟩)] w fun e w' => e = .returned (.int .i64 0) ∧ OffAt w' p a l.length ∧ AreAt w' a B (u - l.length) h (c - 1) ∧ Kept (fun k => k = a ∨ k = p ∨ k = g) w w' := by
  obtain ⟨x0, x1, x2, x3, f0, f1, f2, f3⟩ := hP.row.at_
  have hpa : p ≠ a := RowAt.unlike hP.row hA (by rfl)
  have hpg : p ≠ g := RowAt.unlike hP.row hP.blk (by rfl)
  have hag : a ≠ g := RowAt.unlike hA hP.blk (by rfl)
  obtain ⟨w1, hcl, hB1, hK1, hs1⟩ : ∃ w1, (∀ ty, (Builtin.clear_ #[70] ty #[.slice (some ⟨g, 0, none⟩) l.length l.length]).run Tryz.prog w = .ok (.tuple #[]) w1) ∧ BlkAt w1 g (List.replicate l.length zb) ∧ Kept (fun k => k = g) w w1 ∧ w1.heap.size = w.heap.size := by
    obtain ⟨w1, h1, h2, h3, h4⟩ := clear_blocks hP.blk hP.ok 0
    exact ⟨w1, fun ty => by rw [← h1]; rfl, h2, h3, h4⟩
  have hP1 : PceAt w1 p a l.length true (.slice (some ⟨g, 0, none⟩) l.length l.length) := RowAt.kept hP.row hK1 hpg
  have hA1 : AreAt w1 a B u h c := RowAt.kept hA hK1 hag
  clear hA hP hB1
  obtain ⟨y0, y1, y2, y3, e0, e1, e2, e3⟩ := hP1.at_
  obtain ⟨z0, z1, z2, z3, b0, b1, b2, b3⟩ := hA1.at_
  obtain ⟨r, hr⟩ : ∃ r : Nat, (u : Int) - (l.length : Int) = r := ⟨u - l.length, by omega⟩
  obtain ⟨s, hs⟩ : ∃ s : Nat, (c : Int) - 1 = s := ⟨c - 1, by omega⟩
  have hw : IntKind.i64.wrap ((u : Int) - (l.length : Int)) = (r : Int) := by rw [IntKind.wrap_i64]; omega
  have hN := neq_same a
  have hw2 : IntKind.i64.wrap ((c : Int) - 1) = (s : Int) := by rw [IntKind.wrap_i64]; omega
  have HP := Lib.hid hP1
  have HA := Lib.hid hA1
  have HK := Lib.hid hK1
  have er : u - l.length = r := by omega
  have es : c - 1 = s := by omega
  rw [er, es]
  clear hP1 hA1 hK1 er es
  go_enter Tryz.func24, Tryz.ntmps24
  go_wp2
  generalize hw2 : World.setCell (World.setCell w1 _ _) _ _ = w2
  have hP2 : OffAt w2 p a l.length := by rw [← hw2]; exact (HP.out.setCell 2 _).setCell 3 _
  have hA2 : AreAt w2 a B u h c := by rw [← hw2]; exact (RowAt.setOther HA.out ⟨p, 2, none⟩ hpa _).setOther ⟨p, 3, none⟩ hpa _
  have hK2 : Kept (fun k => k = a ∨ k = p ∨ k = g) w w2 := by
    rw [← hw2]
    exact ((HK.out.mono fun _ _ e => .inr (.inr e)).set (p := ⟨p, 2, none⟩) (.inl (.inr (.inl rfl))) _).set (p := ⟨p, 3, none⟩) (.inl (.inr (.inl rfl))) _
  clear hw2 HP HA HK x0 x1 x2 x3 f0 f1 f2 f3 y0 y1 y2 y3 e0 e1 e2 e3 z0 z1 z2 z3 b0 b1 b2 b3 hcl hs1 hN
  obtain ⟨x0, x1, x2, x3, f0, f1, f2, f3⟩ := PceAt.at_ hP2
  obtain ⟨z0, z1, z2, z3, b0, b1, b2, b3⟩ := hA2.at_
  have HA := Lib.hid ((AreAt.setU (w := w2.drew) hA2 r).setC s)
  have HP := Lib.hid ((RowAt.setOther (RowAt.drew hP2) ⟨a, 1, none⟩ (Ne.symm hpa) (.int .i64 (r : Int))).setOther ⟨a, 3, none⟩ (Ne.symm hpa) (.int .i64 (s : Int)))
  have HK := Lib.hid ((hK2.drew.set (p := ⟨a, 1, none⟩) (.inl (.inl rfl)) (.int .i64 (r : Int))).set (p := ⟨a, 3, none⟩) (.inl (.inl rfl)) (.int .i64 (s : Int)))
  clear hA2 hP2 hK2
  go_region
  go_wp2
  go_ret
  exact ⟨rfl, HP.out, HA.out, HK.out⟩
end Go.Proofs.YtlifpplhinmajaaGreatDoor

namespace Go.Proofs.YtlifpplhinmajaaGreatDoor
set_option maxRecDepth 50000
open Go.RowKit Bb

section
variable {w : World} {p a g n : Nat} {live : Bool} {v : Value} {l : List (List Nat)}
theorem fault_nil (i : Int) (w : World) : Calls Tryz.prog 112 #[.pointer none, .int .i64 i] w fun e w' => e = .returned (.int .i64 11) ∧ w' = w := by
  go_enter Tryz.func112, Tryz.ntmps112
  go_wp2
  go_ret
  exact ⟨rfl, rfl⟩
theorem fault_out (hP : PceAt w p a n live v) (i : Int) (hi : i < 0 ∨ (n : Int) ≤ i) : Calls Tryz.prog 112 #[.pointer (some ⟨p, 0, none⟩), .int .i64 i] w fun e w' => e = .returned (.int .i64 11) ∧ w' = w := by
  obtain ⟨x0, x1, x2, x3, f0, f1, f2, f3⟩ := hP.at_
  clear hP
  have hh : decide (i < 0) = true ∨ decide (i < 0) = false ∧ decide ((n : Int) ≤ i) = true := by simp; omega
  rcases hh with d1 | ⟨d1, d2⟩
  all_goals
    go_enter Tryz.func112, Tryz.ntmps112
    go_wp2
    go_ret
    exact ⟨rfl, rfl⟩
theorem fault_in (hP : PceAt w p a n live v) (i : Nat) (hi : i < n) : Calls Tryz.prog 112 #[.pointer (some ⟨p, 0, none⟩), .int .i64 (i : Int)] w fun e w' => e = .returned (.int .i64 (if live then 0 else 12)) ∧ w' = w := by
  obtain ⟨x0, x1, x2, x3, f0, f1, f2, f3⟩ := hP.at_
  clear hP
  have d1 : decide ((i : Int) < 0) = false := by simp
  have d2 : decide ((n : Int) ≤ (i : Int)) = false := by simp; omega
  have d3 : decide (n ≤ i) = false := by simp; omega
  cases live
  all_goals
    go_enter Tryz.func112, Tryz.ntmps112
    go_wp2
    go_ret
    exact ⟨rfl, rfl⟩

/-- what is at fault, as a number; 0: nothing -/
def faN (n : Nat) (live : Bool) (i : Int) : Int := if i < 0 ∨ (n : Int) ≤ i then 11 else if live then 0 else 12
theorem fault_any (hP : PceAt w p a n live v) (i : Int) : Calls Tryz.prog 112 #[.pointer (some ⟨p, 0, none⟩), .int .i64 i] w fun e w' => e = .returned (.int .i64 (faN n live i)) ∧ w' = w := by
  by_cases h : i < 0 ∨ (n : Int) ≤ i
  · rw [show faN n live i = 11 from if_pos h]; exact fault_out hP i h
  · rw [show faN n live i = if live then 0 else 12 from if_neg h]
    obtain ⟨k, rfl⟩ := Int.eq_ofNat_of_zero_le (show 0 ≤ i by omega)
    exact fault_in hP k (by omega)
theorem fa_ok {i : Nat} (hi : i < n) : faN n true (i : Int) = 0 := by
  unfold faN; rw [if_neg (by omega)]; rfl

theorem at_nil (i : Int) (w : World) : Calls Tryz.prog 92 #[.pointer none, .int .i64 i] w fun e w' => e = .returned (.pointer none) ∧ w' = w := by
  have C := Lib.hid (fault_nil i w)
  go_enter Tryz.func92, Tryz.ntmps92
  go_wp2_with fail
  refine C.out.mono ?_; rintro e w' ⟨rfl, rfl⟩
  go_wp2
  go_ret
  exact ⟨rfl, rfl⟩
theorem at_bad (hP : PceAt w p a n live v) (i : Int) (hi : faN n live i ≠ 0) : Calls Tryz.prog 92 #[.pointer (some ⟨p, 0, none⟩), .int .i64 i] w fun e w' => e = .returned (.pointer none) ∧ w' = w := by
  have C := Lib.hid (fault_any hP i)
  clear hP
  generalize faN n live i = z at *
  have d1 : (z != 0) = true := by simpa using hi
  have d2 : (z == 0) = false := by simpa using hi
  clear hi
  go_enter Tryz.func92, Tryz.ntmps92
  go_wp2_with fail
  refine C.out.mono ?_; rintro e w' ⟨rfl, rfl⟩
  go_wp2
  go_ret
  exact ⟨rfl, rfl⟩
theorem at_any (hP : LiveAt w p a g l) (i : Nat) (hi : i < l.length) : Calls Tryz.prog 92 #[.pointer (some ⟨p, 0, none⟩), .int .i64 (i : Int)] w fun e w' => e = .returned (.pointer (some ⟨g, i * 128, none⟩)) ∧ w' = w := by
  have C := Lib.hid (fault_any hP.row i)
  rw [fa_ok hi] at C
  obtain ⟨x0, x1, x2, x3, f0, f1, f2, f3⟩ := hP.row.at_
  clear hP
  have hi0 : (0 : Int) ≤ (i : Int) := by omega
  have hi1 : (i : Int) < (l.length : Int) := by omega
  go_enter Tryz.func92, Tryz.ntmps92
  go_wp2_with fail
  refine C.out.mono ?_; rintro e w' ⟨rfl, rfl⟩
  go_wp2
  go_ret
  exact ⟨by first | rfl | simp, rfl⟩
end
end Go.Proofs.YtlifpplhinmajaaGreatDoor
