/- An arena and a piece in memory; New, Budget, Used, High, Lent, Mark, Len by their contracts. Conditions: those typed. Reserve and Release of an arena, by their contracts. Conditions: those typed. Release of an arena by its contracts. Conditions: those typed. A piece's blocks: what is at fault, At, Get, Set, Clean, by their contracts. Conditions: those typed. Get and Set of a piece by their contracts. Conditions: those typed. -/
import Derived.Test.YtpampgkhjcfeaaaDoorBb
import Derived.Laws.CopyRow
import Derived.Laws.MakeOwn
import Derived.OwnWalk
import Derived.Lib.MinMax
import Derived.LaidEqlPtr
import Derived.Deep.MidRow
import Derived.StillTailTactics
namespace Go.Proofs.YtpampgkhjcfeaaaDoor
set_option maxRecDepth 50000
open Go.RowKit Bb

/-- an arena at block a: its budget, what is used, the most, how many pieces -/
def ars (B u h c : Nat) : Array Value := #[.int .i64 (B : Int), .int .i64 (u : Int), .int .i64 (h : Int), .int .i64 (c : Int)]
def AreAt (w : World) (a B u h c : Nat) : Prop := RowAt w a 91 (ars B u h c)
/-- a piece at block p -/
def pcs (a n : Nat) (live : Bool) (v : Value) : Array Value := #[.pointer (some ⟨a, 0, none⟩), .int .i64 (n : Int), .bool live, v]
def PceAt (w : World) (p a n : Nat) (live : Bool) (v : Value) : Prop := RowAt w p 93 (pcs a n live v)
/-- blocks at block g -/
def BlkAt (w : World) (g : Nat) (l : List (List Nat)) : Prop := RowAt w g 29 (bcs l).toArray
/-- a live piece and its blocks -/
structure LiveAt (w : World) (p a g : Nat) (l : List (List Nat)) : Prop where
  row : PceAt w p a l.length true (.slice (some ⟨g, 0, none⟩) l.length l.length)
  blk : BlkAt w g l
  ok : ∀ b ∈ l, okb b
def OffAt (w : World) (p a n : Nat) : Prop := PceAt w p a n false (.slice none 0 0)

section
variable {w w' : World} {a p g n B u h c : Nat} {live : Bool} {v : Value} {l : List (List Nat)} {M : Nat → Prop}
theorem RowAt.kept {t : TypeId} {C : Array Value} {b : Nat} (h : RowAt w b t C) (hk : Kept M w w') (hM : ¬ M b) : RowAt w' b t C := (hk.block b h.lt hM).trans h
theorem RowAt.unlike {t t' : TypeId} {C C' : Array Value} {b b' : Nat} (h : RowAt w b t C) (k : RowAt w b' t' C') (ht : (t == t') = false) : b ≠ b' := fun e => by
  subst e
  unfold RowAt at h k
  rw [h] at k
  simp only [Option.some.injEq, Obj.cells.injEq] at k
  rw [k.2.1] at ht
  simp at ht
theorem AreAt.at_ (h' : AreAt w a B u h c) : w.cell? ⟨a, 0, none⟩ = some (.int .i64 (B : Int)) ∧ w.cell? ⟨a, 1, none⟩ = some (.int .i64 (u : Int)) ∧ w.cell? ⟨a, 2, none⟩ = some (.int .i64 (h : Int)) ∧ w.cell? ⟨a, 3, none⟩ = some (.int .i64 (c : Int)) ∧
    w.frozen? ⟨a, 0, none⟩ = false ∧ w.frozen? ⟨a, 1, none⟩ = false ∧ w.frozen? ⟨a, 2, none⟩ = false ∧ w.frozen? ⟨a, 3, none⟩ = false :=
  ⟨by rw [RowAt.cell h' 0]; rfl, by rw [RowAt.cell h' 1]; rfl, by rw [RowAt.cell h' 2]; rfl, by rw [RowAt.cell h' 3]; rfl, RowAt.frozen h' 0, RowAt.frozen h' 1, RowAt.frozen h' 2, RowAt.frozen h' 3⟩
theorem PceAt.at_ (h' : PceAt w p a n live v) : w.cell? ⟨p, 0, none⟩ = some (.pointer (some ⟨a, 0, none⟩)) ∧ w.cell? ⟨p, 1, none⟩ = some (.int .i64 (n : Int)) ∧ w.cell? ⟨p, 2, none⟩ = some (.bool live) ∧ w.cell? ⟨p, 3, none⟩ = some v ∧
    w.frozen? ⟨p, 0, none⟩ = false ∧ w.frozen? ⟨p, 1, none⟩ = false ∧ w.frozen? ⟨p, 2, none⟩ = false ∧ w.frozen? ⟨p, 3, none⟩ = false :=
  ⟨by rw [RowAt.cell h' 0]; rfl, by rw [RowAt.cell h' 1]; rfl, by rw [RowAt.cell h' 2]; rfl, by rw [RowAt.cell h' 3]; rfl, RowAt.frozen h' 0, RowAt.frozen h' 1, RowAt.frozen h' 2, RowAt.frozen h' 3⟩
theorem AreAt.setU (h' : AreAt w a B u h c) (u' : Nat) : AreAt (w.setCell ⟨a, 1, none⟩ (.int .i64 (u' : Int))) a B u' h c := RowAt.setCell h' 1 _
theorem AreAt.setH (h' : AreAt w a B u h c) (x : Nat) : AreAt (w.setCell ⟨a, 2, none⟩ (.int .i64 (x : Int))) a B u x c := RowAt.setCell h' 2 _
theorem AreAt.setC (h' : AreAt w a B u h c) (x : Nat) : AreAt (w.setCell ⟨a, 3, none⟩ (.int .i64 (x : Int))) a B u h x := RowAt.setCell h' 3 _
theorem BlkAt.reads (h' : BlkAt w g l) : Reads w w.heap.size (some ⟨g, 0, none⟩) (bcs l) := fun k hk => by
  refine ⟨g, 0, rfl, RowAt.lt h', ?_⟩
  rw [Nat.zero_add, RowAt.cell h' k, List.getElem?_toArray, List.getElem?_eq_getElem hk]
end

theorem anew_bad (n : Int) (h : n < 0 ∨ 4194304 < n) (w : World) : Calls Tryd.prog 19 #[.int .i64 n] w fun e w' => e = .returned (.tuple #[.pointer none, .int .i64 1]) ∧ w' = w := by
  have hh : decide (n < 0) = true ∨ decide (n < 0) = false ∧ decide (4194304 < n) = true := by simp; omega
  rcases hh with d1 | ⟨d1, d2⟩
  all_goals
    go_enter Tryd.func19, Tryd.ntmps19
    go_wp2
    go_ret2
    exact ⟨rfl, rfl⟩
theorem anew_any (n : Nat) (h : n ≤ 4194304) (w : World) : Calls Tryd.prog 19 #[.int .i64 (n : Int)] w fun e w' => e = .returned (.tuple #[.pointer (some ⟨w.heap.size, 0, none⟩), .int .i64 0]) ∧ AreAt w' w.heap.size n 0 0 0 ∧ Below w.heap.size w w' := by
  have d1 : decide ((n : Int) < 0) = false := by simp
  have d2 : decide ((4194304 : Int) < (n : Int)) = false := by simp; omega
  have d3 : decide (4194304 < n) = false := by simp; omega
  go_enter Tryd.func19, Tryd.ntmps19
  go_wp2
  go_ret2
  exact ⟨rfl, RowAt.new _ _ _, (Below.refl _ _).alloc (Nat.le_refl _) _⟩

/-- the numbers of an arena, of none too -/
theorem ars_size : (Tryd.prog.info? 91).map (·.size) = some 4 := by kernel_rfl
theorem field_int (w : World) (B u h c : Nat) : (Instr.field 91 (.agg (ars B u h c)) 0).run Tryd.prog w = .ok (.int .i64 (B : Int)) w ∧ (Instr.field 91 (.agg (ars B u h c)) 1).run Tryd.prog w = .ok (.int .i64 (u : Int)) w ∧
    (Instr.field 91 (.agg (ars B u h c)) 2).run Tryd.prog w = .ok (.int .i64 (h : Int)) w ∧ (Instr.field 91 (.agg (ars B u h c)) 3).run Tryd.prog w = .ok (.int .i64 (c : Int)) w := by
  refine ⟨?_, ?_, ?_, ?_⟩ <;> simp [Instr.field, run_underlying Tryd.underlying91, asAgg, part, isAgg, run_underlying Tryd.underlying3, ars]
theorem len_nil (w : World) : Calls Tryd.prog 39 #[.pointer none] w fun e w' => e = .returned (.int .i64 0) ∧ w' = w := by
  go_enter Tryd.func39, Tryd.ntmps39
  go_wp2
  go_ret
  exact ⟨rfl, rfl⟩
theorem len_any {w : World} {p a n : Nat} {live : Bool} {v : Value} (h : PceAt w p a n live v) : Calls Tryd.prog 39 #[.pointer (some ⟨p, 0, none⟩)] w fun e w' => e = .returned (.int .i64 (n : Int)) ∧ w' = w := by
  obtain ⟨x0, x1, x2, x3, f0, f1, f2, f3⟩ := h.at_
  clear h
  go_enter Tryd.func39, Tryd.ntmps39
  go_wp2
  go_ret
  exact ⟨rfl, rfl⟩
end Go.Proofs.YtpampgkhjcfeaaaDoor

namespace Go.Proofs.YtpampgkhjcfeaaaDoor
set_option maxRecDepth 50000
open Go.RowKit Bb

theorem zb_cells' : u64s zb = List.replicate 128 (.int .u64 0) := by unfold u64s zb; rw [List.map_replicate]; rfl
theorem bcs_zeros : ∀ n : Nat, bcs (List.replicate n zb) = List.replicate (n * 128) (.int .u64 0)
  | 0 => rfl
  | n + 1 => by
    rw [List.replicate_succ, show bcs (zb :: List.replicate n zb) = u64s zb ++ bcs (List.replicate n zb) by simp [bcs], bcs_zeros n,
      zb_cells', List.replicate_append_replicate]
    congr 1
    omega
theorem zeros_ok (n : Nat) : ∀ b ∈ List.replicate n zb, okb b := fun b hb => by rw [List.eq_of_mem_replicate hb]; exact zb_ok
theorem made_b (n : Nat) : madeCells (wq zb) (n * 128) = (bcs (List.replicate n zb)).toArray := by
  rw [bcs_zeros]
  apply Array.ext
  · simp [size_madeCells]
  · intro i h1 h2
    simp only [madeCells, Array.getElem_map, Array.getElem_range, wq_size, List.getElem_toArray, List.getElem_replicate]
    rw [show zb.length = 128 by simp [zb], getElem!_pos (wq zb) (i % 128) (by rw [wq_size]; simp [zb]; omega)]
    simp only [wq, zb_cells', List.getElem_toArray, List.getElem_replicate]
theorem make_blocks (n : Nat) (hn : n ≤ 4194304) (w : World) : (Instr.makeSlice 52 (.int .i64 (n : Int)) (.int .i64 (n : Int))).run Tryd.prog w = .ok (.slice (some ⟨w.heap.size, 0, none⟩) n n) (w.alloc (.cells (bcs (List.replicate n zb)).toArray 29)) := by
  obtain ⟨i, hi, hz, hs, hb⟩ := b_parts
  have := run_make (P := Tryd.prog) w 52 29 i _ Tryd.underlying52 hi hz .i64 .i64 (n : Int) (n : Int) (by omega) (Int.le_refl _) (by rw [hb]; omega) (by omega)
  rw [this, hs, Int.toNat_natCast, ← made_b]
  rfl
theorem ares_nil (n : Int) (w : World) : Calls Tryd.prog 20 #[.pointer none, .int .i64 n] w fun e w' => e = .returned (.tuple #[.pointer none, .int .i64 11]) ∧ w' = w := by
  go_enter Tryd.func20, Tryd.ntmps20
  go_wp2
  go_ret2
  exact ⟨rfl, rfl⟩
theorem ares_neg (a : Addr) (n : Int) (hn : n < 0) (w : World) : Calls Tryd.prog 20 #[.pointer (some a), .int .i64 n] w fun e w' => e = .returned (.tuple #[.pointer none, .int .i64 1]) ∧ w' = w := by
  have d1 : decide (n < 0) = true := by simp; omega
  go_enter Tryd.func20, Tryd.ntmps20
  go_wp2
  go_ret2
  exact ⟨rfl, rfl⟩
set_option maxHeartbeats 800000 in
theorem ares_full {w : World} {a B u h c : Nat} (hA : AreAt w a B u h c) (n : Int) (hn0 : 0 ≤ n) (hn : (B : Int) - u < n) (hB : B ≤ 4194304) (hu : u ≤ B) : Calls Tryd.prog 20 #[.pointer (some ⟨a, 0, none⟩), .int .i64 n] w fun e w' => e = .returned (.tuple #[.pointer none, .int .i64 4]) ∧ ∃ q, w' = w.drewN q := by
  obtain ⟨x0, x1, x2, x3, f0, f1, f2, f3⟩ := hA.at_
  clear hA
  obtain ⟨r, hr⟩ : ∃ r : Nat, (B : Int) - u = r := ⟨B - u, by omega⟩
  have d1 : decide (n < 0) = false := by simp; omega
  have d2 : decide ((r : Int) < n) = true := by simp; omega
  have hw : IntKind.i64.wrap ((B : Int) - u) = (r : Int) := by rw [IntKind.wrap_i64]; omega
  go_enter Tryd.func20, Tryd.ntmps20
  go_wp2
  go_quiet (fail)
  go_wp2
  go_ret2
  exact ⟨rfl, _, rfl⟩

set_option maxHeartbeats 1600000 in
theorem ares_any {w : World} {a B u h c : Nat} (hA : AreAt w a B u h c) (n : Nat) (hn : u + n ≤ B) (hB : B ≤ 4194304) (hc : c ≤ 4194304) : Calls Tryd.prog 20 #[.pointer (some ⟨a, 0, none⟩), .int .i64 (n : Int)] w fun e w' => (∃ p g, e = .returned (.tuple #[.pointer (some ⟨p, 0, none⟩), .int .i64 0]) ∧ LiveAt w' p a g (List.replicate n zb) ∧ w.heap.size ≤ p ∧ w.heap.size ≤ g) ∧ AreAt w' a B (u + n) (max h (u + n)) (c + 1) ∧ Kept (fun k => k = a) w w' := by
  obtain ⟨x0, x1, x2, x3, f0, f1, f2, f3⟩ := hA.at_
  have HA := Lib.hid fun q => ((AreAt.setU (w := w.drewN q) hA (u + n)).setC (c + 1))
  clear hA
  obtain ⟨r, hr⟩ : ∃ r : Nat, (B : Int) - u = r := ⟨B - u, by omega⟩
  have d1 : decide ((n : Int) < 0) = false := by simp
  have d2 : decide ((r : Int) < (n : Int)) = false := by simp; omega
  have d3 : decide (r < n) = false := by simp; omega
  have hw : IntKind.i64.wrap ((B : Int) - u) = (r : Int) := by rw [IntKind.wrap_i64]; omega
  have hm : max (h : Int) ((u : Int) + (n : Int)) = ((max h (u + n) : Nat) : Int) := by omega
  have hmk := make_blocks n (by omega)
  have hln : (List.replicate n zb).length = n := List.length_replicate ..
  generalize max h (u + n) = m at *
  go_enter Tryd.func20, Tryd.ntmps20
  go_wp2
  go_quiet (fail)
  go_wp2
  obtain ⟨w1, e1⟩ : ∃ w1, w1 = ((w.drewN nq).setCell ⟨a, 1, none⟩ (.int .i64 ((u : Int) + n))).setCell ⟨a, 3, none⟩ (.int .i64 ((c : Int) + 1)) := ⟨_, rfl⟩
  have hK : Kept (fun k => k = a) w w1 := by
    rw [e1]
    have h0 : Kept (fun k => k = a) w (w.drewN nq) := ⟨rfl, rfl, rfl, Nat.le_refl _, fun _ _ _ => rfl⟩
    exact (h0.set (p := ⟨a, 1, none⟩) (.inl rfl) _).set (p := ⟨a, 3, none⟩) (.inl rfl) _
  have hA1 : AreAt w1 a B (u + n) h (c + 1) := by
    have := HA.out nq
    rw [show ((u + n : Nat) : Int) = (u : Int) + n by omega, show ((c + 1 : Nat) : Int) = (c : Int) + 1 by omega] at this
    rw [e1]
    exact this
  rw [← e1]
  clear e1 HA x0 x1 x2 x3 f0 f1 f2 f3
  obtain ⟨y0, y1, y2, y3, f0, f1, f2, f3⟩ := hA1.at_
  have HA := Lib.hid (AreAt.setH (w := w1.drew) hA1 m)
  have HK := Lib.hid hK
  clear hK hA1
  rw [show ((u + n : Nat) : Int) = (u : Int) + n by omega] at y1
  clear y0 y3 f0 f1 f3
  go_region
  go_wp2
  go_ret2
  have hs := HK.out.size
  have HZ := zeros_ok n
  generalize List.replicate n zb = l at *
  obtain rfl := hln
  generalize hw2 : w1.setCell _ _ = w2
  have hA2 : AreAt w2 a B (u + l.length) m (c + 1) := by rw [← hw2]; exact HA.out
  have hs2 : w2.heap.size = w1.heap.size := by rw [← hw2]; simp [World.setCell]
  have hK2 : Kept (fun k => k = a) w w2 := by rw [← hw2]; exact HK.out.set (p := ⟨a, 2, none⟩) (.inl rfl) _
  have R1 := RowAt.new w2 29 (bcs l).toArray
  have R2 := RowAt.new (w2.alloc (.cells (bcs l).toArray 29)) 93 (pcs a l.length true (.slice (some ⟨w2.heap.size, 0, none⟩) l.length l.length))
  rw [World.size_alloc] at R2
  rw [← hs2]
  exact ⟨⟨_, w2.heap.size, rfl, ⟨R2, R1.alloc _, HZ⟩, by omega, by omega⟩, (RowAt.alloc hA2 _).alloc _, ((hK2.alloc _).alloc _).drew⟩
end Go.Proofs.YtpampgkhjcfeaaaDoor

namespace Go.Proofs.YtpampgkhjcfeaaaDoor
set_option maxRecDepth 50000
open Go.RowKit Bb

theorem ar_type : ∃ j, Tryd.prog.info? 91 = some j ∧ j.size = 4 := by
  have h := ars_size
  cases hq : Tryd.prog.info? 91 with
  | none => rw [hq] at h; cases h
  | some i => rw [hq] at h; exact ⟨i, rfl, by simpa using h⟩
theorem neq_same (a : Nat) (w : World) : (binOp .neq 64 (.pointer (some ⟨a, 0, none⟩)) (.pointer (some ⟨a, 0, none⟩))).run Tryd.prog w = .ok (.bool false) w := by
  obtain ⟨j, hj, hs⟩ := ar_type
  have h : ∀ d : Nat, (Op.equalIn (d + 1) 64 (.pointer (some ⟨a, 0, none⟩)) (.pointer (some ⟨a, 0, none⟩))).run Tryd.prog w = .ok true w := fun d => by
    simp [Op.equalIn, run_underlying Tryd.underlying64, sizeOf, typeInfo, hj, run_sameAddr_same]
  simp only [binOp]
  simp [Op.equal, Op.maxDepth, h 9999]
theorem neq_other {w : World} {a a' B B' u u' h h' c c' : Nat} (hA : AreAt w a B u h c) (hA' : AreAt w a' B' u' h' c') (hne : a' ≠ a) : (binOp .neq 64 (.pointer (some ⟨a', 0, none⟩)) (.pointer (some ⟨a, 0, none⟩))).run Tryd.prog w = .ok (.bool true) w := by
  obtain ⟨j, hj, hs⟩ := ar_type
  have hn : (⟨a', 0, none⟩ : Addr) ≠ ⟨a, 0, none⟩ := fun e => hne (by injection e)
  have h : ∀ d : Nat, (Op.equalIn (d + 1) 64 (.pointer (some ⟨a', 0, none⟩)) (.pointer (some ⟨a, 0, none⟩))).run Tryd.prog w = .ok false w := fun d => by
    simp [Op.equalIn, run_underlying Tryd.underlying64, sizeOf, typeInfo, hj, hs, run_sameAddr_other w hn hA' hA]
  simp only [binOp]
  simp [Op.equal, Op.maxDepth, h 9999]

end Go.Proofs.YtpampgkhjcfeaaaDoor

namespace Go.Proofs.YtpampgkhjcfeaaaDoor
set_option maxRecDepth 50000
open Go.RowKit Bb

section
variable {w : World} {p a g n : Nat} {live : Bool} {v : Value} {l : List (List Nat)}
theorem fault_nil (i : Int) (w : World) : Calls Tryd.prog 41 #[.pointer none, .int .i64 i] w fun e w' => e = .returned (.int .i64 11) ∧ w' = w := by
  go_enter Tryd.func41, Tryd.ntmps41
  go_wp2
  go_ret
  exact ⟨rfl, rfl⟩
theorem fault_out (hP : PceAt w p a n live v) (i : Int) (hi : i < 0 ∨ (n : Int) ≤ i) : Calls Tryd.prog 41 #[.pointer (some ⟨p, 0, none⟩), .int .i64 i] w fun e w' => e = .returned (.int .i64 11) ∧ w' = w := by
  obtain ⟨x0, x1, x2, x3, f0, f1, f2, f3⟩ := hP.at_
  clear hP
  have hh : decide (i < 0) = true ∨ decide (i < 0) = false ∧ decide ((n : Int) ≤ i) = true := by simp; omega
  rcases hh with d1 | ⟨d1, d2⟩
  all_goals
    go_enter Tryd.func41, Tryd.ntmps41
    go_wp2
    go_ret
    exact ⟨rfl, rfl⟩
theorem fault_in (hP : PceAt w p a n live v) (i : Nat) (hi : i < n) : Calls Tryd.prog 41 #[.pointer (some ⟨p, 0, none⟩), .int .i64 (i : Int)] w fun e w' => e = .returned (.int .i64 (if live then 0 else 12)) ∧ w' = w := by
  obtain ⟨x0, x1, x2, x3, f0, f1, f2, f3⟩ := hP.at_
  clear hP
  have d1 : decide ((i : Int) < 0) = false := by simp
  have d2 : decide ((n : Int) ≤ (i : Int)) = false := by simp; omega
  have d3 : decide (n ≤ i) = false := by simp; omega
  cases live
  all_goals
    go_enter Tryd.func41, Tryd.ntmps41
    go_wp2
    go_ret
    exact ⟨rfl, rfl⟩

/-- what is at fault, as a number; 0: nothing -/
def faN (n : Nat) (live : Bool) (i : Int) : Int := if i < 0 ∨ (n : Int) ≤ i then 11 else if live then 0 else 12
theorem fault_any (hP : PceAt w p a n live v) (i : Int) : Calls Tryd.prog 41 #[.pointer (some ⟨p, 0, none⟩), .int .i64 i] w fun e w' => e = .returned (.int .i64 (faN n live i)) ∧ w' = w := by
  by_cases h : i < 0 ∨ (n : Int) ≤ i
  · rw [show faN n live i = 11 from if_pos h]; exact fault_out hP i h
  · rw [show faN n live i = if live then 0 else 12 from if_neg h]
    obtain ⟨k, rfl⟩ := Int.eq_ofNat_of_zero_le (show 0 ≤ i by omega)
    exact fault_in hP k (by omega)
theorem fa_ok {i : Nat} (hi : i < n) : faN n true (i : Int) = 0 := by
  unfold faN; rw [if_neg (by omega)]; rfl

end
end Go.Proofs.YtpampgkhjcfeaaaDoor

namespace Go.Proofs.YtpampgkhjcfeaaaDoor
set_option maxRecDepth 50000
open Go.RowKit Bb

theorem wpStill_load_b {P : Program} {ops : Array Oper} {w : World} {Q : Act → Prop} {a : Act} {o : Oper} {rest : List Oper} (hg : o.guard = none) (ty : TypeId) (x : Operand) (ho : o.op = .load ty x) (ad : Addr) (v : Value) (hx : a.eval x = .pointer (some ad))
    (hl : (loadVar ty ad).run P w = .ok v w) (h : wpStill P ops w Q rest (a.put o.dst v)) : wpStill P ops w Q (o :: rest) a := by
  refine wpStill_step fun K hK => ?_
  rw [if_pos (by simp [Region.wanted, hg])]
  unfold Oper.still execOp
  simp only [ho, hx, Instr.loadAt, Instr.sureAddr, Sem.run_bind, Sem.run_pure, Result.andThen_ok, hl]
  exact ⟨rfl, hK _ h⟩

theorem okl_take {l : List (List Nat)} (h : ∀ b ∈ l, okb b) (i : Nat) : ∀ b ∈ l.take i, okb b := fun b hb => h b (List.mem_of_mem_take hb)
theorem okl_set {l : List (List Nat)} (h : ∀ b ∈ l, okb b) (i : Nat) {x : List Nat} (hx : okb x) : ∀ b ∈ l.set i x, okb b := fun b hb => by
  rcases List.mem_or_eq_of_mem_set hb with hb | rfl
  · exact h b hb
  · exact hx
theorem bcs_set {l : List (List Nat)} (h : ∀ b ∈ l, okb b) (i : Nat) (hi : i < l.length) (x : List Nat) : (bcs l).take (i * 128) ++ u64s x ++ (bcs l).drop (i * 128 + 128) = bcs (l.set i x) := by
  have h1 : (bcs (l.take i)).length = i * 128 := by rw [bcs_length (okl_take h i), List.length_take]; congr 1; omega
  have h2 : (bcs (l.take (i + 1))).length = i * 128 + 128 := by rw [bcs_length (okl_take h (i + 1)), List.length_take]; rw [show min (i + 1) l.length = i + 1 by omega]; omega
  have e1 : bcs l = bcs (l.take i) ++ bcs (l.drop i) := by rw [← bcs_append, List.take_append_drop]
  have e2 : bcs l = bcs (l.take (i + 1)) ++ bcs (l.drop (i + 1)) := by rw [← bcs_append, List.take_append_drop]
  have t1 : (bcs l).take (i * 128) = bcs (l.take i) := by rw [e1, ← h1]; exact List.take_left
  have t2 : (bcs l).drop (i * 128 + 128) = bcs (l.drop (i + 1)) := by rw [e2, ← h2]; exact List.drop_left
  rw [t1, t2, List.set_eq_take_append_cons_drop, if_pos hi, bcs_append, show bcs (x :: l.drop (i + 1)) = u64s x ++ bcs (l.drop (i + 1)) by simp [bcs], List.append_assoc]

section
variable {w w' : World} {p a g n : Nat} {live : Bool} {v : Value} {l : List (List Nat)}
theorem BlkAt.at_ (h : BlkAt w g l) (ho : ∀ b ∈ l, okb b) (i : Nat) (hi : i < l.length) : ∀ k, k < 128 → w.cell? ⟨g, i * 128 + k, none⟩ = some (.int .u64 (((l.getD i []).getD k 0 : Nat) : Int)) := fun k hk => by
  rw [RowAt.cell h, List.getElem?_toArray, bcs_at ho i k hi hk]
theorem BlkAt.load (h : BlkAt w g l) (ho : ∀ b ∈ l, okb b) (i : Nat) (hi : i < l.length) : (loadVar 29 ⟨g, i * 128, none⟩).run Tryd.prog w = .ok (.agg (wq (l.getD i []))) w :=
  load_b (block_ok ho i hi).1 (h.at_ ho i hi)
theorem BlkAt.store (h : BlkAt w g l) (ho : ∀ b ∈ l, okb b) (i : Nat) (hi : i < l.length) {x : List Nat} (hx : okb x) : (storeVar 29 ⟨g, i * 128, none⟩ (.agg (wq x))).run Tryd.prog w = .ok () (w.setRow g (bcs (l.set i x)).toArray) := by
  have hst := run_storeCells_at Tryd.prog g (i * 128) 29 (u64s x) 0 (bcs l).toArray w h (by
    rw [List.size_toArray, bcs_length ho, u64s_length, hx.1]
    have : i * 128 + 128 ≤ l.length * 128 := by omega
    omega) (fun v hv => by
    obtain ⟨y, _, rfl⟩ := List.mem_map.1 hv
    rfl)
  rw [u64s_length, hx.1, Nat.add_zero] at hst
  rw [bcs_set ho i hi x] at hst
  have hz := b_size
  cases hq : Tryd.prog.info? 29 with
  | none => rw [hq] at hz; simp at hz
  | some j =>
    have hsz : j.size = 128 := by rw [hq] at hz; simpa using hz
    have hc : (Value.agg (wq x)).cells = wq x := rfl
    have hl : (wq x).toList = u64s x := rfl
    simp [storeVar, sizeOf, typeInfo, hq, hsz, hc, wq_size, hx.1, hl, hst]
theorem LiveAt.alloc (h : LiveAt w p a g l) (o : Obj) : LiveAt (w.alloc o) p a g l := ⟨RowAt.alloc h.row o, RowAt.alloc h.blk o, h.ok⟩
theorem LiveAt.drew (h : LiveAt w p a g l) : LiveAt w.drew p a g l := ⟨h.row, h.blk, h.ok⟩
theorem LiveAt.drewN (h : LiveAt w p a g l) (q : Nat) : LiveAt (w.drewN q) p a g l := ⟨h.row, h.blk, h.ok⟩
theorem LiveAt.set (h : LiveAt w p a g l) (i : Nat) {x : List Nat} (hx : okb x) : LiveAt (w.setRow g (bcs (l.set i x)).toArray) p a g (l.set i x) :=
  ⟨by rw [List.length_set]; exact RowAt.setRowOther h.row g (RowAt.unlike h.row h.blk (by rfl)).symm _, RowAt.setRow h.blk _, okl_set h.ok i hx⟩

set_option maxHeartbeats 1600000 in
theorem get_bad_way (z : Int) (hz0 : z ≠ 0) (P : Option Addr) (i : Int) (w : World) (C : Calls Tryd.prog 41 #[.pointer P, .int .i64 i] (w.alloc (.cells (wq zb) 29)) fun e w' => e = .returned (.int .i64 z) ∧ w' = w.alloc (.cells (wq zb) 29)) :
    Calls Tryd.prog 23 #[.pointer P, .int .i64 i] w fun e w' => e = .returned (.tuple #[.agg (wq zb), .int .i64 z]) ∧ Below w.heap.size w w' := by
  have hz := zero_b
  have C := Lib.hid C
  have d1 : (z != 0) = true := by simpa using hz0
  have d2 : (z == 0) = false := by simpa using hz0
  have HR := Lib.hid (RowAt.new w 29 (wq zb))
  clear hz0
  go_enter Tryd.func23, Tryd.ntmps23
  go_wp2_with fail
  refine C.out.mono ?_; rintro e w' ⟨rfl, rfl⟩
  go_wp2_with (first
    | refine wpList_value_want rfl _ (bbuild_run _ _ rfl) ?_
    | refine wpList_store_row rfl 29 (.tmp 4) (.tmp 12) rfl w.heap.size (wq zb) rfl rfl 29 _ HR.out b_size rfl (wq_one _) ?_)
  have hR := RowAt.setRow HR.out (wq zb)
  refine bodyPost_ret (results_row_tmp rfl _ (p := 4) rfl hR Tryd.underlying29 rfl b_size) rfl ⟨rfl, ?_⟩
  exact below_setRow ((Below.refl _ _).alloc (Nat.le_refl _) _) (Nat.le_refl _) _
theorem get_nil (i : Int) (w : World) : Calls Tryd.prog 23 #[.pointer none, .int .i64 i] w fun e w' => e = .returned (.tuple #[.agg (wq zb), .int .i64 11]) ∧ Below w.heap.size w w' :=
  get_bad_way 11 (by decide) none i w (fault_nil i _)
theorem get_bad (hP : PceAt w p a n live v) (i : Int) (hi : faN n live i ≠ 0) : Calls Tryd.prog 23 #[.pointer (some ⟨p, 0, none⟩), .int .i64 i] w fun e w' => e = .returned (.tuple #[.agg (wq zb), .int .i64 (faN n live i)]) ∧ Below w.heap.size w w' :=
  get_bad_way _ hi _ i w (fault_any (RowAt.alloc hP _) i)
set_option maxHeartbeats 1600000 in
theorem get_any (hP : LiveAt w p a g l) (i : Nat) (hi : i < l.length) : Calls Tryd.prog 23 #[.pointer (some ⟨p, 0, none⟩), .int .i64 (i : Int)] w fun e w' => e = .returned (.tuple #[.agg (wq (l.getD i [])), .int .i64 0]) ∧ Below w.heap.size w w' := by
  have hz := zero_b
  have hP1 := hP.alloc (.cells (wq zb) 29)
  have C := Lib.hid (fault_any hP1.row i)
  rw [fa_ok hi] at C
  have HR := Lib.hid (RowAt.new w 29 (wq zb))
  have HL := Lib.hid (hP1.blk.load hP1.ok i hi)
  have hx : okb (l.getD i []) := block_ok hP.ok i hi
  have HS : Hid ((wq (l.getD i [])).size = 128) := Lib.hid (by rw [wq_size]; exact hx.1)
  generalize l.getD i [] = x at *
  obtain ⟨x0, x1, x2, x3, f0, f1, f2, f3⟩ := hP1.row.at_
  have hi0 : (0 : Int) ≤ (i : Int) := by omega
  have hi1 : (i : Int) < (l.length : Int) := by omega
  clear hP hP1 hx
  go_enter Tryd.func23, Tryd.ntmps23
  go_wp2_with fail
  refine C.out.mono ?_; rintro e w' ⟨rfl, rfl⟩
  go_wp2_with (first
    | refine wpList_load_of rfl 29 (.tmp 19) rfl ⟨g, i * 128, none⟩ _ (by first | rfl | simp [Act.eval]) HL.out ?_
    | refine wpList_store_row rfl 29 (.tmp 4) (.tmp 20) rfl w.heap.size (wq x) rfl rfl 29 _ HR.out (by rw [HS.out]; exact b_size) (by rw [HS.out, wq_size]; exact zb_ok.1) (wq_one _) ?_)
  have hR := RowAt.setRow HR.out (wq x)
  refine bodyPost_ret (results_row_tmp rfl _ (p := 4) rfl hR Tryd.underlying29 rfl (by rw [HS.out]; exact b_size)) rfl ⟨rfl, ?_⟩
  exact below_setRow ((Below.refl _ _).alloc (Nat.le_refl _) _) (Nat.le_refl _) _

set_option maxHeartbeats 1600000 in
theorem set_bad_way (z : Int) (hz0 : z ≠ 0) (P : Option Addr) (i : Int) (x : List Nat) (w : World) (C : Calls Tryd.prog 41 #[.pointer P, .int .i64 i] (w.alloc (.cells (wq x) 29)) fun e w' => e = .returned (.int .i64 z) ∧ w' = w.alloc (.cells (wq x) 29)) :
    Calls Tryd.prog 28 #[.pointer P, .int .i64 i, .agg (wq x)] w fun e w' => e = .returned (.int .i64 z) ∧ Below w.heap.size w w' := by
  have C := Lib.hid C
  have d1 : (z != 0) = true := by simpa using hz0
  have d2 : (z == 0) = false := by simpa using hz0
  clear hz0
  go_enter Tryd.func28, Tryd.ntmps28
  go_wp2_with fail
  refine C.out.mono ?_; rintro e w' ⟨rfl, rfl⟩
  go_wp2
  go_ret
  exact ⟨rfl, (Below.refl _ _).alloc (Nat.le_refl _) _⟩
theorem pset_nil (i : Int) (x : List Nat) (w : World) : Calls Tryd.prog 28 #[.pointer none, .int .i64 i, .agg (wq x)] w fun e w' => e = .returned (.int .i64 11) ∧ Below w.heap.size w w' :=
  set_bad_way 11 (by decide) none i x w (fault_nil i _)
theorem pset_bad (hP : PceAt w p a n live v) (i : Int) (hi : faN n live i ≠ 0) (x : List Nat) : Calls Tryd.prog 28 #[.pointer (some ⟨p, 0, none⟩), .int .i64 i, .agg (wq x)] w fun e w' => e = .returned (.int .i64 (faN n live i)) ∧ Below w.heap.size w w' :=
  set_bad_way _ hi _ i x w (fault_any (RowAt.alloc hP _) i)
set_option maxHeartbeats 1600000 in
theorem pset_any (hP : LiveAt w p a g l) (i : Nat) (hi : i < l.length) {x : List Nat} (hx : okb x) : Calls Tryd.prog 28 #[.pointer (some ⟨p, 0, none⟩), .int .i64 (i : Int), .agg (wq x)] w fun e w' => e = .returned (.int .i64 0) ∧ LiveAt w' p a g (l.set i x) ∧ Kept (fun k => k = g) w w' := by
  have hP1 := hP.alloc (.cells (wq x) 29)
  have C := Lib.hid (fault_any hP1.row i)
  rw [fa_ok hi] at C
  obtain ⟨w1, e1⟩ : ∃ w1, w1 = w.alloc (.cells (wq x) 29) := ⟨_, rfl⟩
  rw [← e1] at hP1
  have HR : Hid (RowAt w1 w.heap.size 29 (wq x)) := Lib.hid (by rw [e1]; exact RowAt.new w _ _)
  have HK : Hid (Kept (fun k => k = g) w w1) := Lib.hid (by rw [e1]; exact (Kept.refl _ w).alloc _)
  have HS : Hid ((wq x).size = 128) := Lib.hid (by rw [wq_size]; exact hx.1)
  have HST := Lib.hid (BlkAt.store hP1.drew.blk hP1.ok i hi hx)
  have HP := Lib.hid (hP1.drew.set i hx)
  have HLX2 := Lib.hid (show (loadVar 29 ⟨w.heap.size, 0, none⟩).run Tryd.prog w1.drew = .ok (.agg (wq x)) w1.drew from RowAt.load (RowAt.drew HR.out) Tryd.underlying29 (by rw [HS.out]; exact b_size))
  obtain ⟨x0, x1, x2, x3, f0, f1, f2, f3⟩ := hP1.row.at_
  have hi0 : (0 : Int) ≤ (i : Int) := by omega
  have hi1 : (i : Int) < (l.length : Int) := by omega
  have E1 := Lib.hid e1
  clear hP hP1 hx e1
  go_enter Tryd.func28, Tryd.ntmps28
  go_wp2_with fail
  refine C.out.mono ?_; rintro e w' ⟨rfl, rfl⟩
  rw [← E1.out]
  clear C
  go_wp2
  refine wp_region_still_tail 7 (by kernel_rfl) (by kernel_rfl) ?_
  simp only [List.take_succ_cons, List.take_zero, List.drop_succ_cons, List.drop_zero]
  repeat still_step
  refine wpStill_load_b rfl 29 (.tmp 5) rfl ⟨w.heap.size, 0, none⟩ _ rfl HLX2.out ?_
  simp only [Act.put, List.setIfInBounds_toArray, List.set_cons_succ, List.set_cons_zero]
  repeat still_step
  refine wpStill_nil ?_
  change wpList _ _ _ _ _ w1.drew
  go_wp2_with (refine wpList_store_of rfl 29 (.tmp 20) (.tmp 19) rfl ⟨g, i * 128, none⟩ (.agg (wq x)) (by first | rfl | simp [Act.eval]) rfl HST.out ?_)
  go_ret
  exact ⟨rfl, HP.out, HK.out.drew.trans ⟨rfl, rfl, rfl, Nat.le_of_eq (setRow_size _ _ _).symm, fun k _ hne => setRow_other _ _ _ _ hne⟩ (fun _ _ e => e)⟩
end
end Go.Proofs.YtpampgkhjcfeaaaDoor
