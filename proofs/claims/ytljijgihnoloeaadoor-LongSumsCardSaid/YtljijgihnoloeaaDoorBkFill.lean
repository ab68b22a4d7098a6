/- filled of package blake by its contract: bytes with bytes 0 behind them. Condition: at most 128 bytes. -/
import Derived.Test.YtljijgihnoloeaaDoorArr
import Derived.Test.YtljijgihnoloeaaDoorFdAwake
import Derived.Test.YtljijgihnoloeaaDoorTaken
import Derived.Laws.CopyRow
import Derived.Deep.OwnRows
namespace Go.Proofs.YtljijgihnoloeaaDoor
set_option maxRecDepth 50000
open Go.RowKit

/-- up to a block -/
def fill128 (l : List UInt8) : List UInt8 := l ++ List.replicate (128 - l.length) 0
theorem fill128_length (l : List UInt8) (h : l.length ≤ 128) : (fill128 l).length = 128 := by simp [fill128]; omega
theorem z_u8 : (Tryd.prog.info? 5).map (·.size) = some 1 := by kernel_rfl

theorem copy_none (w : World) (g c : Nat) (ty : TypeId) : (Builtin.copy_ #[48, 48] ty #[.slice (some ⟨g, 0, none⟩) 128 128, .slice none 0 c]).run Tryd.prog w = .ok (goInt 0) w := by
  have hz := z_u8
  cases hq : Tryd.prog.info? 5 with
  | none => simp [hq] at hz
  | some i => simp [Builtin.copy_, run_underlying Tryd.underlying48, Builtin.lenOf, Builtin.firstCells, sizeOf, typeInfo, hq, storeCells]
set_option maxHeartbeats 800000 in
theorem filled_any (A : Option Addr) (c : Nat) (l : List UInt8) (hl : l.length ≤ 128) (w : World) (hr : Reads w w.heap.size A (cs l)) (hnil : A = none → l = []) :
    Calls Tryd.prog 30 #[.slice A l.length c] w fun e w' => ∃ g, e = .returned (.slice (some ⟨g, 0, none⟩) 128 128) ∧ Row w' g (fill128 l) ∧ w.heap.size ≤ g ∧ Below w.heap.size w w' := by
  have hmk : ∀ w : World, (Instr.makeSlice 48 (.int .i64 128) (.int .i64 128)).run Tryd.prog w = .ok (.slice (some ⟨w.heap.size, 0, none⟩) 128 128) (w.alloc (.cells (madeCells #[.int .u8 0] 128) 5)) :=
    fun w => run_make_row' (P := Tryd.prog) 48 5 (.int .u8 0) 1 Tryd.underlying48 fd_info_u8 rfl .i64 .i64 128 (by decide) (by decide) w
  have hcs : (madeCells #[Value.int .u8 0] 128) = (cs (List.replicate 128 0)).toArray := by
    apply Array.toList_inj.1
    rw [made_one]; simp [cs]
  have HZ : Hid (fill128 l = l ++ (List.replicate 128 0).drop l.length) := Lib.hid (by rw [List.drop_replicate]; rfl)
  have hZl : (List.replicate 128 (0 : UInt8)).length = 128 := by simp
  generalize List.replicate 128 (0 : UInt8) = Z at *
  generalize madeCells #[Value.int .u8 0] 128 = M0 at *
  subst hcs
  rcases A with _ | ⟨b, off, sub⟩
  · have h0 := hnil rfl
    subst h0
    clear hr hnil
    go_enter Tryd.func30, Tryd.ntmps30
    go_wp2
    rw [copy_none]
    go_wp2
    go_ret
    refine ⟨w.heap.size, rfl, ⟨_, (0, 0), heap_alloc_last w _, ?_⟩, Nat.le_refl _, (Below.refl _ w).alloc (Nat.le_refl _) _⟩
    rw [HZ.out, List.length_nil, List.drop_zero, List.nil_append]
    exact List.take_of_length_le (by simp [cs])
  · have hrd : ∀ o : Obj, ∀ j v, (cs l)[j]? = some v → (w.alloc o).cell? ((⟨b, off, sub⟩ : Addr).add j) = some v := fun o j v hj => by
      obtain ⟨hj', rfl⟩ := List.getElem?_eq_some_iff.1 hj
      obtain ⟨b', off', e, hb, hc⟩ := hr j hj'
      cases e
      have hadd : (⟨b, off, none⟩ : Addr).add j = ⟨b, off + j, none⟩ := by unfold Addr.add; split <;> simp_all
      rw [hadd, World.cell?_of_block (w := w) (Below.heap_alloc w o _ hb)]
      exact hc
    have HC := Lib.hid fun o : Obj => fun (hC : (w.alloc o).heap[w.heap.size]? = some (.cells (cs Z).toArray 5 (0, 0))) => run_copy_row (P := Tryd.prog) (w.alloc o) 48 48 3 5 w.heap.size 0 128 128 ⟨b, off, sub⟩ l.length c (cs Z).toArray 5 (cs l) Tryd.underlying48 z_u8 hC (by rw [cs_length]; exact (Nat.min_eq_left hl).symm) (hrd o) (by simp [cs, hZl]; exact hl) (cs_one l)
    clear hr hrd hnil
    go_enter Tryd.func30, Tryd.ntmps30
    go_wp2
    rw [HC.out _ (heap_alloc_last w _)]
    go_wp2
    go_ret
    refine ⟨w.heap.size, rfl, ⟨_, (0, 0), setRow_heap _ _ _ _ _ (0, 0) (heap_alloc_last w _), ?_⟩, Nat.le_refl _, below_setRow ((Below.refl _ w).alloc (Nat.le_refl _) _) (Nat.le_refl _) _⟩
    rw [HZ.out]
    rw [List.take_of_length_le (by simp [cs, hZl])]
    simp [cs]
end Go.Proofs.YtljijgihnoloeaaDoor
