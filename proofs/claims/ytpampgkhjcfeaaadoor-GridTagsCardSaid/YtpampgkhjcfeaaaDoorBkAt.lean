/- The document's places and its Known by their contracts. Condition: the number is one of a round's eight quarters. -/
import Derived.Test.YtpampgkhjcfeaaaDoorBkb
namespace Go.Proofs.YtpampgkhjcfeaaaDoor
set_option maxRecDepth 50000
open Go.RowKit Rot Bl

theorem iq4 (a b c d : Nat) : (iq [a, b, c, d]).size = 4 := rfl
theorem f_size8 : (Tryd.prog.info? 57).map (·.size) = some 8 := by kernel_rfl
theorem rknown_any (w : World) : Calls Tryd.prog 15 #[] w fun e w' => e = .returned (.agg (wq iv)) ∧ Below w.heap.size w w' := by
  go_enter Tryd.func15, Tryd.ntmps15
  go_wp2
  have hR : RowAt (w.alloc (.cells (wq iv) 57)) w.heap.size 57 (wq iv) := RowAt.new _ _ _
  refine bodyPost_ret (v := .agg (wq iv)) (results_cell_row rfl _ _ w.heap.size 57 (wq iv) (0, 0) _ rfl hR Tryd.underlying57 rfl (by rw [wq_size]; exact f_size8)) rfl ⟨rfl, (Below.refl _ w).alloc (Nat.le_refl _) _⟩
set_option maxHeartbeats 800000 in
theorem at_any (i : Nat) (hi : i < 8) (w : World) : Calls Tryd.prog 78 #[.int .i64 (i : Int)] w fun e w' => e = .returned (.agg (iq [pt i 0, pt i 1, pt i 2, pt i 3])) ∧ Below w.heap.size w w' := by
  have hR : ∀ v, RowAt (w.alloc (.cells (iq v) 156)) w.heap.size 156 (iq v) := fun v => RowAt.new _ _ _
  have h : i = 0 ∨ i = 1 ∨ i = 2 ∨ i = 3 ∨ i = 4 ∨ i = 5 ∨ i = 6 ∨ i = 7 := by omega
  rcases h with rfl | rfl | rfl | rfl | rfl | rfl | rfl | rfl
  · rw [show [pt 0 0, pt 0 1, pt 0 2, pt 0 3] = [0, 4, 8, 12] from rfl]
    go_enter Tryd.func78, Tryd.ntmps78
    go_wp2
    refine bodyPost_ret (v := .agg (iq [0, 4, 8, 12])) (results_cell_row rfl _ _ w.heap.size 156 (iq [0, 4, 8, 12]) (0, 0) _ rfl (hR [0, 4, 8, 12]) Tryd.underlying156 rfl (by rw [iq4]; exact q_int4)) rfl ⟨rfl, (Below.refl _ w).alloc (Nat.le_refl _) _⟩
  · rw [show [pt 1 0, pt 1 1, pt 1 2, pt 1 3] = [1, 5, 9, 13] from rfl]
    go_enter Tryd.func78, Tryd.ntmps78
    go_wp2
    refine bodyPost_ret (v := .agg (iq [1, 5, 9, 13])) (results_cell_row rfl _ _ w.heap.size 156 (iq [1, 5, 9, 13]) (0, 0) _ rfl (hR [1, 5, 9, 13]) Tryd.underlying156 rfl (by rw [iq4]; exact q_int4)) rfl ⟨rfl, (Below.refl _ w).alloc (Nat.le_refl _) _⟩
  · rw [show [pt 2 0, pt 2 1, pt 2 2, pt 2 3] = [2, 6, 10, 14] from rfl]
    go_enter Tryd.func78, Tryd.ntmps78
    go_wp2
    refine bodyPost_ret (v := .agg (iq [2, 6, 10, 14])) (results_cell_row rfl _ _ w.heap.size 156 (iq [2, 6, 10, 14]) (0, 0) _ rfl (hR [2, 6, 10, 14]) Tryd.underlying156 rfl (by rw [iq4]; exact q_int4)) rfl ⟨rfl, (Below.refl _ w).alloc (Nat.le_refl _) _⟩
  · rw [show [pt 3 0, pt 3 1, pt 3 2, pt 3 3] = [3, 7, 11, 15] from rfl]
    go_enter Tryd.func78, Tryd.ntmps78
    go_wp2
    refine bodyPost_ret (v := .agg (iq [3, 7, 11, 15])) (results_cell_row rfl _ _ w.heap.size 156 (iq [3, 7, 11, 15]) (0, 0) _ rfl (hR [3, 7, 11, 15]) Tryd.underlying156 rfl (by rw [iq4]; exact q_int4)) rfl ⟨rfl, (Below.refl _ w).alloc (Nat.le_refl _) _⟩
  · rw [show [pt 4 0, pt 4 1, pt 4 2, pt 4 3] = [0, 5, 10, 15] from rfl]
    go_enter Tryd.func78, Tryd.ntmps78
    go_wp2
    refine bodyPost_ret (v := .agg (iq [0, 5, 10, 15])) (results_cell_row rfl _ _ w.heap.size 156 (iq [0, 5, 10, 15]) (0, 0) _ rfl (hR [0, 5, 10, 15]) Tryd.underlying156 rfl (by rw [iq4]; exact q_int4)) rfl ⟨rfl, (Below.refl _ w).alloc (Nat.le_refl _) _⟩
  · rw [show [pt 5 0, pt 5 1, pt 5 2, pt 5 3] = [1, 6, 11, 12] from rfl]
    go_enter Tryd.func78, Tryd.ntmps78
    go_wp2
    refine bodyPost_ret (v := .agg (iq [1, 6, 11, 12])) (results_cell_row rfl _ _ w.heap.size 156 (iq [1, 6, 11, 12]) (0, 0) _ rfl (hR [1, 6, 11, 12]) Tryd.underlying156 rfl (by rw [iq4]; exact q_int4)) rfl ⟨rfl, (Below.refl _ w).alloc (Nat.le_refl _) _⟩
  · rw [show [pt 6 0, pt 6 1, pt 6 2, pt 6 3] = [2, 7, 8, 13] from rfl]
    go_enter Tryd.func78, Tryd.ntmps78
    go_wp2
    refine bodyPost_ret (v := .agg (iq [2, 7, 8, 13])) (results_cell_row rfl _ _ w.heap.size 156 (iq [2, 7, 8, 13]) (0, 0) _ rfl (hR [2, 7, 8, 13]) Tryd.underlying156 rfl (by rw [iq4]; exact q_int4)) rfl ⟨rfl, (Below.refl _ w).alloc (Nat.le_refl _) _⟩
  · rw [show [pt 7 0, pt 7 1, pt 7 2, pt 7 3] = [3, 4, 9, 14] from rfl]
    go_enter Tryd.func78, Tryd.ntmps78
    go_wp2
    refine bodyPost_ret (v := .agg (iq [3, 4, 9, 14])) (results_cell_row rfl _ _ w.heap.size 156 (iq [3, 4, 9, 14]) (0, 0) _ rfl (hR [3, 4, 9, 14]) Tryd.underlying156 rfl (by rw [iq4]; exact q_int4)) rfl ⟨rfl, (Below.refl _ w).alloc (Nat.le_refl _) _⟩
end Go.Proofs.YtpampgkhjcfeaaaDoor
