/- The law SextetLetters by the calls' contracts. Condition: no text is longer than what may come in. -/
import Derived.Test.YtjknpbaegnkdnaaSxAwake
namespace Go.Proofs.Ytjknpbaegnkdnaa
set_option maxRecDepth 50000
open Go.RowKit Sx

/-- three ints in a list just made, of which one is looked up -/
theorem three_ints (w : World) : (w.alloc (.cells #[.int .i64 0, .int .i64 2, .int .i64 3] 3)).cell? ⟨w.heap.size, 0, none⟩ = some (.int .i64 0) ∧
    (w.alloc (.cells #[.int .i64 0, .int .i64 2, .int .i64 3] 3)).cell? ⟨w.heap.size, 1, none⟩ = some (.int .i64 2) ∧
    (w.alloc (.cells #[.int .i64 0, .int .i64 2, .int .i64 3] 3)).cell? ⟨w.heap.size, 2, none⟩ = some (.int .i64 3) := by
  have h := heap_alloc_new w (.cells #[.int .i64 0, .int .i64 2, .int .i64 3] 3)
  exact ⟨cell_of_row _ w.heap.size 0 _ _ _ h, cell_of_row _ w.heap.size 1 _ _ _ h, cell_of_row _ w.heap.size 2 _ _ _ h⟩

end Go.Proofs.Ytjknpbaegnkdnaa
