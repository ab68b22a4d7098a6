/- The document's bytes of a word as an owned row, either way round. No condition but those typed. -/
import Derived.Test.YtnmhcmjpcamoeaaDoorSmall
namespace Go.Proofs.YtnmhcmjpcamoeaaDoor
set_option maxRecDepth 50000
open Go.RowKit

theorem cells_own {w : World} {base : Nat} {n c : Nat} {g : Nat} {xs : List Value} (h : w.ownsRow base 5 1 (.slice (some ⟨g, 0, none⟩) n c) n xs) : ∀ j u, xs[j]? = some u → w.cell? ((⟨g, 0, none⟩ : Addr).add j) = some u := h.cells rfl
theorem u8s_one (l : List Nat) : ∀ u ∈ u8s l, u.oneCell' = true := by
  intro u hu
  obtain ⟨x, _, rfl⟩ := List.mem_map.1 hu
  rfl

end Go.Proofs.YtnmhcmjpcamoeaaDoor
