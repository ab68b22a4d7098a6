/- Words that came in, as numbers. No condition. -/
import Derived.Test.YtohmkhmanidljaaDoorSfLast
import Derived.OpenShut
namespace Go.Proofs.YtohmkhmanidljaaDoor
set_option maxRecDepth 50000
open Go.ChangeShapes Go.WideShapes Go.ChangeAt Go.RowKit Sl

theorem open_words {zs : List Int} (hw : ∀ n ∈ zs, (Lit.int .u32 n).wf = true) : ∃ bs : List Nat, bs.length = zs.length ∧ okw bs ∧ zs.map (Value.int .u32) = u32s bs := by
  refine ⟨zs.map Int.toNat, by simp, ?_, ?_⟩
  · intro x hx
    obtain ⟨z, hz, rfl⟩ := List.mem_map.1 hx
    have := bounds_u32 (hw z hz)
    omega
  · unfold u32s
    rw [List.map_map]
    refine List.map_congr_left fun z hz => ?_
    have := bounds_u32 (hw z hz)
    simp [Function.comp, Int.toNat_of_nonneg this.1]
end Go.Proofs.YtohmkhmanidljaaDoor
