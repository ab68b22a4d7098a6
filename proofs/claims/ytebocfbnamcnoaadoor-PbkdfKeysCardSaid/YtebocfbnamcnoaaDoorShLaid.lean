/- What the rows tell of the package's table: its cells lie at their place. No condition. -/
import Derived.Test.YtebocfbnamcnoaaDoorShComp
import Derived.LaidMore
import Derived.Lib.LaidU8
import Derived.Stop.Joined
namespace Go.Proofs.YtebocfbnamcnoaaDoor
set_option maxRecDepth 50000
open Go.RowKit Go.ChangeAt

def laidK : List (String × DataW Unit) := [("pestle/sha.k", Rows.laid_pestle_sha_k)]
theorem gK : Tryd.prog.globalNamed "pestle/sha.k" = some 0 := by kernel_rfl
theorem tK : (Tryd.prog.globals[0]?).map (·.type) = some 30 := by kernel_rfl
theorem cells_u32 : Tryd.prog.cellsOf 29 = 1 := by kernel_rfl
theorem data_k : (Rows.laid_pestle_sha_k : DataW Unit) = .agg (kk.map fun x : Nat => .lit (.int .u32 (x : Int))) := rfl
theorem of_laid {W : World} (h : laidMetH Tryd.prog laidK W) : KAt W := by
  rw [MakeChecks.laidMetH_plain _ _ _ (by kernel_rfl)] at h
  obtain ⟨g, t, cs, fuel, p, hg, ht, hv, hd⟩ := Lib.laidMet.reads h (.head _)
  obtain rfl := Option.some.inj (gK.symm.trans hg)
  obtain rfl := Option.some.inj (tK.symm.trans ht)
  rw [data_k] at hd
  have hcell : ∀ i, i < 64 → W.cell? ⟨0, i, none⟩ = some (.int .u32 (kk.getD i 0 : Nat)) := fun i hi => by
    obtain ⟨fuel', d, q, hds, htr⟩ := Lib.array_elem Tryd.underlying30 hd i hi
    have hkl : kk.length = 64 := rfl
    rw [List.getElem?_map, List.getElem?_eq_getElem (by omega)] at hds
    simp only [Option.map_some, Option.some.injEq] at hds
    subst hds
    rw [cells_u32] at htr
    obtain ⟨z, e1, e2, _⟩ := DataW.trod_int Tryd.underlying29 htr
    have e3 : z = ((kk[i]'(by omega) : Nat) : Int) := by injection e2 with e2; injection e2 with e2; injection e2 with _ e2; exact e2.symm
    subst e3
    have hc := World.var?_cell hg hv i
    rw [hc]
    have h2 : cs.toList[i]? = some (.int .u32 ((kk[i]'(by omega) : Nat) : Int)) := by
      have := congrArg (·[0]?) e1
      simpa [List.getElem?_take, List.getElem?_drop] using this
    rw [List.getD_eq_getElem?_getD, List.getElem?_eq_getElem (by omega : i < kk.length)]
    simpa using h2
  refine ⟨?_, hcell⟩
  have h0 := hcell 0 (by decide)
  rcases Nat.lt_or_ge 0 W.heap.size with h | h
  · exact h
  · rw [World.cell?] at h0; simp [Array.getElem?_eq_none (show W.heap.size ≤ 0 from h)] at h0

/-- the door's own heap meets the condition: three closed facts -/
theorem door_met (os : Os) (args : Array Value) : laidMetH Tryd.prog laidK ((World.doorLaid Tryd.prog 400 os).forCall (fun _ _ => 0) ⟨#[], args, []⟩).memory :=
  laidMetH_of_parts3 (fuel := 8) (laidMet_of_run' 8 (by kernel_rfl) (by kernel_rfl)) (by kernel_rfl) (by kernel_rfl)
end Go.Proofs.YtebocfbnamcnoaaDoor
