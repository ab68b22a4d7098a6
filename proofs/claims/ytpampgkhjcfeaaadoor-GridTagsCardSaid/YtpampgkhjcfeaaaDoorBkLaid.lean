/- What the rows tell of the package's table: its cells lie at their place. No condition. -/
import Derived.Test.YtpampgkhjcfeaaaDoorBkb
import Derived.LaidMore
import Derived.Lib.LaidU8
import Derived.Stop.Joined
namespace Go.Proofs.YtpampgkhjcfeaaaDoor
set_option maxRecDepth 50000
open Go.RowKit Go.ChangeAt

def laidK : List (String × DataW Unit) := [("pestle/blake.quarters", Rows.laid_pestle_blake_quarters)]
theorem gK : Tryd.prog.globalNamed "pestle/blake.quarters" = some 0 := by kernel_rfl
theorem tK : (Tryd.prog.globals[0]?).map (·.type) = some 163 := by kernel_rfl
theorem cells_four : Tryd.prog.cellsOf 156 = 4 := by kernel_rfl
theorem cells_int : Tryd.prog.cellsOf 3 = 1 := by kernel_rfl
theorem data_q : (Rows.laid_pestle_blake_quarters : DataW Unit) = .agg ((List.range 8).map fun i => .agg ((List.range 4).map fun k => .lit (.int .i64 (qq.getD (i * 4 + k) 0 : Nat)))) := rfl
theorem of_laid {W : World} (h : laidMetH Tryd.prog laidK W) : QAt W := by
  rw [MakeChecks.laidMetH_plain _ _ _ (by kernel_rfl)] at h
  obtain ⟨g, t, cs, fuel, p, hg, ht, hv, hd⟩ := Lib.laidMet.reads h (.head _)
  obtain rfl := Option.some.inj (gK.symm.trans hg)
  obtain rfl := Option.some.inj (tK.symm.trans ht)
  rw [data_q] at hd
  have hcell : ∀ i, i < 8 → ∀ k, k < 4 → W.cell? ⟨0, i * 4 + k, none⟩ = some (.int .i64 (qq.getD (i * 4 + k) 0 : Nat)) := fun i hi k hk => by
    obtain ⟨fuel', d, q, hds, htr⟩ := Lib.array_elem Tryd.underlying163 hd i hi
    rw [List.getElem?_map, List.getElem?_range hi] at hds
    simp only [Option.map_some, Option.some.injEq] at hds
    subst hds
    rw [cells_four] at htr
    obtain ⟨fuel2, d2, q2, hds2, htr2⟩ := Lib.array_elem Tryd.underlying156 htr k hk
    rw [List.getElem?_map, List.getElem?_range hk] at hds2
    simp only [Option.map_some, Option.some.injEq] at hds2
    subst hds2
    rw [cells_int] at htr2
    obtain ⟨z, e1, e2, _⟩ := DataW.trod_int Tryd.underlying3 htr2
    have e3 : z = ((qq.getD (i * 4 + k) 0 : Nat) : Int) := by injection e2 with e2; injection e2 with e2; injection e2 with _ e2; exact e2.symm
    subst e3
    have hc := World.var?_cell hg hv (i * 4 + k)
    rw [hc]
    have := congrArg (·[0]?) e1
    simpa [List.getElem?_take, List.getElem?_drop, hk] using this
  have hall : ∀ j, j < 32 → W.cell? ⟨0, j, none⟩ = some (.int .i64 (qq.getD j 0 : Nat)) := fun j hj => by
    have := hcell (j / 4) (by omega) (j % 4) (by omega)
    rwa [show j / 4 * 4 + j % 4 = j by omega] at this
  refine ⟨?_, hall⟩
  have h0 := hall 0 (by decide)
  rcases Nat.lt_or_ge 0 W.heap.size with h | h
  · exact h
  · rw [World.cell?] at h0; simp [Array.getElem?_eq_none (show W.heap.size ≤ 0 from h)] at h0

/-- the door's own heap meets the condition: three closed facts -/
theorem door_met (os : Os) (args : Array Value) : laidMetH Tryd.prog laidK ((World.doorLaid Tryd.prog 400 os).forCall (fun _ _ => 0) ⟨#[], args, []⟩).memory :=
  laidMetH_of_parts3 (fuel := 8) (laidMet_of_run' 8 (by kernel_rfl) (by kernel_rfl)) (by kernel_rfl) (by kernel_rfl)
end Go.Proofs.YtpampgkhjcfeaaaDoor
