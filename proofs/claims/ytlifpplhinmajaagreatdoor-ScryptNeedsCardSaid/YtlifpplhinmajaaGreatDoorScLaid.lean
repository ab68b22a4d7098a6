/- What the rows tell of the packages' tables, sha.k and salsa.quarters: their cells lie at their places. No condition. -/
import Derived.Test.YtlifpplhinmajaaGreatDoorShComp
import Derived.Test.YtlifpplhinmajaaGreatDoorSl
import Derived.LaidMore
import Derived.Lib.LaidU8
import Derived.Stop.Joined
namespace Go.Proofs.YtlifpplhinmajaaGreatDoor
set_option maxRecDepth 50000
open Go.RowKit Go.ChangeAt

def laidK : List (String × DataW Unit) := [("pestle/salsa.quarters", Rows.laid_pestle_salsa_quarters), ("pestle/sha.k", Rows.laid_pestle_sha_k)]
section
open Sha
theorem gKk : Tryz.prog.globalNamed "pestle/sha.k" = some 0 := by kernel_rfl
theorem tKk : (Tryz.prog.globals[0]?).map (·.type) = some 37 := by kernel_rfl
theorem cells_u32 : Tryz.prog.cellsOf 36 = 1 := by kernel_rfl
theorem data_k : (Rows.laid_pestle_sha_k : DataW Unit) = .agg (kk.map fun x : Nat => .lit (.int .u32 (x : Int))) := rfl
theorem of_laidk {W : World} (h : laidMetH Tryz.prog laidK W) : KAt W := by
  rw [MakeChecks.laidMetH_plain _ _ _ (by kernel_rfl)] at h
  obtain ⟨g, t, cs, fuel, p, hg, ht, hv, hd⟩ := Lib.laidMet.reads h (.tail _ (.head _))
  obtain rfl := Option.some.inj (gKk.symm.trans hg)
  obtain rfl := Option.some.inj (tKk.symm.trans ht)
  rw [data_k] at hd
  have hcell : ∀ i, i < 64 → W.cell? ⟨0, i, none⟩ = some (.int .u32 (kk.getD i 0 : Nat)) := fun i hi => by
    obtain ⟨fuel', d, q, hds, htr⟩ := Lib.array_elem Tryz.underlying37 hd i hi
    have hkl : kk.length = 64 := rfl
    rw [List.getElem?_map, List.getElem?_eq_getElem (by omega)] at hds
    simp only [Option.map_some, Option.some.injEq] at hds
    subst hds
    rw [cells_u32] at htr
    obtain ⟨z, e1, e2, _⟩ := DataW.trod_int Tryz.underlying36 htr
    have e3 : z = ((kk[i]'(by omega) : Nat) : Int) := by injection e2 with e2; injection e2 with e2; injection e2 with _ e2; exact e2.symm
    subst e3
    have hc := World.var?_cell hg hv i
    rw [hc]
    have h2 : cs.toList[i]? = some (.int .u32 ((kk[i]'(by omega) : Nat) : Int)) := by
      have := congrArg (·[0]?) e1
      simpa [List.getElem?_take, List.getElem?_drop] using this
    rw [List.getD_eq_getElem?_getD, List.getElem?_eq_getElem (by omega : i < kk.length)]
    simpa using h2
  refine ⟨?_, hcell⟩
  have h0 := hcell 0 (by decide)
  rcases Nat.lt_or_ge 0 W.heap.size with h | h
  · exact h
  · rw [World.cell?] at h0; simp [Array.getElem?_eq_none (show W.heap.size ≤ 0 from h)] at h0

end
section
open Sl
theorem gKq : Tryz.prog.globalNamed "pestle/salsa.quarters" = some 2 := by kernel_rfl
theorem tKq : (Tryz.prog.globals[2]?).map (·.type) = some 190 := by kernel_rfl
theorem cells_four : Tryz.prog.cellsOf 174 = 4 := by kernel_rfl
theorem cells_int : Tryz.prog.cellsOf 3 = 1 := by kernel_rfl
theorem data_q : (Rows.laid_pestle_salsa_quarters : DataW Unit) = .agg ((List.range 8).map fun i => .agg ((List.range 4).map fun k => .lit (.int .i64 (qq.getD (i * 4 + k) 0 : Nat)))) := rfl
theorem of_laidq {W : World} (h : laidMetH Tryz.prog laidK W) : QAt W := by
  rw [MakeChecks.laidMetH_plain _ _ _ (by kernel_rfl)] at h
  obtain ⟨g, t, cs, fuel, p, hg, ht, hv, hd⟩ := Lib.laidMet.reads h (.head _)
  obtain rfl := Option.some.inj (gKq.symm.trans hg)
  obtain rfl := Option.some.inj (tKq.symm.trans ht)
  rw [data_q] at hd
  have hcell : ∀ i, i < 8 → ∀ k, k < 4 → W.cell? ⟨2, i * 4 + k, none⟩ = some (.int .i64 (qq.getD (i * 4 + k) 0 : Nat)) := fun i hi k hk => by
    obtain ⟨fuel', d, q, hds, htr⟩ := Lib.array_elem Tryz.underlying190 hd i hi
    rw [List.getElem?_map, List.getElem?_range hi] at hds
    simp only [Option.map_some, Option.some.injEq] at hds
    subst hds
    rw [cells_four] at htr
    obtain ⟨fuel2, d2, q2, hds2, htr2⟩ := Lib.array_elem Tryz.underlying174 htr k hk
    rw [List.getElem?_map, List.getElem?_range hk] at hds2
    simp only [Option.map_some, Option.some.injEq] at hds2
    subst hds2
    rw [cells_int] at htr2
    obtain ⟨z, e1, e2, _⟩ := DataW.trod_int Tryz.underlying3 htr2
    have e3 : z = ((qq.getD (i * 4 + k) 0 : Nat) : Int) := by injection e2 with e2; injection e2 with e2; injection e2 with _ e2; exact e2.symm
    subst e3
    have hc := World.var?_cell hg hv (i * 4 + k)
    rw [hc]
    have := congrArg (·[0]?) e1
    simpa [List.getElem?_take, List.getElem?_drop, hk] using this
  have hall : ∀ j, j < 32 → W.cell? ⟨2, j, none⟩ = some (.int .i64 (qq.getD j 0 : Nat)) := fun j hj => by
    have := hcell (j / 4) (by omega) (j % 4) (by omega)
    rwa [show j / 4 * 4 + j % 4 = j by omega] at this
  refine ⟨?_, hall⟩
  have h0 := hall 0 (by decide)
  rcases Nat.lt_or_ge 2 W.heap.size with h | h
  · exact h
  · rw [World.cell?] at h0; simp [Array.getElem?_eq_none (show W.heap.size ≤ 2 from h)] at h0

end
/-- the door's own heap meets the condition: three closed facts -/
theorem door_met (os : Os) (args : Array Value) : laidMetH Tryz.prog laidK ((World.doorLaid Tryz.prog 400 os).forCall (fun _ _ => 0) ⟨#[], args, []⟩).memory :=
  laidMetH_of_parts3 (fuel := 8) (laidMet_of_run' 8 (by kernel_rfl) (by kernel_rfl)) (by kernel_rfl) (by kernel_rfl)
end Go.Proofs.YtlifpplhinmajaaGreatDoor
