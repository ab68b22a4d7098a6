/- What the rows tell of the packages' tables, blend's two: their cells lie at their places. No condition. -/
import Derived.Test.YtfoodaobiknihaaDoorBnl
import Derived.LaidMore
import Derived.Lib.LaidU8
import Derived.Stop.Joined
namespace Go.Proofs.YtfoodaobiknihaaDoor
set_option maxRecDepth 50000
open Go.RowKit Go.ChangeAt

def laidK : List (String × DataW Unit) := [("pestle/blend.quarters", Rows.laid_pestle_blend_quarters), ("pestle/blend.layouts", Rows.laid_pestle_blend_layouts)]
section
open Bn
theorem gKn : Tryd.prog.globalNamed "pestle/blend.quarters" = some 1 := by kernel_rfl
theorem tKn : (Tryd.prog.globals[1]?).map (·.type) = some 138 := by kernel_rfl
theorem cells_four : Tryd.prog.cellsOf 36 = 4 := by kernel_rfl
theorem cells_int : Tryd.prog.cellsOf 3 = 1 := by kernel_rfl
theorem data_n : (Rows.laid_pestle_blend_quarters : DataW Unit) = .agg ((List.range 8).map fun i => .agg ((List.range 4).map fun k => .lit (.int .i64 (qq.getD (i * 4 + k) 0 : Nat)))) := rfl
theorem of_laidn {W : World} (h : laidMetH Tryd.prog laidK W) : QAtN W := by
  rw [MakeChecks.laidMetH_plain _ _ _ (by kernel_rfl)] at h
  obtain ⟨g, t, cs, fuel, p, hg, ht, hv, hd⟩ := Lib.laidMet.reads h (.head _)
  obtain rfl := Option.some.inj (gKn.symm.trans hg)
  obtain rfl := Option.some.inj (tKn.symm.trans ht)
  rw [data_n] at hd
  have hcell : ∀ i, i < 8 → ∀ k, k < 4 → W.cell? ⟨1, i * 4 + k, none⟩ = some (.int .i64 (qq.getD (i * 4 + k) 0 : Nat)) := fun i hi k hk => by
    obtain ⟨fuel', d, q, hds, htr⟩ := Lib.array_elem Tryd.underlying138 hd i hi
    rw [List.getElem?_map, List.getElem?_range hi] at hds
    simp only [Option.map_some, Option.some.injEq] at hds
    subst hds
    rw [cells_four] at htr
    obtain ⟨fuel2, d2, q2, hds2, htr2⟩ := Lib.array_elem Tryd.underlying36 htr k hk
    rw [List.getElem?_map, List.getElem?_range hk] at hds2
    simp only [Option.map_some, Option.some.injEq] at hds2
    subst hds2
    rw [cells_int] at htr2
    obtain ⟨z, e1, e2, _⟩ := DataW.trod_int Tryd.underlying3 htr2
    have e3 : z = ((qq.getD (i * 4 + k) 0 : Nat) : Int) := by injection e2 with e2; injection e2 with e2; injection e2 with _ e2; exact e2.symm
    subst e3
    have hc := World.var?_cell hg hv (i * 4 + k)
    rw [hc]
    have := congrArg (·[0]?) e1
    simpa [List.getElem?_take, List.getElem?_drop, hk] using this
  have hall : ∀ j, j < 32 → W.cell? ⟨1, j, none⟩ = some (.int .i64 (qq.getD j 0 : Nat)) := fun j hj => by
    have := hcell (j / 4) (by omega) (j % 4) (by omega)
    rwa [show j / 4 * 4 + j % 4 = j by omega] at this
  refine ⟨?_, hall⟩
  have h0 := hall 0 (by decide)
  rcases Nat.lt_or_ge 1 W.heap.size with h | h
  · exact h
  · rw [World.cell?] at h0; simp [Array.getElem?_eq_none (show W.heap.size ≤ 1 from h)] at h0

end
section
theorem gKl : Tryd.prog.globalNamed "pestle/blend.layouts" = some 0 := by kernel_rfl
theorem tKl : (Tryd.prog.globals[0]?).map (·.type) = some 132 := by kernel_rfl
theorem cells_lay : Tryd.prog.cellsOf 131 = 2 := by kernel_rfl
theorem data_l : (Rows.laid_pestle_blend_layouts : DataW Unit) = .agg ((List.range 2).map fun i => .agg [.lit (.int .i64 (lq.getD (i * 2) 0 : Nat)), .lit (.int .i64 (lq.getD (i * 2 + 1) 0 : Nat))]) := rfl
theorem of_laidl {W : World} (h : laidMetH Tryd.prog laidK W) : LAt W := by
  rw [MakeChecks.laidMetH_plain _ _ _ (by kernel_rfl)] at h
  obtain ⟨g, t, cs, fuel, p, hg, ht, hv, hd⟩ := Lib.laidMet.reads h (.tail _ (.head _))
  obtain rfl := Option.some.inj (gKl.symm.trans hg)
  obtain rfl := Option.some.inj (tKl.symm.trans ht)
  rw [data_l] at hd
  have hcell : ∀ i, i < 2 → ∀ k, k < 2 → W.cell? ⟨0, i * 2 + k, none⟩ = some (.int .i64 (lq.getD (i * 2 + k) 0 : Nat)) := fun i hi k hk => by
    obtain ⟨fuel', d, q, hds, htr⟩ := Lib.array_elem Tryd.underlying132 hd i hi
    rw [List.getElem?_map, List.getElem?_range hi] at hds
    simp only [Option.map_some, Option.some.injEq] at hds
    subst hds
    rw [cells_lay] at htr
    obtain ⟨y0, y1, n, ee, _, t0, t1⟩ := Go.ChangeShapes.trod_struct2 Tryd.underlying131 htr
    have ed : y0.1 = .lit (.int .i64 (lq.getD (i * 2) 0 : Nat)) ∧ y1.1 = .lit (.int .i64 (lq.getD (i * 2 + 1) 0 : Nat)) := by
      simp only [Prod.mk.injEq, DataW.agg.injEq, List.cons.injEq] at ee
      exact ⟨ee.1.1.symm, ee.1.2.1.symm⟩
    have F : ∀ (o : Nat) (y : DataW Unit × List MemPlace) (x : Nat), o < 2 → y.1 = .lit (.int .i64 (x : Int)) → DataW.trod (fun _ => ()) Tryd.prog W 0 (fun _ => true) false n 3 ((((cs.toList.drop (i * 2)).take 2).drop o).take 1) = some y → W.cell? ⟨0, i * 2 + o, none⟩ = some (.int .i64 (x : Int)) := fun o y x ho hy ht => by
      obtain ⟨y1, y2⟩ := y
      obtain ⟨z, e1, e2, _⟩ := DataW.trod_int Tryd.underlying3 ht
      have hy : y1 = .lit (.int .i64 (x : Int)) := hy
      subst hy
      have e3 : z = (x : Int) := by injection e2 with e2; injection e2 with e2; injection e2 with _ e2; exact e2.symm
      subst e3
      rw [World.var?_cell hg hv (i * 2 + o)]
      have := congrArg (·[0]?) e1
      simpa [List.getElem?_take, List.getElem?_drop, ho] using this
    rcases (show k = 0 ∨ k = 1 by omega) with rfl | rfl
    · exact F 0 y0 _ (by decide) ed.1 t0
    · exact F 1 y1 _ (by decide) ed.2 t1
  have hall : ∀ j, j < 4 → W.cell? ⟨0, j, none⟩ = some (.int .i64 (lq.getD j 0 : Nat)) := fun j hj => by
    have := hcell (j / 2) (by omega) (j % 2) (by omega)
    rwa [show j / 2 * 2 + j % 2 = j by omega] at this
  refine ⟨?_, hall⟩
  have h0 := hall 0 (by decide)
  rcases Nat.lt_or_ge 0 W.heap.size with h | h
  · exact h
  · rw [World.cell?] at h0; simp [Array.getElem?_eq_none (show W.heap.size ≤ 0 from h)] at h0
end
section
end
theorem of_laid {W : World} (h : laidMetH Tryd.prog laidK W) : TAt W := ⟨of_laidn h, of_laidl h⟩
/-- the door's own heap meets the condition: three closed facts -/
theorem door_met (os : Os) (args : Array Value) : laidMetH Tryd.prog laidK ((World.doorLaid Tryd.prog 400 os).forCall (fun _ _ => 0) ⟨#[], args, []⟩).memory :=
  laidMetH_of_parts3 (fuel := 8) (laidMet_of_run' 8 (by kernel_rfl) (by kernel_rfl)) (by kernel_rfl) (by kernel_rfl)
end Go.Proofs.YtfoodaobiknihaaDoor
