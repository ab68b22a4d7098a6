/- A list of bools that came in, and a text. No condition. What the rows tell of the packages' tables, blend's two and blake's: their cells lie at their places. No condition. -/
import Derived.Test.YtfoodaobiknihaaGreatDoorKi
import Derived.Test.YtfoodaobiknihaaGreatDoorSp
import Derived.Deep.Grids
import Derived.Test.YtfoodaobiknihaaGreatDoorBnl
import Derived.Test.YtfoodaobiknihaaGreatDoorBx
import Derived.LaidMore
import Derived.Lib.LaidU8
import Derived.Stop.Joined
namespace Go.Proofs.YtfoodaobiknihaaGreatDoor
set_option maxRecDepth 50000
open Go.ChangeShapes Go.WideShapes Go.ChangeAt Go.RowKit Go.Deep
theorem open_acts {H : Type} {enc : TypeId × Value → H} {W : World} {r : Reach} {b0 : Nat} {v : Value} {d : DataW H} {ps : List MemPlace}
    (hval : Value.okWide Tryz.prog W r b0 24 v) (h : DataW.Trod enc Tryz.prog W 0 (fun _ => true) true 24 v d ps) (hlt : ∀ x ∈ ps, x.block < W.heap.size) :
    ∃ A c, ∃ bs : List Bool, v = .slice A bs.length c ∧ Reads W W.heap.size A (bs.map Value.bool) := by
  obtain ⟨a0, len, cap, rfl⟩ := okWide_slice Tryz.underlying24 hval
  obtain ⟨fuel, hf⟩ := h
  rcases open_bools Tryz.underlying24 Tryz.underlying4 (by kernel_rfl) hf with ⟨hcs, hx⟩ | ⟨a, len', cap', B, hcs, _, hl, hm, hx, hcell⟩
  · simp [Value.cells] at hcs
    obtain ⟨rfl, rfl, rfl⟩ := hcs
    exact ⟨none, 0, [], rfl, fun k hk => absurd hk (by simp)⟩
  · simp [Value.cells] at hcs
    obtain ⟨rfl, rfl, rfl⟩ := hcs
    simp only [Prod.mk.injEq] at hx
    obtain ⟨rfl, rfl⟩ := hx
    refine ⟨some a, cap, (List.range len).map B, by simp, fun i hi => ?_⟩
    simp only [List.length_map, List.length_range] at hi
    obtain ⟨b, off, spot⟩ := a
    have hspot : spot = none := by simpa [Addr.add] using World.cell?_spot (hcell 0 (by omega))
    subst hspot
    refine ⟨b, off, rfl, hlt (.cell b off) (MemPlace.mem_row.2 ⟨0, by omega, by simp⟩), ?_⟩
    rw [← add_plain, hcell i (by omega)]
    simp
end Go.Proofs.YtfoodaobiknihaaGreatDoor

namespace Go.Proofs.YtfoodaobiknihaaGreatDoor
set_option maxRecDepth 50000
open Go.RowKit Go.ChangeAt
def laidK : List (String × DataW Unit) := [("pestle/blend.quarters", Rows.laid_pestle_blend_quarters), ("pestle/blend.layouts", Rows.laid_pestle_blend_layouts), ("pestle/blake.quarters", Rows.laid_pestle_blake_quarters)]
section
open Bn
theorem gKn : Tryz.prog.globalNamed "pestle/blend.quarters" = some 2 := by kernel_rfl
theorem tKn : (Tryz.prog.globals[2]?).map (·.type) = some 227 := by kernel_rfl
theorem cells_four : Tryz.prog.cellsOf 188 = 4 := by kernel_rfl
theorem cells_int : Tryz.prog.cellsOf 3 = 1 := by kernel_rfl
theorem data_n : (Rows.laid_pestle_blend_quarters : DataW Unit) = .agg ((List.range 8).map fun i => .agg ((List.range 4).map fun k => .lit (.int .i64 (qq.getD (i * 4 + k) 0 : Nat)))) := rfl
theorem of_laidn {W : World} (h : laidMetH Tryz.prog laidK W) : QAtN W := by
  rw [MakeChecks.laidMetH_plain _ _ _ (by kernel_rfl)] at h
  obtain ⟨g, t, cs, fuel, p, hg, ht, hv, hd⟩ := Lib.laidMet.reads h (.head _)
  obtain rfl := Option.some.inj (gKn.symm.trans hg)
  obtain rfl := Option.some.inj (tKn.symm.trans ht)
  rw [data_n] at hd
  have hcell : ∀ i, i < 8 → ∀ k, k < 4 → W.cell? ⟨2, i * 4 + k, none⟩ = some (.int .i64 (qq.getD (i * 4 + k) 0 : Nat)) := fun i hi k hk => by
    obtain ⟨fuel', d, q, hds, htr⟩ := Lib.array_elem Tryz.underlying227 hd i hi
    rw [List.getElem?_map, List.getElem?_range hi] at hds
    simp only [Option.map_some, Option.some.injEq] at hds
    subst hds
    rw [cells_four] at htr
    obtain ⟨fuel2, d2, q2, hds2, htr2⟩ := Lib.array_elem Tryz.underlying188 htr k hk
    rw [List.getElem?_map, List.getElem?_range hk] at hds2
    simp only [Option.map_some, Option.some.injEq] at hds2
    subst hds2
    rw [cells_int] at htr2
    obtain ⟨z, e1, e2, _⟩ := DataW.trod_int Tryz.underlying3 htr2
    have e3 : z = ((qq.getD (i * 4 + k) 0 : Nat) : Int) := by injection e2 with e2; injection e2 with e2; injection e2 with _ e2; exact e2.symm
    subst e3
    have hc := World.var?_cell hg hv (i * 4 + k)
    rw [hc]
    have := congrArg (·[0]?) e1
    simpa [List.getElem?_take, List.getElem?_drop, hk] using this
  have hall : ∀ j, j < 32 → W.cell? ⟨2, j, none⟩ = some (.int .i64 (qq.getD j 0 : Nat)) := fun j hj => by
    have := hcell (j / 4) (by omega) (j % 4) (by omega)
    rwa [show j / 4 * 4 + j % 4 = j by omega] at this
  refine ⟨?_, hall⟩
  have h0 := hall 0 (by decide)
  rcases Nat.lt_or_ge 2 W.heap.size with h | h
  · exact h
  · rw [World.cell?] at h0; simp [Array.getElem?_eq_none (show W.heap.size ≤ 2 from h)] at h0
end
section
theorem gKl : Tryz.prog.globalNamed "pestle/blend.layouts" = some 0 := by kernel_rfl
theorem tKl : (Tryz.prog.globals[0]?).map (·.type) = some 205 := by kernel_rfl
theorem cells_lay : Tryz.prog.cellsOf 204 = 2 := by kernel_rfl
theorem data_l : (Rows.laid_pestle_blend_layouts : DataW Unit) = .agg ((List.range 2).map fun i => .agg [.lit (.int .i64 (lq.getD (i * 2) 0 : Nat)), .lit (.int .i64 (lq.getD (i * 2 + 1) 0 : Nat))]) := rfl
theorem of_laidl {W : World} (h : laidMetH Tryz.prog laidK W) : LAt W := by
  rw [MakeChecks.laidMetH_plain _ _ _ (by kernel_rfl)] at h
  obtain ⟨g, t, cs, fuel, p, hg, ht, hv, hd⟩ := Lib.laidMet.reads h (.tail _ (.head _))
  obtain rfl := Option.some.inj (gKl.symm.trans hg)
  obtain rfl := Option.some.inj (tKl.symm.trans ht)
  rw [data_l] at hd
  have hcell : ∀ i, i < 2 → ∀ k, k < 2 → W.cell? ⟨0, i * 2 + k, none⟩ = some (.int .i64 (lq.getD (i * 2 + k) 0 : Nat)) := fun i hi k hk => by
    obtain ⟨fuel', d, q, hds, htr⟩ := Lib.array_elem Tryz.underlying205 hd i hi
    rw [List.getElem?_map, List.getElem?_range hi] at hds
    simp only [Option.map_some, Option.some.injEq] at hds
    subst hds
    rw [cells_lay] at htr
    obtain ⟨y0, y1, n, ee, _, t0, t1⟩ := Go.ChangeShapes.trod_struct2 Tryz.underlying204 htr
    have ed : y0.1 = .lit (.int .i64 (lq.getD (i * 2) 0 : Nat)) ∧ y1.1 = .lit (.int .i64 (lq.getD (i * 2 + 1) 0 : Nat)) := by
      simp only [Prod.mk.injEq, DataW.agg.injEq, List.cons.injEq] at ee
      exact ⟨ee.1.1.symm, ee.1.2.1.symm⟩
    have F : ∀ (o : Nat) (y : DataW Unit × List MemPlace) (x : Nat), o < 2 → y.1 = .lit (.int .i64 (x : Int)) → DataW.trod (fun _ => ()) Tryz.prog W 0 (fun _ => true) false n 3 ((((cs.toList.drop (i * 2)).take 2).drop o).take 1) = some y → W.cell? ⟨0, i * 2 + o, none⟩ = some (.int .i64 (x : Int)) := fun o y x ho hy ht => by
      obtain ⟨y1, y2⟩ := y
      obtain ⟨z, e1, e2, _⟩ := DataW.trod_int Tryz.underlying3 ht
      have hy : y1 = .lit (.int .i64 (x : Int)) := hy
      subst hy
      have e3 : z = (x : Int) := by injection e2 with e2; injection e2 with e2; injection e2 with _ e2; exact e2.symm
      subst e3
      rw [World.var?_cell hg hv (i * 2 + o)]
      have := congrArg (·[0]?) e1
      simpa [List.getElem?_take, List.getElem?_drop, ho] using this
    rcases (show k = 0 ∨ k = 1 by omega) with rfl | rfl
    · exact F 0 y0 _ (by decide) ed.1 t0
    · exact F 1 y1 _ (by decide) ed.2 t1
  have hall : ∀ j, j < 4 → W.cell? ⟨0, j, none⟩ = some (.int .i64 (lq.getD j 0 : Nat)) := fun j hj => by
    have := hcell (j / 2) (by omega) (j % 2) (by omega)
    rwa [show j / 2 * 2 + j % 2 = j by omega] at this
  refine ⟨?_, hall⟩
  have h0 := hall 0 (by decide)
  rcases Nat.lt_or_ge 0 W.heap.size with h | h
  · exact h
  · rw [World.cell?] at h0; simp [Array.getElem?_eq_none (show W.heap.size ≤ 0 from h)] at h0
end
section
theorem gK : Tryz.prog.globalNamed "pestle/blake.quarters" = some 1 := by kernel_rfl
theorem tK : (Tryz.prog.globals[1]?).map (·.type) = some 227 := by kernel_rfl
theorem data_q : (Rows.laid_pestle_blake_quarters : DataW Unit) = .agg ((List.range 8).map fun i => .agg ((List.range 4).map fun k => .lit (.int .i64 (qq.getD (i * 4 + k) 0 : Nat)))) := rfl
theorem of_laidb {W : World} (h : laidMetH Tryz.prog laidK W) : QAt W := by
  rw [MakeChecks.laidMetH_plain _ _ _ (by kernel_rfl)] at h
  obtain ⟨g, t, cs, fuel, p, hg, ht, hv, hd⟩ := Lib.laidMet.reads h (.tail _ (.tail _ (.head _)))
  obtain rfl := Option.some.inj (gK.symm.trans hg)
  obtain rfl := Option.some.inj (tK.symm.trans ht)
  rw [data_q] at hd
  have hcell : ∀ i, i < 8 → ∀ k, k < 4 → W.cell? ⟨1, i * 4 + k, none⟩ = some (.int .i64 (qq.getD (i * 4 + k) 0 : Nat)) := fun i hi k hk => by
    obtain ⟨fuel', d, q, hds, htr⟩ := Lib.array_elem Tryz.underlying227 hd i hi
    rw [List.getElem?_map, List.getElem?_range hi] at hds
    simp only [Option.map_some, Option.some.injEq] at hds
    subst hds
    rw [cells_four] at htr
    obtain ⟨fuel2, d2, q2, hds2, htr2⟩ := Lib.array_elem Tryz.underlying188 htr k hk
    rw [List.getElem?_map, List.getElem?_range hk] at hds2
    simp only [Option.map_some, Option.some.injEq] at hds2
    subst hds2
    rw [cells_int] at htr2
    obtain ⟨z, e1, e2, _⟩ := DataW.trod_int Tryz.underlying3 htr2
    have e3 : z = ((qq.getD (i * 4 + k) 0 : Nat) : Int) := by injection e2 with e2; injection e2 with e2; injection e2 with _ e2; exact e2.symm
    subst e3
    have hc := World.var?_cell hg hv (i * 4 + k)
    rw [hc]
    have := congrArg (·[0]?) e1
    simpa [List.getElem?_take, List.getElem?_drop, hk] using this
  have hall : ∀ j, j < 32 → W.cell? ⟨1, j, none⟩ = some (.int .i64 (qq.getD j 0 : Nat)) := fun j hj => by
    have := hcell (j / 4) (by omega) (j % 4) (by omega)
    rwa [show j / 4 * 4 + j % 4 = j by omega] at this
  refine ⟨?_, hall⟩
  have h0 := hall 0 (by decide)
  rcases Nat.lt_or_ge 1 W.heap.size with h | h
  · exact h
  · rw [World.cell?] at h0; simp [Array.getElem?_eq_none (show W.heap.size ≤ 1 from h)] at h0
end
theorem of_laid {W : World} (h : laidMetH Tryz.prog laidK W) : TAt W := ⟨of_laidn h, of_laidl h⟩
theorem door_met (os : Os) (args : Array Value) : laidMetH Tryz.prog laidK ((World.doorLaid Tryz.prog 400 os).forCall (fun _ _ => 0) ⟨#[], args, []⟩).memory :=
  laidMetH_of_parts3 (fuel := 8) (laidMet_of_run' 8 (by kernel_rfl) (by kernel_rfl)) (by kernel_rfl) (by kernel_rfl)
end Go.Proofs.YtfoodaobiknihaaGreatDoor
