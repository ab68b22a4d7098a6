/- Inputs that came in: four texts, each no longer than what may come in. No condition. What the rows tell of the packages' tables, blend's two and blake's: their cells lie at their places. No condition. -/
import Derived.Test.YtcbccjcnllifjaaGreatDoorAgS
import Derived.Lib.SmallJoins
import Derived.Test.YtcbccjcnllifjaaGreatDoorBnl
import Derived.Test.YtcbccjcnllifjaaGreatDoorBx
import Derived.LaidMore
import Derived.Lib.LaidU8
import Derived.Stop.Joined
namespace Go.Proofs.YtcbccjcnllifjaaGreatDoor
set_option maxRecDepth 50000
open Go.ChangeShapes Go.WideShapes Go.ChangeAt Go.RowKit
theorem in_cellsOf : Tryz.prog.cellsOf 25 = 4 := by kernel_rfl
theorem str_cellsOf : Tryz.prog.cellsOf 9 = 1 := by kernel_rfl
theorem open_in {H : Type} {enc : TypeId × Value → H} {W : World} {r : Reach} {b0 base : Nat} {spare : Nat → Bool} {held : Bool} {v : Value} {d : DataW H} {ps : List MemPlace}
    (hval : Value.okWide Tryz.prog W r b0 25 v) (hd : DataW.Trod enc Tryz.prog W base spare held 25 v d ps)
    {ts : List TypeId} {ds : List (DataW H)} {j : Nat} (hz : (DataW.weightsEach Tryz.prog ts ds).all (· ≤ reachBytes) = true) (hj : ts[j]? = some 25) (hdj : ds[j]? = some d) :
    ∃ s1 s2 s3 s4 : ByteArray, v = inv s1 s2 s3 s4 ∧ s1.size ≤ 140737488351232 ∧ s2.size ≤ 140737488351232 ∧ s3.size ≤ 140737488351232 ∧ s4.size ≤ 140737488351232 := by
  obtain ⟨cs, rfl, _⟩ : ∃ cs, v = .agg cs ∧ cs.size = Tryz.prog.cellsOf 25 ∧ Row.okWide Tryz.prog W r b0 25 cs := by
    have := hval
    simpa [Value.okWide, Tryz.underlying25] using this
  obtain ⟨fuel, hf⟩ := hd
  obtain ⟨y0, y1, y2, y3, n, hx, hl, t0, t1, t2, t3⟩ := _root_.Go.Joins.trod_struct4 Tryz.underlying25 hf
  obtain ⟨s1, c1, rfl, _⟩ := DataW.trod_string Tryz.underlying9 t0
  obtain ⟨s2, c2, rfl, _⟩ := DataW.trod_string Tryz.underlying9 t1
  obtain ⟨s3, c3, rfl, _⟩ := DataW.trod_string Tryz.underlying9 t2
  obtain ⟨s4, c4, rfl, _⟩ := DataW.trod_string Tryz.underlying9 t3
  rw [in_cellsOf] at hl
  simp only [str_cellsOf] at c1 c2 c3 c4
  have hcs : (Value.cells (.agg cs)).toList = [.string s1, .string s2, .string s3, .string s4] := by
    refine List.ext_getElem? fun i => ?_
    have E : ∀ (k : Nat) (u : Value), (((Value.cells (.agg cs)).toList.drop k).take 1) = [u] → (Value.cells (.agg cs)).toList[k]? = some u := fun k u h => by
      have := congrArg (fun l : List Value => l[0]?) h
      simpa [List.getElem?_take, List.getElem?_drop] using this
    rcases (show i = 0 ∨ i = 1 ∨ i = 2 ∨ i = 3 ∨ 4 ≤ i by omega) with rfl | rfl | rfl | rfl | h
    · exact E 0 _ c1
    · exact E 1 _ c2
    · exact E 2 _ c3
    · exact E 3 _ c4
    · rw [List.getElem?_eq_none (by omega), List.getElem?_eq_none (by simp; omega)]
  have hd : d = .agg [.lit (.string s1.data.toList), .lit (.string s2.data.toList), .lit (.string s3.data.toList), .lit (.string s4.data.toList)] := (Prod.mk.injEq .. ▸ hx).1
  have W0 : ∀ s : ByteArray, s.data.toList.length ∈ DataW.weights Tryz.prog 25 d → s.size ≤ 140737488351232 := fun s hm => by
    have h2 := DataW.weights_mem_each (P := Tryz.prog) hj hdj s.data.toList.length hm
    have h3 := of_decide_eq_true (List.all_eq_true.1 hz _ h2)
    have h4 : s.data.toList.length = s.size := by rw [Array.length_toList]; rfl
    rw [h4] at h3
    simpa [reachBytes] using h3
  have hw : DataW.weights Tryz.prog 25 d = [s1.data.toList.length, s2.data.toList.length, s3.data.toList.length, s4.data.toList.length] := by
    rw [hd]
    simp only [DataW.weights, Tryz.underlying25]
    rfl
  refine ⟨s1, s2, s3, s4, ?_, W0 s1 (by rw [hw]; simp), W0 s2 (by rw [hw]; simp), W0 s3 (by rw [hw]; simp), W0 s4 (by rw [hw]; simp)⟩
  have h2 : cs.toList = [.string s1, .string s2, .string s3, .string s4] := hcs
  show Value.agg cs = _
  rw [show cs = (cs.toList).toArray by simp, h2]
end Go.Proofs.YtcbccjcnllifjaaGreatDoor
namespace Go.Proofs.YtcbccjcnllifjaaGreatDoor
set_option maxRecDepth 50000
open Go.RowKit Go.ChangeAt
def laidK : List (String × DataW Unit) := [("pestle/blend.quarters", Rows.laid_pestle_blend_quarters), ("pestle/blend.layouts", Rows.laid_pestle_blend_layouts), ("pestle/blake.quarters", Rows.laid_pestle_blake_quarters)]
section
open Bn
theorem gKn : Tryz.prog.globalNamed "pestle/blend.quarters" = some 2 := by kernel_rfl
theorem tKn : (Tryz.prog.globals[2]?).map (·.type) = some 191 := by kernel_rfl
theorem cells_four : Tryz.prog.cellsOf 152 = 4 := by kernel_rfl
theorem cells_int : Tryz.prog.cellsOf 3 = 1 := by kernel_rfl
theorem data_n : (Rows.laid_pestle_blend_quarters : DataW Unit) = .agg ((List.range 8).map fun i => .agg ((List.range 4).map fun k => .lit (.int .i64 (qq.getD (i * 4 + k) 0 : Nat)))) := rfl
theorem of_laidn {W : World} (h : laidMetH Tryz.prog laidK W) : QAtN W := by
  rw [MakeChecks.laidMetH_plain _ _ _ (by kernel_rfl)] at h
  obtain ⟨g, t, cs, fuel, p, hg, ht, hv, hd⟩ := Lib.laidMet.reads h (.head _)
  obtain rfl := Option.some.inj (gKn.symm.trans hg)
  obtain rfl := Option.some.inj (tKn.symm.trans ht)
  rw [data_n] at hd
  have hcell : ∀ i, i < 8 → ∀ k, k < 4 → W.cell? ⟨2, i * 4 + k, none⟩ = some (.int .i64 (qq.getD (i * 4 + k) 0 : Nat)) := fun i hi k hk => by
    obtain ⟨fuel', d, q, hds, htr⟩ := Lib.array_elem Tryz.underlying191 hd i hi
    rw [List.getElem?_map, List.getElem?_range hi] at hds
    simp only [Option.map_some, Option.some.injEq] at hds
    subst hds
    rw [cells_four] at htr
    obtain ⟨fuel2, d2, q2, hds2, htr2⟩ := Lib.array_elem Tryz.underlying152 htr k hk
    rw [List.getElem?_map, List.getElem?_range hk] at hds2
    simp only [Option.map_some, Option.some.injEq] at hds2
    subst hds2
    rw [cells_int] at htr2
    obtain ⟨z, e1, e2, _⟩ := DataW.trod_int Tryz.underlying3 htr2
    have e3 : z = ((qq.getD (i * 4 + k) 0 : Nat) : Int) := by injection e2 with e2; injection e2 with e2; injection e2 with _ e2; exact e2.symm
    subst e3
    have hc := World.var?_cell hg hv (i * 4 + k)
    rw [hc]
    have := congrArg (·[0]?) e1
    simpa [List.getElem?_take, List.getElem?_drop, hk] using this
  have hall : ∀ j, j < 32 → W.cell? ⟨2, j, none⟩ = some (.int .i64 (qq.getD j 0 : Nat)) := fun j hj => by
    have := hcell (j / 4) (by omega) (j % 4) (by omega)
    rwa [show j / 4 * 4 + j % 4 = j by omega] at this
  refine ⟨?_, hall⟩
  have h0 := hall 0 (by decide)
  rcases Nat.lt_or_ge 2 W.heap.size with h | h
  · exact h
  · rw [World.cell?] at h0; simp [Array.getElem?_eq_none (show W.heap.size ≤ 2 from h)] at h0
end
section
theorem gKl : Tryz.prog.globalNamed "pestle/blend.layouts" = some 1 := by kernel_rfl
theorem tKl : (Tryz.prog.globals[1]?).map (·.type) = some 236 := by kernel_rfl
theorem cells_lay : Tryz.prog.cellsOf 235 = 2 := by kernel_rfl
theorem data_l : (Rows.laid_pestle_blend_layouts : DataW Unit) = .agg ((List.range 2).map fun i => .agg [.lit (.int .i64 (lq.getD (i * 2) 0 : Nat)), .lit (.int .i64 (lq.getD (i * 2 + 1) 0 : Nat))]) := rfl
theorem of_laidl {W : World} (h : laidMetH Tryz.prog laidK W) : LAt W := by
  rw [MakeChecks.laidMetH_plain _ _ _ (by kernel_rfl)] at h
  obtain ⟨g, t, cs, fuel, p, hg, ht, hv, hd⟩ := Lib.laidMet.reads h (.tail _ (.head _))
  obtain rfl := Option.some.inj (gKl.symm.trans hg)
  obtain rfl := Option.some.inj (tKl.symm.trans ht)
  rw [data_l] at hd
  have hcell : ∀ i, i < 2 → ∀ k, k < 2 → W.cell? ⟨1, i * 2 + k, none⟩ = some (.int .i64 (lq.getD (i * 2 + k) 0 : Nat)) := fun i hi k hk => by
    obtain ⟨fuel', d, q, hds, htr⟩ := Lib.array_elem Tryz.underlying236 hd i hi
    rw [List.getElem?_map, List.getElem?_range hi] at hds
    simp only [Option.map_some, Option.some.injEq] at hds
    subst hds
    rw [cells_lay] at htr
    obtain ⟨y0, y1, n, ee, _, t0, t1⟩ := Go.ChangeShapes.trod_struct2 Tryz.underlying235 htr
    have ed : y0.1 = .lit (.int .i64 (lq.getD (i * 2) 0 : Nat)) ∧ y1.1 = .lit (.int .i64 (lq.getD (i * 2 + 1) 0 : Nat)) := by
      simp only [Prod.mk.injEq, DataW.agg.injEq, List.cons.injEq] at ee
      exact ⟨ee.1.1.symm, ee.1.2.1.symm⟩
    have F : ∀ (o : Nat) (y : DataW Unit × List MemPlace) (x : Nat), o < 2 → y.1 = .lit (.int .i64 (x : Int)) → DataW.trod (fun _ => ()) Tryz.prog W 0 (fun _ => true) false n 3 ((((cs.toList.drop (i * 2)).take 2).drop o).take 1) = some y → W.cell? ⟨1, i * 2 + o, none⟩ = some (.int .i64 (x : Int)) := fun o y x ho hy ht => by
      obtain ⟨y1, y2⟩ := y
      obtain ⟨z, e1, e2, _⟩ := DataW.trod_int Tryz.underlying3 ht
      have hy : y1 = .lit (.int .i64 (x : Int)) := hy
      subst hy
      have e3 : z = (x : Int) := by injection e2 with e2; injection e2 with e2; injection e2 with _ e2; exact e2.symm
      subst e3
      rw [World.var?_cell hg hv (i * 2 + o)]
      have := congrArg (·[0]?) e1
      simpa [List.getElem?_take, List.getElem?_drop, ho] using this
    rcases (show k = 0 ∨ k = 1 by omega) with rfl | rfl
    · exact F 0 y0 _ (by decide) ed.1 t0
    · exact F 1 y1 _ (by decide) ed.2 t1
  have hall : ∀ j, j < 4 → W.cell? ⟨1, j, none⟩ = some (.int .i64 (lq.getD j 0 : Nat)) := fun j hj => by
    have := hcell (j / 2) (by omega) (j % 2) (by omega)
    rwa [show j / 2 * 2 + j % 2 = j by omega] at this
  refine ⟨?_, hall⟩
  have h0 := hall 0 (by decide)
  rcases Nat.lt_or_ge 1 W.heap.size with h | h
  · exact h
  · rw [World.cell?] at h0; simp [Array.getElem?_eq_none (show W.heap.size ≤ 1 from h)] at h0
end
section
theorem gK : Tryz.prog.globalNamed "pestle/blake.quarters" = some 0 := by kernel_rfl
theorem tK : (Tryz.prog.globals[0]?).map (·.type) = some 191 := by kernel_rfl
theorem data_q : (Rows.laid_pestle_blake_quarters : DataW Unit) = .agg ((List.range 8).map fun i => .agg ((List.range 4).map fun k => .lit (.int .i64 (qq.getD (i * 4 + k) 0 : Nat)))) := rfl
theorem of_laidb {W : World} (h : laidMetH Tryz.prog laidK W) : QAt W := by
  rw [MakeChecks.laidMetH_plain _ _ _ (by kernel_rfl)] at h
  obtain ⟨g, t, cs, fuel, p, hg, ht, hv, hd⟩ := Lib.laidMet.reads h (.tail _ (.tail _ (.head _)))
  obtain rfl := Option.some.inj (gK.symm.trans hg)
  obtain rfl := Option.some.inj (tK.symm.trans ht)
  rw [data_q] at hd
  have hcell : ∀ i, i < 8 → ∀ k, k < 4 → W.cell? ⟨0, i * 4 + k, none⟩ = some (.int .i64 (qq.getD (i * 4 + k) 0 : Nat)) := fun i hi k hk => by
    obtain ⟨fuel', d, q, hds, htr⟩ := Lib.array_elem Tryz.underlying191 hd i hi
    rw [List.getElem?_map, List.getElem?_range hi] at hds
    simp only [Option.map_some, Option.some.injEq] at hds
    subst hds
    rw [cells_four] at htr
    obtain ⟨fuel2, d2, q2, hds2, htr2⟩ := Lib.array_elem Tryz.underlying152 htr k hk
    rw [List.getElem?_map, List.getElem?_range hk] at hds2
    simp only [Option.map_some, Option.some.injEq] at hds2
    subst hds2
    rw [cells_int] at htr2
    obtain ⟨z, e1, e2, _⟩ := DataW.trod_int Tryz.underlying3 htr2
    have e3 : z = ((qq.getD (i * 4 + k) 0 : Nat) : Int) := by injection e2 with e2; injection e2 with e2; injection e2 with _ e2; exact e2.symm
    subst e3
    have hc := World.var?_cell hg hv (i * 4 + k)
    rw [hc]
    have := congrArg (·[0]?) e1
    simpa [List.getElem?_take, List.getElem?_drop, hk] using this
  have hall : ∀ j, j < 32 → W.cell? ⟨0, j, none⟩ = some (.int .i64 (qq.getD j 0 : Nat)) := fun j hj => by
    have := hcell (j / 4) (by omega) (j % 4) (by omega)
    rwa [show j / 4 * 4 + j % 4 = j by omega] at this
  refine ⟨?_, hall⟩
  have h0 := hall 0 (by decide)
  rcases Nat.lt_or_ge 0 W.heap.size with h | h
  · exact h
  · rw [World.cell?] at h0; simp [Array.getElem?_eq_none (show W.heap.size ≤ 0 from h)] at h0
end
theorem of_laid {W : World} (h : laidMetH Tryz.prog laidK W) : TAt W := ⟨of_laidn h, of_laidl h⟩
theorem door_met (os : Os) (args : Array Value) : laidMetH Tryz.prog laidK ((World.doorLaid Tryz.prog 400 os).forCall (fun _ _ => 0) ⟨#[], args, []⟩).memory :=
  laidMetH_of_parts3 (fuel := 8) (laidMet_of_run' 8 (by kernel_rfl) (by kernel_rfl)) (by kernel_rfl) (by kernel_rfl)
end Go.Proofs.YtcbccjcnllifjaaGreatDoor
