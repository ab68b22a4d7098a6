/- A turn that came in. No condition. -/
import Derived.Test.YtnbdmkgldjhcaaaDoorSpOpen
namespace Go.Proofs.YtnbdmkgldjhcaaaDoor
set_option maxRecDepth 50000
open Go.ChangeShapes Go.WideShapes Go.ChangeAt Go.RowKit

theorem tu_cellsOf : Tryd.prog.cellsOf 25 = 2 := by kernel_rfl
theorem open_tu {H : Type} {enc : TypeId × Value → H} {W : World} {r : Reach} {b0 base : Nat} {spare : Nat → Bool} {held : Bool} {v : Value} {d : DataW H} {ps : List MemPlace}
    (hval : Value.okWide Tryd.prog W r b0 25 v) (hd : DataW.Trod enc Tryd.prog W base spare held 25 v d ps) : ∃ p s : Int, v = tuv p s := by
  obtain ⟨cs, rfl, _⟩ : ∃ cs, v = .agg cs ∧ cs.size = Tryd.prog.cellsOf 25 ∧ Row.okWide Tryd.prog W r b0 25 cs := by
    have := hval
    simpa [Value.okWide, Tryd.underlying25] using this
  obtain ⟨fuel, hf⟩ := hd
  obtain ⟨xs, m, _, _, hl, hxl, hall⟩ := DataW.trod_struct Tryd.underlying25 hf
  rw [tu_cellsOf] at hl
  have hxl : xs.length = 2 := hxl
  have E : ∀ i : Nat, i < 2 → ∃ z : Int, (Value.cells (.agg cs)).toList[i]? = some (.int .i64 z) := fun i hi => by
    have e : DataW.trod enc Tryd.prog W base spare held m 3 (((Value.cells (.agg cs)).toList.drop i).take (Tryd.prog.cellsOf 3)) = xs[i]? := by
      rcases (show i = 0 ∨ i = 1 by omega) with rfl | rfl
      · exact hall 0 _ rfl
      · exact hall 1 _ rfl
    rw [int_cellsOf, List.getElem?_eq_getElem (by omega)] at e
    obtain ⟨z, c, _, _⟩ := DataW.trod_int Tryd.underlying3 e
    have := congrArg (fun l : List Value => l[0]?) c
    exact ⟨z, by simpa [List.getElem?_take, List.getElem?_drop] using this⟩
  obtain ⟨z0, g0⟩ := E 0 (by decide)
  obtain ⟨z1, g1⟩ := E 1 (by decide)
  refine ⟨z0, z1, ?_⟩
  have hcs : (Value.cells (.agg cs)).toList = [.int .i64 z0, .int .i64 z1] := by
    refine List.ext_getElem? fun i => ?_
    rcases (show i = 0 ∨ i = 1 ∨ 2 ≤ i by omega) with rfl | rfl | h
    · exact g0
    · exact g1
    · rw [List.getElem?_eq_none (by omega), List.getElem?_eq_none (by simp; omega)]
  have h2 : cs.toList = [.int .i64 z0, .int .i64 z1] := hcs
  show Value.agg cs = _
  rw [show cs = (cs.toList).toArray by simp, h2]
end Go.Proofs.YtnbdmkgldjhcaaaDoor
