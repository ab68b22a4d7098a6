/- Parameters that came in. No condition. -/
import Derived.Test.YtpampgkhjcfeaaaDoorSp
namespace Go.Proofs.YtpampgkhjcfeaaaDoor
set_option maxRecDepth 50000
open Go.ChangeShapes Go.WideShapes Go.ChangeAt Go.RowKit

theorem pa_cellsOf : Tryd.prog.cellsOf 23 = 5 := by kernel_rfl
theorem int_cellsOf : Tryd.prog.cellsOf 3 = 1 := by kernel_rfl
theorem open_pa {H : Type} {enc : TypeId × Value → H} {W : World} {r : Reach} {b0 base : Nat} {spare : Nat → Bool} {held : Bool} {v : Value} {d : DataW H} {ps : List MemPlace}
    (hval : Value.okWide Tryd.prog W r b0 23 v) (hd : DataW.Trod enc Tryd.prog W base spare held 23 v d ps) : ∃ a t m l z : Int, v = pav a t m l z := by
  obtain ⟨cs, rfl, _⟩ : ∃ cs, v = .agg cs ∧ cs.size = Tryd.prog.cellsOf 23 ∧ Row.okWide Tryd.prog W r b0 23 cs := by
    have := hval
    simpa [Value.okWide, Tryd.underlying23] using this
  obtain ⟨fuel, hf⟩ := hd
  obtain ⟨xs, m, _, _, hl, hxl, hall⟩ := DataW.trod_struct Tryd.underlying23 hf
  rw [pa_cellsOf] at hl
  have hxl : xs.length = 5 := hxl
  have E : ∀ i : Nat, i < 5 → ∃ z : Int, (Value.cells (.agg cs)).toList[i]? = some (.int .i64 z) := fun i hi => by
    have e : DataW.trod enc Tryd.prog W base spare held m 3 (((Value.cells (.agg cs)).toList.drop i).take (Tryd.prog.cellsOf 3)) = xs[i]? := by
      rcases (show i = 0 ∨ i = 1 ∨ i = 2 ∨ i = 3 ∨ i = 4 by omega) with rfl | rfl | rfl | rfl | rfl
      · exact hall 0 _ rfl
      · exact hall 1 _ rfl
      · exact hall 2 _ rfl
      · exact hall 3 _ rfl
      · exact hall 4 _ rfl
    rw [int_cellsOf, List.getElem?_eq_getElem (by omega)] at e
    obtain ⟨z, c, _, _⟩ := DataW.trod_int Tryd.underlying3 e
    have := congrArg (fun l : List Value => l[0]?) c
    exact ⟨z, by simpa [List.getElem?_take, List.getElem?_drop] using this⟩
  obtain ⟨z0, g0⟩ := E 0 (by decide)
  obtain ⟨z1, g1⟩ := E 1 (by decide)
  obtain ⟨z2, g2⟩ := E 2 (by decide)
  obtain ⟨z3, g3⟩ := E 3 (by decide)
  obtain ⟨z4, g4⟩ := E 4 (by decide)
  refine ⟨z0, z1, z2, z3, z4, ?_⟩
  have hcs : (Value.cells (.agg cs)).toList = [.int .i64 z0, .int .i64 z1, .int .i64 z2, .int .i64 z3, .int .i64 z4] := by
    refine List.ext_getElem? fun i => ?_
    rcases (show i = 0 ∨ i = 1 ∨ i = 2 ∨ i = 3 ∨ i = 4 ∨ 5 ≤ i by omega) with rfl | rfl | rfl | rfl | rfl | h
    · exact g0
    · exact g1
    · exact g2
    · exact g3
    · exact g4
    · rw [List.getElem?_eq_none (by omega), List.getElem?_eq_none (by simp; omega)]
  have h2 : cs.toList = [.int .i64 z0, .int .i64 z1, .int .i64 z2, .int .i64 z3, .int .i64 z4] := hcs
  show Value.agg cs = _
  rw [show cs = (cs.toList).toArray by simp, h2]
end Go.Proofs.YtpampgkhjcfeaaaDoor
