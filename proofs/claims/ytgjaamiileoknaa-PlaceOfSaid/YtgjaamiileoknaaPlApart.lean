/- apart and Settled of package place, of one block, by their contracts. Conditions: those typed. -/
import Derived.Test.YtgjaamiileoknaaPlPure
import Derived.Great.BuildSlice
namespace Go.Proofs.Ytgjaamiileoknaa
set_option maxRecDepth 50000
open Go.RowKit

theorem so_info : (Try.prog.info? 35).map (fun i => (i.zero, i.size, i.bytes)) = some (some (sov 0 0), 2, 16) := by kernel_rfl
theorem build_so (x y : Nat) (w : World) : (Instr.buildSlice 56 1 #[(0, sov x y)]).run Try.prog w = .ok (.slice (some ⟨w.heap.size, 0, none⟩) 1 1) (w.alloc (.cells (soc x y) 35)) := by
  obtain ⟨i, hi, hz, hs, hby⟩ := info_parts so_info
  refine run_buildSlice w _ _ 1 _ (soc x y) i _ Try.underlying56 hi hz (by rw [hs]; decide) (by rw [hs]; decide) ?_
  rw [hs]
  have e : (Value.agg (soc x y)).cells = soc x y := rfl
  have er : Array.range (1 * 2) = #[0, 1] := by decide
  simp only [Instr.fill, e, er]
  simp [Value.cells]
theorem op_made {P : Program} {o : Oper} {a : Act} {w w' : World} {Q : Exit → Act → World → Prop} {p : Value → World → Prop} {v : Value} (h : (execOp a.eval o).run P w = .ok (.value v) w') (hp : p v w') (hb : Below w.heap.size w w') : Does P p o a w Q := by
  unfold Does Oper.wp
  rw [h]
  exact ⟨v, rfl, hp, hb⟩
theorem build_so_run {w : World} {ev : Operand → Value} {u : Operand} {o : Oper} {x y : Nat} (hop : o.op = .buildSlice 56 1 #[(0, u)]) (hx : ev u = sov x y) : (execOp ev o).run Try.prog w = .ok (.value (.slice (some ⟨w.heap.size, 0, none⟩) 1 1)) (w.alloc (.cells (soc x y) 35)) := by
  simp only [execOp, hop, List.map_toArray, List.map_cons, List.map_nil, hx, Sem.run_bind, build_so x y w, Result.andThen_ok, Sem.run_pure]

set_option maxHeartbeats 3200000 in
theorem apart_any (k f u x y d : Nat) (h : x = k ∨ y < f ∨ u < y) (w : World) (hd : RowAt w d 35 (soc x y)) :
    Calls Try.prog 24 #[.int .i64 (k : Int), .int .i64 (f : Int), .int .i64 (u : Int), .slice (some ⟨d, 0, none⟩) 1 1] w fun e w' => e = .returned (.bool true) ∧ Below w.heap.size w w' := by
  have HD := Lib.hid hd
  have CW : Hid (¬ x = k → ∀ w, Calls Try.prog 26 #[.int .i64 (y : Int), .int .i64 (f : Int), .int .i64 (u : Int)] w fun e w' => e = .returned (.bool false) ∧ w = w') := Lib.hid fun hx => within_at (by simp [inB]; omega)
  clear hd h
  go_enter Try.func24, Try.ntmps24
  go_wp2
  go_loopw [13] (fun v13 wr => ∃ i : Nat, i ≤ 1 ∧ v13 = .int .i64 (i : Int) ∧ Below w.heap.size w wr) (fun v13 _ => 1 - (intOf v13).toNat)
  case atStart => exact ⟨0, by omega, rfl, Below.refl _ _⟩
  case round =>
    obtain ⟨i, hi, rfl, hb⟩ := hrel
    by_cases hlt : i < 1
    · obtain rfl : i = 0 := by omega
      have HL := so_load (HD.out.step hb)
      have HB := Lib.hid (hb.alloc hb.size (.cells (soc x y) 35))
      clear hb
      by_cases hx : x = k
      · subst hx
        clear CW
        go_wp2_with (refine wpList_load_want rfl 35 _ rfl _ _ rfl HL ?_)
        go_roundw
        case rel => exact ⟨1, by omega, by go_num, HB.out⟩
        case measure => simp [intOf]
      · have CW := Lib.hid (CW.out hx)
        have hxd : ((x : Int) == (k : Int)) = false := by simp; omega
        go_wp2_with (refine wpList_load_want rfl 35 _ rfl _ _ rfl HL ?_)
        refine (CW.out _).mono ?_
        rintro e w' ⟨rfl, rfl⟩
        go_wp2
        go_roundw
        case rel => exact ⟨1, by omega, by go_num, HB.out⟩
        case measure => simp [intOf]
    · obtain rfl : i = 1 := by omega
      go_wp2
      go_ret
      exact ⟨rfl, hb⟩
end Go.Proofs.Ytgjaamiileoknaa
