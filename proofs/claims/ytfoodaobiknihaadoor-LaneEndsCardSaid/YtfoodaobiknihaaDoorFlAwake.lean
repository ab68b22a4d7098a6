/- The law's grid by its numbers, and chapter 32's example, by their contracts. Conditions: those typed. -/
import Derived.Test.YtfoodaobiknihaaDoorFlAll
namespace Go.Proofs.YtfoodaobiknihaaDoor
set_option maxRecDepth 50000
open Go.RowKit Bb Bn

/-- the law's grid: none, or of few blocks -/
theorem made_sh (pa pt pm pl pz : Int) : (∀ w, Calls Tryd.prog 5 #[pav pa pt pm pl pz] w fun e w' => e = .returned (.pointer none) ∧ Below w.heap.size w w') ∨
    (∃ a t l m b c g z : Nat, Sh a t l b c g ∧ t ≤ 3 ∧ l ≤ 4 ∧ b ≤ 80 ∧ ∀ w, Calls Tryd.prog 5 #[pav pa pt pm pl pz] w fun e w' => ∃ q p h G, e = .returned (.pointer (some ⟨q, 0, none⟩)) ∧ GrAt w' q p h G a t l m b c g z (List.replicate b zb) ∧ w.heap.size ≤ G ∧ Below w.heap.size w w') := by
  cases hM : mayB pa pt pm pl pz with
  | false => exact .inl fun w => made_bad pa pt pm pl pz hM w
  | true =>
    obtain ⟨a, t, m, l, z, rfl, rfl, rfl, rfl, rfl, hO⟩ := may_nats hM
    obtain ⟨b, c, g, hg, hc, hb, hbm, hgm, CO⟩ := of_good hO
    obtain ⟨h1, h2, h3, h4, h5, h6, h7, h8, h9⟩ := hO
    cases hf : fewB t l b with
    | false => exact .inl fun w => made_many CO hf w
    | true =>
      have hf' := hf
      unfold fewB at hf'
      simp only [Bool.and_eq_true, decide_eq_true_eq] at hf'
      obtain ⟨f1, f2, f3⟩ := hf'
      have hcb : c ≤ b := by rw [hb]; exact Nat.le_mul_of_pos_left c h4
      have hgb : g ≤ c := by omega
      refine .inr ⟨a, t, l, m, b, c, g, z, ⟨h1, h2, h3, h4, by omega, hg, hc, by omega, hb⟩, f1, f2, f3, fun w => made_any CO hf ?_ (by omega) w⟩
      intro x hx
      simp only [List.mem_cons, List.not_mem_nil, or_false] at hx
      omega
theorem made_ex (w : World) : Calls Tryd.prog 5 #[pav 1 1 16 1 32] w fun e w' => ∃ q p h G, e = .returned (.pointer (some ⟨q, 0, none⟩)) ∧ GrAt w' q p h G 1 1 1 16 16 16 4 32 (List.replicate 16 zb) ∧ w.heap.size ≤ G ∧ Below w.heap.size w w' := by
  obtain ⟨b, c, g, hg, hc, hb, hbm, hgm, CO⟩ := of_good (a := 1) (t := 1) (m := 16) (l := 1) (z := 32) ⟨.inl rfl, by decide, by decide, by decide, by decide, by decide, by decide, by decide, by decide⟩
  obtain rfl : g = 4 := hgm
  obtain rfl : c = 16 := hc
  obtain rfl : b = 16 := by omega
  exact made_any CO rfl (by intro x hx; simp only [List.mem_cons, List.not_mem_nil, or_false] at hx; omega) (by decide) w

theorem turn_none (w : World) : (Instr.build 40 #[]).run Tryd.prog w = .ok (tuv 0 0) w := run_build w _ _ _ (by kernel_rfl)
theorem turn_none_run {w : World} {ev : Operand → Value} {o : Oper} (hop : o.op = .build 40 #[]) : (execOp ev o).run Tryd.prog w = .ok (.value (tuv 0 0)) w := by
  simp only [execOp, hop, List.map_toArray, List.map_nil, Sem.run_bind, turn_none, Result.andThen_ok, Sem.run_pure]
theorem col_build (w : World) (y : Int) : (Instr.build 42 #[(1, .int .i64 y)]).run Tryd.prog w = .ok (sov 0 y) w := by
  have h : ∀ y : Int, Tryd.prog.built 42 [(1, .int .i64 y)] = some (#[.int .i64 0, .int .i64 y]) := fun y => by kernel_rfl
  exact run_build w _ _ _ (h ..)
theorem col_run {w : World} {ev : Operand → Value} {o : Oper} {x : Operand} {y : Int} (hop : o.op = .build 42 #[(1, x)]) (hx : ev x = .int .i64 y) : (execOp ev o).run Tryd.prog w = .ok (.value (sov 0 y)) w := by
  simp only [execOp, hop, List.map_toArray, List.map_cons, List.map_nil, hx, Sem.run_bind, col_build, Result.andThen_ok, Sem.run_pure]
theorem spot_none (w : World) : (Instr.build 42 #[]).run Tryd.prog w = .ok (sov 0 0) w := run_build w _ _ _ (by kernel_rfl)
theorem spot_none_run {w : World} {ev : Operand → Value} {o : Oper} (hop : o.op = .build 42 #[]) : (execOp ev o).run Tryd.prog w = .ok (.value (sov 0 0)) w := by
  simp only [execOp, hop, List.map_toArray, List.map_nil, Sem.run_bind, spot_none, Result.andThen_ok, Sem.run_pure]
theorem spot_same (x y : Nat) (hx : x ≤ 140737488351232) (hy : y ≤ 140737488351232) (w : World) : (binOp .eql 42 (sov x y) (sov x y)).run Tryd.prog w = .ok (.bool true) w := by
  have h := so_eql x y x y hx hy hx hy w
  rwa [show decide (x = x ∧ y = y) = true by simp] at h
theorem spot_still (x y : Nat) (hx : x ≤ 140737488351232) (hy : y ≤ 140737488351232) (w : World) : (binOp .neq 42 (sov x y) (sov x y)).run Tryd.prog w = .ok (.bool false) w := by
  have h := so_equal x y x y hx hy hx hy w
  rw [show decide (x = x ∧ y = y) = true by simp] at h
  rw [run_neq_struct]
  exact (congrArg (fun r => Result.andThen r _) h).trans rfl
theorem ex_word : numW 1 1 16 16 4 (List.replicate 16 zb) 0 0 0 2 = 0 := by
  unfold numW
  rw [if_neg (by decide)]
  rfl
theorem ex_lane : ofL 1 0 0 0 0 = 0 := by decide
theorem ex_col : ofC 1 16 4 0 0 0 2 0 = 0 := by decide

end Go.Proofs.YtfoodaobiknihaaDoor
