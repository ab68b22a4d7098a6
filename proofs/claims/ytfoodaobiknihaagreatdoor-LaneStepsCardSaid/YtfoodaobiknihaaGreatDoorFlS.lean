/- Segment of package fill: a lane's blocks of a turn are filled, by its contract. Conditions: those typed. hollow and All of package fill: all blocks are filled, by their contracts. Conditions: those typed. The law's grid by its numbers, and chapter 32's example, by their contracts. Conditions: those typed. -/
import Derived.Test.YtfoodaobiknihaaGreatDoorFlY
namespace Go.Proofs.YtfoodaobiknihaaGreatDoor
set_option maxRecDepth 50000
open Go.RowKit Bb Bn
def SrcP (N a t l m b c g z p s k : Nat) : Value → World → Prop := fun v w => ∃ x, v = .pointer (some ⟨x, 0, none⟩) ∧ N ≤ x ∧ Src w x a t l m b c g z p s k
theorem stable_srcp (N a t l m b c g z p s k : Nat) : Stable (SrcP N a t l m b c g z p s k) := fun _ _ _ ⟨x, e, h, h2⟩ hb => ⟨x, e, h, h2.step hb⟩
theorem srcp_new (N a t l m b c g z p s k : Nat) (w : World) (hN : N ≤ w.heap.size) : Calls Tryz.prog 44 #[spv a t l m b c g z, tuv p s, .int .i64 (k : Int)] w fun e w' => ∃ v, e = .returned v ∧ SrcP N a t l m b c g z p s k v w' ∧ Below w.heap.size w w' := by
  refine (srnew_any a t l m b c g z p s k w).mono ?_
  rintro e w' ⟨x, rfl, hx, hs, hb⟩
  exact ⟨_, rfl, ⟨x, rfl, by omega, 0, zb, hs, by simp [zb], .inl rfl⟩, hb⟩
theorem step_agg (w : World) : (isAgg 98).run Tryz.prog w = .ok true w := by
  unfold isAgg
  rw [Sem.run_bind, run_underlying Tryz.underlying98 w]
  rfl
theorem stpc_load {w : World} {d : Nat} {k x k' y r c : Int} (h : RowAt w d 98 (stpc k x k' y r c)) : (loadVar 98 ⟨d, 0, none⟩).run Tryz.prog w = .ok (stpv k x k' y r c) w :=
  sub_load h step_agg step_size 0 (stpc k x k' y r c).toList rfl fun j v h => by simpa using h
theorem GrRow.segment {w : World} {q p a t l m b c g z : Nat} (H : GrRow w q p a t l m b c g z) : w.cell? ⟨q, 7, none⟩ = some (.int .i64 (g : Int)) := (RowAt.cell H 7).trans rfl
end Go.Proofs.YtfoodaobiknihaaGreatDoor

namespace Go.Proofs.YtfoodaobiknihaaGreatDoor
set_option maxRecDepth 50000
open Go.RowKit Bb Bn
end Go.Proofs.YtfoodaobiknihaaGreatDoor

namespace Go.Proofs.YtfoodaobiknihaaGreatDoor
set_option maxRecDepth 50000
open Go.RowKit Bb Bn
theorem made_sh (pa pt pm pl pz : Int) : (∀ w, Calls Tryz.prog 10 #[pav pa pt pm pl pz] w fun e w' => e = .returned (.pointer none) ∧ Below w.heap.size w w') ∨
    (∃ a t l m b c g z : Nat, Sh a t l b c g ∧ t ≤ 3 ∧ l ≤ 4 ∧ b ≤ 80 ∧ ∀ w, Calls Tryz.prog 10 #[pav pa pt pm pl pz] w fun e w' => ∃ q p h G, e = .returned (.pointer (some ⟨q, 0, none⟩)) ∧ GrAt w' q p h G a t l m b c g z (List.replicate b zb) ∧ w.heap.size ≤ G ∧ Below w.heap.size w w') := by
  cases hM : mayB pa pt pm pl pz with
  | false => exact .inl fun w => made_bad pa pt pm pl pz hM w
  | true =>
    obtain ⟨a, t, m, l, z, rfl, rfl, rfl, rfl, rfl, hO⟩ := may_nats hM
    obtain ⟨b, c, g, hg, hc, hb, hbm, hgm, CO⟩ := of_good hO
    obtain ⟨h1, h2, h3, h4, h5, h6, h7, h8, h9⟩ := hO
    cases hf : fewB t l b with
    | false => exact .inl fun w => made_many CO hf w
    | true =>
      have hf' := hf
      unfold fewB at hf'
      simp only [Bool.and_eq_true, decide_eq_true_eq] at hf'
      obtain ⟨f1, f2, f3⟩ := hf'
      have hcb : c ≤ b := by rw [hb]; exact Nat.le_mul_of_pos_left c h4
      have hgb : g ≤ c := by omega
      refine .inr ⟨a, t, l, m, b, c, g, z, ⟨h1, h2, h3, h4, by omega, hg, hc, by omega, hb⟩, f1, f2, f3, fun w => made_any CO hf ?_ (by omega) w⟩
      intro x hx
      simp only [List.mem_cons, List.not_mem_nil, or_false] at hx
      omega
theorem made_ex (w : World) : Calls Tryz.prog 10 #[pav 1 1 16 1 32] w fun e w' => ∃ q p h G, e = .returned (.pointer (some ⟨q, 0, none⟩)) ∧ GrAt w' q p h G 1 1 1 16 16 16 4 32 (List.replicate 16 zb) ∧ w.heap.size ≤ G ∧ Below w.heap.size w w' := by
  obtain ⟨b, c, g, hg, hc, hb, hbm, hgm, CO⟩ := of_good (a := 1) (t := 1) (m := 16) (l := 1) (z := 32) ⟨.inl rfl, by decide, by decide, by decide, by decide, by decide, by decide, by decide, by decide⟩
  obtain rfl : g = 4 := hgm
  obtain rfl : c = 16 := hc
  obtain rfl : b = 16 := by omega
  exact made_any CO rfl (by intro x hx; simp only [List.mem_cons, List.not_mem_nil, or_false] at hx; omega) (by decide) w
theorem col_build (w : World) (y : Int) : (Instr.build 30 #[(1, .int .i64 y)]).run Tryz.prog w = .ok (sov 0 y) w := by
  have h : ∀ y : Int, Tryz.prog.built 30 [(1, .int .i64 y)] = some (#[.int .i64 0, .int .i64 y]) := fun y => by kernel_rfl
  exact run_build w _ _ _ (h ..)
theorem col_run {w : World} {ev : Operand → Value} {o : Oper} {x : Operand} {y : Int} (hop : o.op = .build 30 #[(1, x)]) (hx : ev x = .int .i64 y) : (execOp ev o).run Tryz.prog w = .ok (.value (sov 0 y)) w := by
  simp only [execOp, hop, List.map_toArray, List.map_cons, List.map_nil, hx, Sem.run_bind, col_build, Result.andThen_ok, Sem.run_pure]
theorem spot_same (x y : Nat) (hx : x ≤ 140737488351232) (hy : y ≤ 140737488351232) (w : World) : (binOp .eql 30 (sov x y) (sov x y)).run Tryz.prog w = .ok (.bool true) w := by
  have h := so_eql x y x y hx hy hx hy w
  rwa [show decide (x = x ∧ y = y) = true by simp] at h
theorem ex_word : numW 1 1 16 16 4 (List.replicate 16 zb) 0 0 0 2 = 0 := by
  unfold numW
  rw [if_neg (by decide)]
  rfl
theorem ex_lane : ofL 1 0 0 0 0 = 0 := by decide
theorem ex_col : ofC 1 16 4 0 0 0 2 0 = 0 := by decide
end Go.Proofs.YtfoodaobiknihaaGreatDoor
