/- What a grid that is none answers; the ways in which the law's grid is made; a block that begins with a word. Conditions: those typed. -/
import Derived.Test.YtpampgkhjcfeaaaDoorGdActs
namespace Go.Proofs.YtpampgkhjcfeaaaDoor
set_option maxRecDepth 50000
open Go.RowKit Bb

theorem last_nil (w : World) : Calls Tryd.prog 7 #[.pointer none] w fun e w' => e = .returned (.tuple #[.agg (wq zb), .int .i64 11]) ∧ Below w.heap.size w w' := by
  have hz := zero_b
  have HR := Lib.hid (RowAt.new w 29 (wq zb))
  go_enter Tryd.func7, Tryd.ntmps7
  go_wp2_with (first
    | refine wpList_value_want rfl _ (bbuild_run _ _ rfl) ?_
    | refine wpList_store_row rfl 29 (.tmp 2) (.tmp 10) rfl w.heap.size (wq zb) rfl rfl 29 _ HR.out b_size rfl (wq_one _) ?_)
  have hR := RowAt.setRow HR.out (wq zb)
  refine bodyPost_ret (results_row_tmp rfl _ (p := 2) rfl hR Tryd.underlying29 rfl b_size) rfl ⟨rfl, ?_⟩
  exact below_setRow ((Below.refl _ _).alloc (Nat.le_refl _) _) (Nat.le_refl _) _
theorem begin_nil (s : ByteArray) (w : World) : Calls Tryd.prog 10 #[.pointer none, .string s] w fun e w' => e = .returned (.int .i64 11) ∧ Below w.heap.size w w' := by
  go_enter Tryd.func10, Tryd.ntmps10
  go_wp2
  go_ret
  exact ⟨rfl, Below.refl _ _⟩
/-- a block's variable that is made, and set -/
theorem set_new (w : World) {x : List Nat} (hx : x.length = 128) : (storeVar 29 ⟨w.heap.size, 0, none⟩ (.agg (wq x))).run Tryd.prog (w.alloc (.cells (wq zb) 29)) = .ok () ((w.alloc (.cells (wq zb) 29)).setRow w.heap.size (wq x)) :=
  (RowAt.new w 29 (wq zb)).store (C' := wq x) (by rw [wq_size, hx]; exact b_size) (by rw [wq_size, wq_size, hx]; exact zb_ok.1) (wq_one _)
theorem set_below (w : World) (x : List Nat) : Below w.heap.size w ((w.alloc (.cells (wq zb) 29)).setRow w.heap.size (wq x)) := below_setRow ((Below.refl _ _).alloc (Nat.le_refl _) _) (Nat.le_refl _) _
theorem tag_nil (w : World) : Calls Tryd.prog 8 #[.pointer none] w fun e w' => e = .returned (.tuple #[.string ⟨#[]⟩, .int .i64 11]) ∧ Below w.heap.size w w' := by
  have hz := zero_b
  have C := Lib.hid (last_nil w)
  go_enter Tryd.func8, Tryd.ntmps8
  go_wp2_with fail
  refine C.out.mono ?_
  rintro e w1 ⟨rfl, hb⟩
  have HB := Lib.hid (below_step hb (set_below w1 zb))
  clear hb C
  go_wp2_with (refine wpList_store_of rfl _ _ _ rfl ⟨w1.heap.size, 0, none⟩ _ rfl rfl (set_new w1 zb_ok.1) ?_)
  exact bodyPost_ret (results_tmp2 rfl _ _ _) rfl ⟨rfl, HB.out⟩

/-- the numbers of a grid that the law makes -/
structure Few (l b c z : Nat) : Prop where
  l0 : 0 < l
  l4 : l ≤ 4
  c8 : 8 ≤ c
  c80 : c ≤ 80
  b80 : b ≤ 80
  bl : b = l * c
  z4 : 4 ≤ z
  z1024 : z ≤ 1024
theorem made_ways (pa pt pm pl pz : Int) : (∀ w, Calls Tryd.prog 11 #[pav pa pt pm pl pz] w fun e w' => e = .returned (.pointer none) ∧ Below w.heap.size w w') ∨
    (∃ a t l m b c g z : Nat, Few l b c z ∧ ∀ w, Calls Tryd.prog 11 #[pav pa pt pm pl pz] w fun e w' => ∃ q p h G, e = .returned (.pointer (some ⟨q, 0, none⟩)) ∧ GrAt w' q p h G a t l m b c g z (List.replicate b zb) ∧ w.heap.size ≤ G ∧ Below w.heap.size w w') := by
  cases hM : mayB pa pt pm pl pz with
  | false => exact .inl fun w => made_bad pa pt pm pl pz hM w
  | true =>
    obtain ⟨a, t, m, l, z, rfl, rfl, rfl, rfl, rfl, hO⟩ := may_nats hM
    obtain ⟨b, c, g, hg, hc, hb, hbm, hgm, CO⟩ := of_good hO
    obtain ⟨h1, h2, h3, h4, h5, h6, h7, h8, h9⟩ := hO
    cases hf : fewB t l b with
    | false => exact .inl fun w => made_many CO hf w
    | true =>
      have hf' := hf
      unfold fewB at hf'
      simp only [Bool.and_eq_true, decide_eq_true_eq] at hf'
      obtain ⟨f1, f2, f3⟩ := hf'
      have hcb : c ≤ b := by rw [hb]; exact Nat.le_mul_of_pos_left c h4
      have hgb : g ≤ c := by omega
      refine .inr ⟨a, t, l, m, b, c, g, z, ⟨h4, f2, by omega, by omega, f3, hb, h8, h9⟩, fun w => made_any CO hf ?_ (by omega) w⟩
      intro x hx
      simp only [List.mem_cons, List.not_mem_nil, or_false] at hx
      omega

/-- a block that begins with a word -/
def ob (u : Nat) : List Nat := u :: List.replicate 127 0
theorem ob_ok {u : Nat} (h : u < 18446744073709551616) : okb (ob u) := ⟨by simp [ob], fun x hx => by
  rcases List.mem_cons.1 hx with rfl | hx
  · exact h
  · rw [List.eq_of_mem_replicate hx]; decide⟩
theorem ob_build (w : World) (u : Nat) : (Instr.build 29 #[(0, .int .u64 (u : Int))]).run Tryd.prog w = .ok (.agg (wq (ob u))) w := by
  have h : ∀ p : Nat, Tryd.prog.built 29 [(0, .int .u64 (p : Int))] = some (wq (p :: List.replicate 127 0)) := fun p => by kernel_rfl
  exact run_build w _ _ _ (h u)
theorem ob_run {w : World} {ev : Operand → Value} {o : Oper} {x0 : Operand} {u : Nat} (hop : o.op = .build 29 #[(0, x0)]) (h0 : ev x0 = .int .u64 (u : Int)) : (execOp ev o).run Tryd.prog w = .ok (.value (.agg (wq (ob u)))) w := by
  simp only [execOp, hop, List.map_toArray, List.map_cons, List.map_nil, h0, Sem.run_bind, ob_build, Result.andThen_ok, Sem.run_pure]
end Go.Proofs.YtpampgkhjcfeaaaDoor
