/- Sources of addresses, by their contracts. Conditions: those typed. -/
import Derived.Test.YtfoodaobiknihaaGreatDoorAdRef
namespace Go.Proofs.YtfoodaobiknihaaGreatDoor
set_option maxRecDepth 50000
open Go.RowKit Bb Bn
def scc (a t l m b c g z : Nat) (p s k : Int) (n : Nat) (v : List Nat) : Array Value := #[.int .i64 (a : Int), .int .i64 (t : Int), .int .i64 (l : Int), .int .i64 (m : Int), .int .i64 (b : Int), .int .i64 (c : Int), .int .i64 (g : Int), .int .i64 (z : Int), .int .i64 p, .int .i64 s, .int .i64 k, .int .i64 (n : Int)] ++ wq v
theorem scc_size (a t l m b c g z : Nat) (p s k : Int) (n : Nat) {v : List Nat} (hv : v.length = 128) : (scc a t l m b c g z p s k n v).size = 140 := by
  simp [scc, wq_size, hv]
theorem scc_head (a t l m b c g z : Nat) (p s k : Int) (n : Nat) (v : List Nat) (i : Nat) (hi : i < 12) : (scc a t l m b c g z p s k n v)[i]? = (#[.int .i64 (a : Int), .int .i64 (t : Int), .int .i64 (l : Int), .int .i64 (m : Int), .int .i64 (b : Int), .int .i64 (c : Int), .int .i64 (g : Int), .int .i64 (z : Int), .int .i64 p, .int .i64 s, .int .i64 k, .int .i64 (n : Int)] : Array Value)[i]? := by
  unfold scc
  rw [Array.getElem?_append_left (by simpa using hi)]
theorem scc_tail (a t l m b c g z : Nat) (p s k : Int) (n : Nat) (v : List Nat) (i : Nat) : (scc a t l m b c g z p s k n v)[12 + i]? = (wq v)[i]? := by
  unfold scc
  rw [Array.getElem?_append_right (by simp)]
  simp
theorem scc_setN (a t l m b c g z : Nat) (p s k : Int) (n n' : Nat) (v : List Nat) : (scc a t l m b c g z p s k n v).setIfInBounds 11 (.int .i64 (n' : Int)) = scc a t l m b c g z p s k n' v := by
  unfold scc
  rw [Array.setIfInBounds_append_left (by simp)]
  simp
theorem scc_setV (a t l m b c g z : Nat) (p s k : Int) (n : Nat) (v v' : List Nat) (hv : v.length = 128) : ((scc a t l m b c g z p s k n v).toList.take 12 ++ u64s v' ++ (scc a t l m b c g z p s k n v).toList.drop (12 + 128)).toArray = scc a t l m b c g z p s k n v' := by
  have hl : (u64s v).length = 128 := by rw [u64s_length]; exact hv
  unfold scc
  rw [Array.toList_append, List.take_left' (by simp), List.drop_of_length_le (by simp [wq, hl]), List.append_nil]
  simp [wq]
def SrAt (w : World) (x : Nat) (a t l m b c g z : Nat) (p s k : Int) (n : Nat) (v : List Nat) : Prop := RowAt w x 140 (scc a t l m b c g z p s k n v)
theorem sr_build (w : World) (a t l m b c g z : Nat) (p s k : Int) : (Instr.build 140 #[(0, spv a t l m b c g z), (1, tuv p s), (2, .int .i64 k)]).run Tryz.prog w = .ok (.agg (scc a t l m b c g z p s k 0 zb)) w := by
  have h : ∀ a t l m b c g z p s k : Int, Tryz.prog.built 140 [(0, .agg #[.int .i64 a, .int .i64 t, .int .i64 l, .int .i64 m, .int .i64 b, .int .i64 c, .int .i64 g, .int .i64 z]), (1, .agg #[.int .i64 p, .int .i64 s]), (2, .int .i64 k)] = some (#[.int .i64 a, .int .i64 t, .int .i64 l, .int .i64 m, .int .i64 b, .int .i64 c, .int .i64 g, .int .i64 z, .int .i64 p, .int .i64 s, .int .i64 k, .int .i64 0] ++ wq zb) := fun a t l m b c g z p s k => by kernel_rfl
  exact run_build w _ _ _ (h ..)
theorem sr_run {w : World} {ev : Operand → Value} {o : Oper} {x0 x1 x2 : Operand} {a t l m b c g z : Nat} {p s k : Int} (hop : o.op = .build 140 #[(0, x0), (1, x1), (2, x2)]) (h0 : ev x0 = spv a t l m b c g z) (h1 : ev x1 = tuv p s) (h2 : ev x2 = .int .i64 k) : (execOp ev o).run Tryz.prog w = .ok (.value (.agg (scc a t l m b c g z p s k 0 zb))) w := by
  simp only [execOp, hop, List.map_toArray, List.map_cons, List.map_nil, h0, h1, h2, Sem.run_bind, sr_build, Result.andThen_ok, Sem.run_pure]
theorem srnew_any (a t l m b c g z : Nat) (p s k : Int) (w : World) : Calls Tryz.prog 44 #[spv a t l m b c g z, tuv p s, .int .i64 k] w fun e w' => ∃ x, e = .returned (.pointer (some ⟨x, 0, none⟩)) ∧ w.heap.size ≤ x ∧ SrAt w' x a t l m b c g z p s k 0 zb ∧ Below w.heap.size w w' := by
  have HT := Lib.hid (tw_new a t l m b c g z p s w)
  have HB := Lib.hid (two_box w (.cells (spc a t l m b c g z) 44) (.cells (tuc p s) 28))
  go_enter Tryz.func44, Tryz.ntmps44
  go_wp2_with (first
    | refine wpList_load_want rfl 44 _ rfl _ _ rfl (sp_load HT.out.sh) ?_
    | refine wpList_load_want rfl 28 _ rfl _ _ rfl (tu_load HT.out.tu) ?_
    | refine wpList_value_wantS rfl _ (sr_run rfl rfl rfl rfl) ?_)
  go_ret
  generalize hW : World.alloc (World.alloc w _) _ = w2 at *
  have hs : w2.heap.size = w.heap.size + 1 + 1 := by subst hW; simp
  have hR := RowAt.new w2 140 (scc a t l m b c g z p s k 0 zb)
  rw [hs] at hR
  exact ⟨w.heap.size + 1 + 1, rfl, by omega, hR, HB.out.alloc (by omega) _⟩
theorem words_any (x lo hi : Nat) (h : x < 18446744073709551616) (hlo : x % 4294967296 = lo) (hhi : x / 4294967296 = hi) (w : World) : Calls Tryz.prog 86 #[.int .u64 (x : Int)] w fun e w' => e = .returned (.tuple #[.int .u32 (lo : Int), .int .u32 (hi : Int)]) ∧ w = w' := by
  have e1 : IntKind.u32.wrap (x : Int) = (lo : Int) := by rw [IntKind.wrap_u32]; omega
  have e2 : (x : Int) / 4294967296 = (hi : Int) := by omega
  have e3 : IntKind.u32.wrap (hi : Int) = (hi : Int) := by rw [IntKind.wrap_u32]; omega
  have e4 : IntKind.u64.wrap (hi : Int) = (hi : Int) := by rw [IntKind.wrap_u64]; omega
  clear h hlo hhi
  go_enter Tryz.func86, Tryz.ntmps86
  go_wp2
  exact bodyPost_ret (results_tmp2 rfl _ _ _) rfl ⟨rfl, rfl⟩
open Go.RowKit Bb Bn
section
variable {w : World} {x : Nat} {ev : Operand → Value} {y : Operand} {o : Oper}
theorem srf_run {k j : Nat} (hop : o.op = .fieldAddr 140 y k) (hk : (k = 0 ∧ j = 0) ∨ (k = 1 ∧ j = 8) ∨ (k = 2 ∧ j = 10) ∨ (k = 3 ∧ j = 11) ∨ (k = 4 ∧ j = 12)) (hx : ev y = .pointer (some ⟨x, 0, none⟩)) : (execOp ev o).run Tryz.prog w = .ok (.value (.pointer (some ⟨x, j, none⟩))) w := by
  rcases hk with ⟨rfl, rfl⟩ | ⟨rfl, rfl⟩ | ⟨rfl, rfl⟩ | ⟨rfl, rfl⟩ | ⟨rfl, rfl⟩
  all_goals
    simp [execOp, hop, hx, go_sem]
end
theorem sto_doesN {P : Program} {o : Oper} {a : Act} {w w2 : World} {Q : Exit → Act → World → Prop} {W' : World → Prop} {ty : TypeId} {x y : Operand} {ad : Addr} {v : Value} (hop : o.op = .store ty x y) (hx : a.eval x = .pointer (some ad)) (hy : a.eval y = v) (hs : (storeVar ty ad v).run P w = .ok () w2) (h : W' w2) : o.wp P a w (fun a' w' => a' = a.put o.dst undef ∧ W' w') Q := by
  unfold Oper.wp
  have hr : (execOp a.eval o).run P w = .ok .skip w2 := by
    simp only [execOp, hop, hx, hy, Instr.storeAt, Instr.sureAddr, Sem.run_bind, Sem.run_pure, Result.andThen_ok, hs]
  rw [hr]
  exact ⟨rfl, h⟩
section
variable {w wr w' : World} {x a t l m b c g z n : Nat} {p s k : Int} {v : List Nat}
theorem SrAt.shape (h : SrAt w x a t l m b c g z p s k n v) : (loadVar 44 ⟨x, 0, none⟩).run Tryz.prog w = .ok (spv a t l m b c g z) w :=
  sub_load h sp_agg sp_size 0 (spc a t l m b c g z).toList rfl fun j u hj => by
    have hj8 : j < 8 := by
      have := (List.getElem?_eq_some_iff.1 hj).1
      simpa using this
    rw [Nat.zero_add, scc_head _ _ _ _ _ _ _ _ _ _ _ _ _ j (by omega)]
    rcases (show j = 0 ∨ j = 1 ∨ j = 2 ∨ j = 3 ∨ j = 4 ∨ j = 5 ∨ j = 6 ∨ j = 7 by omega) with rfl | rfl | rfl | rfl | rfl | rfl | rfl | rfl
    all_goals exact hj
theorem SrAt.turn (h : SrAt w x a t l m b c g z p s k n v) : (loadVar 28 ⟨x, 8, none⟩).run Tryz.prog w = .ok (tuv p s) w :=
  sub_load h tu_agg tu_size 8 [.int .i64 p, .int .i64 s] rfl fun j u hj => by
    have hj2 : j < 2 := by
      have := (List.getElem?_eq_some_iff.1 hj).1
      simpa using this
    rw [scc_head _ _ _ _ _ _ _ _ _ _ _ _ _ _ (by omega)]
    rcases (show j = 0 ∨ j = 1 by omega) with rfl | rfl
    all_goals exact hj
theorem SrAt.lane (h : SrAt w x a t l m b c g z p s k n v) : w.cell? ⟨x, 10, none⟩ = some (.int .i64 k) := (RowAt.cell h 10).trans ((scc_head _ _ _ _ _ _ _ _ _ _ _ _ _ 10 (by decide)).trans rfl)
theorem SrAt.made (h : SrAt w x a t l m b c g z p s k n v) : w.cell? ⟨x, 11, none⟩ = some (.int .i64 (n : Int)) := (RowAt.cell h 11).trans ((scc_head _ _ _ _ _ _ _ _ _ _ _ _ _ 11 (by decide)).trans rfl)
theorem SrAt.held (h : SrAt w x a t l m b c g z p s k n v) (hv : v.length = 128) (i : Nat) (hi : i < 128) : w.cell? ⟨x, 12 + i, none⟩ = some (.int .u64 ((v.getD i 0 : Nat) : Int)) := (RowAt.cell h (12 + i)).trans ((scc_tail ..).trans (wq_at v i (by omega)))
theorem SrAt.setHeld (h : SrAt w x a t l m b c g z p s k n v) (hv : v.length = 128) {y : List Nat} (hy : y.length = 128) : ∃ w2, (storeVar 83 ⟨x, 12, none⟩ (.agg (wq y))).run Tryz.prog w = .ok () w2 ∧ SrAt w2 x a t l m b c g z p s k n y ∧ Kept (fun g => g = x) w w2 := by
  have hs := sub_store (P := Tryz.prog) (ty := 83) h b_size 12 (u64s y) (by rw [u64s_length]; exact hy) (by rw [scc_size _ _ _ _ _ _ _ _ _ _ _ _ hv]; decide) (fun u hu => by
    unfold u64s at hu
    obtain ⟨_, _, rfl⟩ := List.mem_map.1 hu
    rfl)
  rw [scc_setV _ _ _ _ _ _ _ _ _ _ _ _ _ _ hv] at hs
  exact ⟨_, hs, RowAt.setRow h _, ⟨rfl, rfl, rfl, Nat.le_of_eq (setRow_size _ _ _).symm, fun j _ hj => setRow_other _ _ _ _ (fun e => hj e)⟩⟩
theorem SrAt.setMade (h : SrAt w x a t l m b c g z p s k n v) (n' : Nat) : ∃ w2, (storeVar 3 ⟨x, 11, none⟩ (.int .i64 (n' : Int))).run Tryz.prog w = .ok () w2 ∧ SrAt w2 x a t l m b c g z p s k n' v ∧ Kept (fun g => g = x) w w2 := by
  have hc := h.made
  have hf := RowAt.frozen h 11
  have hr := RowAt.setCell h 11 (.int .i64 (n' : Int))
  rw [scc_setN] at hr
  refine ⟨_, by simp [hc, hf, go_sem], hr, (Kept.refl (fun g => g = x) w).set (.inl rfl) _⟩
theorem SrAt.step (h : SrAt w x a t l m b c g z p s k n v) (hb : Below w.heap.size w w') : SrAt w' x a t l m b c g z p s k n v := RowAt.step h hb
end
set_option maxHeartbeats 3200000 in
theorem at_held (a t l m b c g z : Nat) (p s k : Int) (i q r u X lo hi : Nat) (hi62 : i ≤ 4611686018427387904) (hq : i / 128 = q) (hr : i % 128 = r) (hu : q + 1 = u) {x : Nat} {v : List Nat} (hv : v.length = 128) (hX : v.getD r 0 = X) (hX64 : X < 18446744073709551616) (hlo : X % 4294967296 = lo) (hhi : X / 4294967296 = hi) {w : World} (h : SrAt w x a t l m b c g z p s k u v) :
    Calls Tryz.prog 85 #[.pointer (some ⟨x, 0, none⟩), .int .i64 (i : Int)] w fun e w' => e = .returned (.tuple #[.int .u32 (lo : Int), .int .u32 (hi : Int)]) ∧ w = w' := by
  have CW := Lib.hid fun w => words_any X lo hi hX64 hlo hhi w
  have h0 : decide ((i : Int) < 0) = false := by simp
  have h1 : (i : Int) / 128 = (q : Int) := by omega
  have h2 : (i : Int) % 128 = (r : Int) := by omega
  have h3 : Int.tdiv (i : Int) 128 = (q : Int) := by rw [Int.tdiv_eq_ediv_of_nonneg (by omega)]; exact h1
  have h4 : Int.tmod (i : Int) 128 = (r : Int) := by rw [Int.tmod_eq_emod_of_nonneg (by omega)]; exact h2
  have h5 : IntKind.i64.wrap (q : Int) = (q : Int) := by rw [IntKind.wrap_i64]; omega
  have h6 : IntKind.i64.wrap ((q : Int) + 1) = (u : Int) := by rw [IntKind.wrap_i64]; omega
  have h7 : IntKind.i64.wrap (r : Int) = (r : Int) := by rw [IntKind.wrap_i64]; omega
  have h8 : (0 : Int) ≤ (r : Int) := by omega
  have h9 : (r : Int) < 128 := by omega
  have km := h.made
  have kh := h.held hv r (by omega)
  rw [hX] at kh
  clear hq hr hu hlo hhi h hv hX hX64
  go_enter Tryz.func85, Tryz.ntmps85
  go_wp2_with fail
  refine (CW.out _).mono ?_
  rintro e w1 ⟨rfl, rfl⟩
  go_wp2
  exact bodyPost_ret (results_tmp2 rfl _ _ _) rfl ⟨rfl, rfl⟩
set_option maxHeartbeats 6400000 in
theorem at_makes {a : Nat} (ha : a = 1 ∨ a = 2 ∨ a = 3) (t l m b c g z : Nat) (p s k : Int) (i q r u n X lo hi : Nat) (hi62 : i ≤ 4611686018427387904) (hq : i / 128 = q) (hr : i % 128 = r) (hu : q + 1 = u) (hn : n ≠ u) {x : Nat} {v : List Nat} (hv : v.length = 128) (hX : (addL p k s b t ((a : Int) - 1) (u : Int)).getD r 0 = X) (hX64 : X < 18446744073709551616) (hlo : X % 4294967296 = lo) (hhi : X / 4294967296 = hi) {w : World} (h : SrAt w x a t l m b c g z p s k n v) (hT : ∀ w', Kept (fun g => g = x) w w' → TAt w') :
    Calls Tryz.prog 85 #[.pointer (some ⟨x, 0, none⟩), .int .i64 (i : Int)] w fun e w' => e = .returned (.tuple #[.int .u32 (lo : Int), .int .u32 (hi : Int)]) ∧ SrAt w' x a t l m b c g z p s k u (addL p k s b t ((a : Int) - 1) (u : Int)) ∧ Kept (fun g => g = x) w w' := by
  have CW := Lib.hid fun w => words_any X lo hi hX64 hlo hhi w
  have CB0 := Lib.hid fun w' hk => calls_isL (block_anyN ha t l m b c g z p s k (u : Int) w' (hT w' hk))
  have HY := Lib.hid (add_ok p k s b t ((a : Int) - 1) (u : Int)).1
  generalize addL p k s b t ((a : Int) - 1) (u : Int) = y at *
  have h0 : decide ((i : Int) < 0) = false := by simp
  have h1 : (i : Int) / 128 = (q : Int) := by omega
  have h2 : (i : Int) % 128 = (r : Int) := by omega
  have h3 : Int.tdiv (i : Int) 128 = (q : Int) := by rw [Int.tdiv_eq_ediv_of_nonneg (by omega)]; exact h1
  have h4 : Int.tmod (i : Int) 128 = (r : Int) := by rw [Int.tmod_eq_emod_of_nonneg (by omega)]; exact h2
  have h5 : IntKind.i64.wrap (q : Int) = (q : Int) := by rw [IntKind.wrap_i64]; omega
  have h6 : IntKind.i64.wrap ((q : Int) + 1) = (u : Int) := by rw [IntKind.wrap_i64]; omega
  have h7 : IntKind.i64.wrap (r : Int) = (r : Int) := by rw [IntKind.wrap_i64]; omega
  have h8 : (0 : Int) ≤ (r : Int) := by omega
  have h9 : (r : Int) < 128 := by omega
  have hne : ((u : Int) != (n : Int)) = true := by simp; omega
  have hne2 : ¬ (u : Int) = (n : Int) := by omega
  have km := h.made
  have hr128 : r < 128 := by omega
  obtain ⟨W, hWd⟩ : ∃ W : Nat → World → Prop, W = fun j w' => SrAt w' x a t l m b c g z p s k (if j < 2 then n else u) (if j = 0 then v else y) ∧ Kept (fun g => g = x) w w' := ⟨_, rfl⟩
  have HWS : Hid (∀ k w w', W k w → Below w.heap.size w w' → W k w') := Lib.hid fun k w w' h hb => by
    subst hWd
    exact ⟨h.1.step hb, h.2.trans (Kept.of_below (M := fun _ => False) hb) (fun _ _ h => h.elim)⟩
  have HW0 : Hid (W 0 w) := Lib.hid (by subst hWd; exact ⟨h, Kept.refl _ _⟩)
  have HL : Hid (∀ w', W 0 w' → (loadVar 44 ⟨x, 0, none⟩).run Tryz.prog w' = .ok (spv a t l m b c g z) w' ∧ (loadVar 28 ⟨x, 8, none⟩).run Tryz.prog w' = .ok (tuv p s) w' ∧ w'.cell? ⟨x, 10, none⟩ = some (.int .i64 k)) := Lib.hid fun w' h => by
    subst hWd
    exact ⟨h.1.shape, h.1.turn, h.1.lane⟩
  have CB : Hid (∀ w', W 0 w' → Calls Tryz.prog 107 #[spv a t l m b c g z, tuv p s, .int .i64 k, .int .i64 (u : Int)] w' fun e w2 => ∃ v, e = .returned v ∧ Is (.agg (wq y)) v w2 ∧ Below w'.heap.size w' w2) := Lib.hid fun w' h => CB0.out w' (by subst hWd; exact h.2)
  have HT0 : Hid (∀ w', W 0 w' → ∃ w2, (storeVar 83 ⟨x, 12, none⟩ (.agg (wq y))).run Tryz.prog w' = .ok () w2 ∧ W 1 w2) := Lib.hid fun w' h => by
    subst hWd
    obtain ⟨w2, e, h2, k2⟩ := h.1.setHeld hv HY.out
    exact ⟨w2, e, h2, h.2.trans k2 fun _ _ h => h⟩
  have HT1 : Hid (∀ w', W 1 w' → ∃ w2, (storeVar 3 ⟨x, 11, none⟩ (.int .i64 (u : Int))).run Tryz.prog w' = .ok () w2 ∧ W 2 w2) := Lib.hid fun w' h => by
    subst hWd
    obtain ⟨w2, e, h2, k2⟩ := h.1.setMade u
    exact ⟨w2, e, h2, h.2.trans k2 fun _ _ h => h⟩
  have HW2 : Hid (∀ w', W 2 w' → SrAt w' x a t l m b c g z p s k u y ∧ Kept (fun g => g = x) w w') := Lib.hid fun w' h => by subst hWd; exact h
  clear hq hr hu hlo hhi h hv hX64 hWd CB0 hT hn ha
  have HX := Lib.hid hX
  have HR := Lib.hid hr128
  clear hX
  go_enter Tryz.func85, Tryz.ntmps85
  go_wp2
  refine wp_region_seq [19, 22] [.pointer (some ⟨x, 0, none⟩), .pointer (some ⟨x, 0, none⟩), .pointer (some ⟨x, 0, none⟩), .pointer (some ⟨x, 0, none⟩), .pointer (some ⟨x, 0, none⟩), spv a t l m b c g z, .pointer (some ⟨x, 0, none⟩), .pointer (some ⟨x, 0, none⟩), .pointer (some ⟨x, 8, none⟩), tuv p s, .pointer (some ⟨x, 0, none⟩), .pointer (some ⟨x, 0, none⟩), .pointer (some ⟨x, 10, none⟩), .int .i64 k, .int .i64 (u : Int), .agg (wq y), .int .i64 (u : Int), .pointer (some ⟨x, 0, none⟩), .pointer (some ⟨x, 12, none⟩), undef, .pointer (some ⟨x, 0, none⟩), .pointer (some ⟨x, 11, none⟩), undef] W (by kernel_rfl) (by kernel_rfl) rfl (HWS.out 0 _ _ HW0.out (Below.refl _ _).drew) ⟨?_, ?_, ?_, ?_, ?_, ?_, ?_, ?_, ?_, ?_, ?_, ?_, ?_, ?_, ?_, ?_, ?_, ?_, ?_, ?_, ?_, ?_, ?_, trivial⟩ ?_
  · exact seq_head (by kernel_rfl) (HWS.out 0) fun a w C hW => op_move (.inl rfl) (C.was 0 (by kernel_rfl))
  · exact seq_float (by kernel_rfl) HWS.out fun a w C => op_move (.inl rfl) (C.was 0 (by kernel_rfl))
  · exact seq_head (by kernel_rfl) (HWS.out 0) fun a w C hW => op_move (.inl rfl) (C.was 0 (by kernel_rfl))
  · exact seq_head (by kernel_rfl) (HWS.out 0) fun a w C hW => op_value (nil_runN rfl (C.on (j := 2) (by kernel_rfl) rfl rfl)) rfl
  · exact seq_head (by kernel_rfl) (HWS.out 0) fun a w C hW => op_value (srf_run (k := 0) rfl (by decide) (C.on (j := 3) (by kernel_rfl) rfl rfl)) rfl
  · exact seq_head (by kernel_rfl) (HWS.out 0) fun a w C hW => op_value (load_runN rfl (C.on (j := 4) (by kernel_rfl) rfl rfl) (HL.out _ hW).1) rfl
  · exact seq_head (by kernel_rfl) (HWS.out 0) fun a w C hW => op_move (.inl rfl) (C.was 0 (by kernel_rfl))
  · exact seq_head (by kernel_rfl) (HWS.out 0) fun a w C hW => op_value (nil_runN rfl (C.on (j := 6) (by kernel_rfl) rfl rfl)) rfl
  · exact seq_head (by kernel_rfl) (HWS.out 0) fun a w C hW => op_value (srf_run (k := 1) rfl (by decide) (C.on (j := 7) (by kernel_rfl) rfl rfl)) rfl
  · exact seq_head (by kernel_rfl) (HWS.out 0) fun a w C hW => op_value (load_runN rfl (C.on (j := 8) (by kernel_rfl) rfl rfl) (HL.out _ hW).2.1) rfl
  · exact seq_head (by kernel_rfl) (HWS.out 0) fun a w C hW => op_move (.inl rfl) (C.was 0 (by kernel_rfl))
  · exact seq_head (by kernel_rfl) (HWS.out 0) fun a w C hW => op_value (nil_runN rfl (C.on (j := 10) (by kernel_rfl) rfl rfl)) rfl
  · exact seq_head (by kernel_rfl) (HWS.out 0) fun a w C hW => op_value (srf_run (k := 2) rfl (by decide) (C.on (j := 11) (by kernel_rfl) rfl rfl)) rfl
  · exact seq_head (by kernel_rfl) (HWS.out 0) fun a w C hW => op_value (int_runS rfl (C.on (j := 12) (by kernel_rfl) rfl rfl) (HL.out _ hW).2.2) rfl
  · exact seq_head (by kernel_rfl) (HWS.out 0) fun a w C hW => op_move (.inl rfl) (C.was 6 (by kernel_rfl))
  · exact seq_head (by kernel_rfl) (HWS.out 0) fun a w C hW => op_call4N rfl (reg_enters Tryz.func107 (by kernel_rfl) (by kernel_rfl)) (C.on (j := 5) (by kernel_rfl) rfl rfl) (C.on (j := 9) (by kernel_rfl) rfl rfl) (C.on (j := 13) (by kernel_rfl) rfl rfl) (C.on (j := 14) (by kernel_rfl) rfl rfl) (CB.out _ hW)
  · exact seq_float (by kernel_rfl) HWS.out fun a w C => op_move (.inl rfl) (C.was 6 (by kernel_rfl))
  · exact seq_head (by kernel_rfl) (HWS.out 0) fun a w C hW => op_value (nil_runN rfl (C.on (j := 0) (by kernel_rfl) rfl rfl)) rfl
  · exact seq_head (by kernel_rfl) (HWS.out 0) fun a w C hW => op_value (srf_run (k := 4) rfl (by decide) (C.on (j := 17) (by kernel_rfl) rfl rfl)) rfl
  · exact seq_turn 0 (by kernel_rfl) fun a w C hW => by
            obtain ⟨w2, hs, hn⟩ := HT0.out w hW
            exact sto_doesN rfl (C.on (j := 18) (by kernel_rfl) rfl rfl) (C.on (j := 15) (by kernel_rfl) rfl rfl) hs hn
  · exact seq_float (by kernel_rfl) HWS.out fun a w C => op_value (nil_runN rfl (C.on (j := 1) (by kernel_rfl) rfl rfl)) rfl
  · exact seq_float (by kernel_rfl) HWS.out fun a w C => op_value (srf_run (k := 3) rfl (by decide) (C.on (j := 20) (by kernel_rfl) rfl rfl)) rfl
  · exact seq_turn 1 (by kernel_rfl) fun a w C hW => by
            obtain ⟨w2, hs, hn⟩ := HT1.out w hW
            exact sto_doesN rfl (C.on (j := 21) (by kernel_rfl) rfl rfl) (C.on (j := 16) (by kernel_rfl) rfl rfl) hs hn
  intro w1 hz
  obtain ⟨HS, HK⟩ := HW2.out w1 hz
  have kh := HS.held HY.out r HR.out
  rw [HX.out] at kh
  have HS := Lib.hid HS
  have HK := Lib.hid HK
  clear hz HWS HW0 HL CB HT0 HT1 HW2 km
  simp only [setAll, setAt, List.setIfInBounds_toArray, List.set_cons_succ, List.set_cons_zero]
  go_wp2_with fail
  refine (CW.out _).mono ?_
  rintro e w2 ⟨rfl, rfl⟩
  go_wp2
  exact bodyPost_ret (results_tmp2 rfl _ _ _) rfl ⟨rfl, HS.out, HK.out⟩
end Go.Proofs.YtfoodaobiknihaaGreatDoor
