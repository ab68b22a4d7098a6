/- loads of package fill: some blocks of a grid, by its contract. Conditions: those typed. Fill of package fill: a block is filled, by its contract. Conditions: those typed. -/
import Derived.Test.YtfoodaobiknihaaGreatDoorFlLook
namespace Go.Proofs.YtfoodaobiknihaaGreatDoor
set_option maxRecDepth 50000
open Go.RowKit Bb Bn
def spc2 (x : Nat × Nat) : List Value := [.int .i64 (x.1 : Int), .int .i64 (x.2 : Int)]
def spcs (l : List (Nat × Nat)) : List Value := l.flatMap spc2
theorem spcs_length : ∀ l : List (Nat × Nat), (spcs l).length = l.length * 2
  | [] => rfl
  | x :: l => by
    have := spcs_length l
    unfold spcs at *
    rw [List.flatMap_cons, List.length_append, this, List.length_cons]
    simp [spc2]
    omega
theorem spcs_at : ∀ (l : List (Nat × Nat)) (i : Nat) (h : i < l.length) (j : Nat), j < 2 → (spcs l)[i * 2 + j]? = (spc2 l[i])[j]?
  | x :: l, 0, _, j, hj => by
    rw [show spcs (x :: l) = spc2 x ++ spcs l by simp [spcs], List.getElem?_append_left (by simp [spc2]; omega)]; simp
  | x :: l, i + 1, h, j, hj => by
    have := spcs_at l i (by simpa using h) j hj
    rw [show spcs (x :: l) = spc2 x ++ spcs l by simp [spcs], List.getElem?_append_right (by simp [spc2]; omega), show (i + 1) * 2 + j - (spc2 x).length = i * 2 + j by simp [spc2]; omega, this]
    simp
theorem sp_reads {w : World} {B : Nat} {A : Option Addr} {l : List (Nat × Nat)} (hr : Reads w B A (spcs l)) (i : Nat) (hi : i < l.length) :
    ∃ b off, A = some ⟨b, off, none⟩ ∧ b < B ∧ w.cell? ⟨b, off + i * 2, none⟩ = some (.int .i64 (l[i].1 : Int)) ∧ w.cell? ⟨b, off + i * 2 + 1, none⟩ = some (.int .i64 (l[i].2 : Int)) := by
  have hl := spcs_length l
  obtain ⟨b, off, e, hb, _⟩ := hr (i * 2) (by omega)
  refine ⟨b, off, e, hb, ?_⟩
  have G : ∀ j, j < 2 → w.cell? ⟨b, off + i * 2 + j, none⟩ = (spc2 l[i])[j]? := fun j hj => by
    obtain ⟨b', off', e', _, hc⟩ := hr (i * 2 + j) (by omega)
    rw [e] at e'
    cases e'
    rw [Nat.add_assoc, hc, ← List.getElem?_eq_getElem, spcs_at l i hi j hj]
  exact ⟨G 0 (by decide), G 1 (by decide)⟩
theorem make_room (n : Nat) (hn : n ≤ 1000000) (w : World) : ∃ w', (Instr.makeSlice 91 (.int .i64 0) (.int .i64 (n : Int))).run Tryz.prog w = .ok (.slice (some ⟨w.heap.size, 0, none⟩) 0 n) w' ∧ OwB w.heap.size [] (.slice (some ⟨w.heap.size, 0, none⟩) 0 n) w' ∧ Below w.heap.size w w' := by
  obtain ⟨i, hi, hz, hs, hb⟩ := b_parts
  obtain ⟨w', h1, h2, h3⟩ := run_make_own (P := Tryz.prog) w w.heap.size 91 83 i _ 128 Tryz.underlying91 hi hz hs .i64 .i64 n (by rw [hb]; omega) (by unfold maxLen; omega) (Nat.le_refl _)
  exact ⟨w', h1, h2, (Below.refl _ _).grown h3 (Nat.le_refl _) (by simp)⟩
theorem mk_run {P : Program} {w w' : World} {ev : Operand → Value} {o : Oper} {x y : Operand} {t : TypeId} {v1 v2 v : Value} (hop : o.op = .makeSlice t x y) (hx : ev x = v1) (hy : ev y = v2) (hr : (Instr.makeSlice t v1 v2).run P w = .ok v w') : (execOp ev o).run P w = .ok (.value v) w' := by
  simp only [execOp, hop, hx, hy, Sem.run_bind, hr, Result.andThen_ok, Sem.run_pure]
def blks (c : Nat) (L : List (List Nat)) (l : List (Nat × Nat)) : List (List Nat) := l.map fun x => L.getD (x.1 * c + x.2) []
set_option maxHeartbeats 6400000 in
theorem loads_any {a t l m b c g z q pc h G : Nat} {L : List (List Nat)} {w : World} (hG : GrAt w q pc h G a t l m b c g z L) (hl : l ≤ 16777215) (hc : c ≤ 4294967295) (hL : L.length = l * c) (hLm : L.length ≤ 4194304) (ps : List (Nat × Nat)) (hps : ∀ x ∈ ps, x.1 < l ∧ x.2 < c) (hn : ps.length ≤ 1000) (A : Option Addr) (cp : Nat) (hr : Reads w w.heap.size A (spcs ps)) :
    Calls Tryz.prog 66 #[.pointer (some ⟨q, 0, none⟩), .slice A ps.length cp] w fun e w' => ∃ v, e = .returned (.tuple #[v, .int .i64 0]) ∧ OwB w.heap.size (blks c L ps) v w' ∧ Below w.heap.size w w' := by
  obtain ⟨N, hN⟩ : ∃ N, N = w.heap.size := ⟨_, rfl⟩
  obtain ⟨w1, hmk, hO, hb⟩ := make_room ps.length (by omega) w
  have HMK := Lib.hid hmk
  have HO1 : Hid (OwB N [] (.slice (some ⟨w.heap.size, 0, none⟩) 0 ps.length) w1) := Lib.hid (by rw [hN]; exact hO)
  have HB1 : Hid (Below N w w1) := Lib.hid (by rw [hN]; exact hb)
  have HR := Lib.hid hr
  have HG := Lib.hid hG
  have HL := Lib.hid hL
  have HP := Lib.hid hps
  have HN := Lib.hid hN
  have hz := zero_b
  clear hmk hO hb hr hG hL hps hN
  go_enter Tryz.func66, Tryz.ntmps66
  go_wp2_with (refine wpList_madeN rfl _ _ (mk_run rfl rfl rfl HMK.out) ?_)
  clear HMK
  generalize (Value.slice (some ⟨w.heap.size, 0, none⟩) 0 ps.length) = v1 at *
  go_loopw [6, 16] (fun v6 v16 wr => ∃ i : Nat, i ≤ ps.length ∧ v16 = .int .i64 (i : Int) ∧ Hid (OwB N (blks c L (ps.take i)) v6 wr) ∧ Hid (Below N w wr)) (fun _ v16 _ => ps.length - (intOf v16).toNat)
  case atStart => exact ⟨0, Nat.zero_le _, rfl, HO1, HB1⟩
  case round =>
    obtain ⟨i, hi, rfl, HO, HB⟩ := hrel
    by_cases h : i < ps.length
    · have hd : decide ((i : Int) < (ps.length : Int)) = true := by simp; omega
      have hd2 : decide (i < ps.length) = true := by simp; omega
      have hi0 : (0 : Int) ≤ (i : Int) := by omega
      have hi1 : (i : Int) < (ps.length : Int) := by omega
      obtain ⟨rb, ro, rfl, _, y0, y1⟩ := sp_reads ((HR.out.below (HN.out ▸ HB.out : Below w.heap.size w wr))) i h
      obtain ⟨h1, h2⟩ := HP.out _ (List.getElem_mem h)
      have HT : Hid (blks c L (ps.take (i + 1)) = blks c L (ps.take i) ++ [L.getD (ps[i].1 * c + ps[i].2) []]) := Lib.hid (by
        unfold blks
        rw [List.take_add_one, List.getElem?_eq_getElem h, List.map_append]
        rfl)
      have HTL : Hid ((blks c L (ps.take i)).length ≤ 1000000) := Lib.hid (by simp only [blks, List.length_map, List.length_take]; omega)
      generalize ps[i] = xy at *
      obtain ⟨x, y⟩ := xy
      simp only at y0 y1 h1 h2
      obtain ⟨n, hnn⟩ : ∃ n, x * c + y = n := ⟨_, rfl⟩
      have hxc : (x + 1) * c ≤ l * c := Nat.mul_le_mul_right c h1
      rw [Nat.add_mul, Nat.one_mul] at hxc
      have hnL : n < L.length := by rw [HL.out]; omega
      simp only [hnn] at HT
      have HX := Lib.hid (block_ok HG.out.live.ok n hnL)
      have CG : Hid (∀ u, Below N w u → Calls Tryz.prog 38 #[.pointer (some ⟨q, 0, none⟩), sov (x : Int) (y : Int)] u fun e w2 => e = .returned (.tuple #[.agg (wq (L.getD n [])), .int .i64 0]) ∧ Below u.heap.size u w2) := Lib.hid fun u hu => gload_any (HG.out.step (HN.out ▸ hu)) hl hc x y n h1 h2 hnn hnL hLm
      generalize L.getD n [] = bl at *
      generalize hbs : blks c L (ps.take i) = bs at *
      obtain ⟨w2, e2⟩ : ∃ w2, w2 = wr.alloc (.cells (soc x y) 30) := ⟨_, rfl⟩
      have b2 : Below wr.heap.size wr w2 := by rw [e2]; exact one_box _ _
      have HS2 : Hid (RowAt w2 wr.heap.size 30 (soc x y)) := Lib.hid (by rw [e2]; exact RowAt.new _ _ _)
      have hsN : N ≤ wr.heap.size := by have := HB.out.size; have := HN.out; omega
      have HO2 := Lib.hid (stable_owb _ _ _ _ _ HO.out b2)
      have HB2 := Lib.hid (HB.out.trans (b2.mono hsN))
      have E2 := Lib.hid e2
      clear h1 h2 hxc hnL hnn b2 e2 HO HB hbs
      go_upto_region 5 with fail
      rw [← E2.out]
      clear E2 y0 y1
      generalize wr.heap.size = S8 at *
      go_wp2_with (refine wpList_load_want rfl 30 _ rfl _ _ rfl (so_load HS2.out) ?_)
      refine (CG.out _ HB2.out).mono ?_
      rintro e w3 ⟨rfl, hb3⟩
      obtain ⟨w4, e4⟩ : ∃ w4, w4 = (w3.alloc (.cells (wq zb) 83)).setRow w3.heap.size (wq bl) := ⟨_, rfl⟩
      have HR4 : Hid (RowAt w4 w3.heap.size 83 (wq bl)) := Lib.hid (by rw [e4]; exact (RowAt.new _ _ _).setRow _)
      have b4 : Below w3.heap.size w3 w4 := by rw [e4]; exact set_below _ _
      have hs3 : N ≤ w3.heap.size := by have := HB2.out.size; have := HN.out; have := hb3.size; omega
      have HO4 := Lib.hid (stable_owb _ _ _ _ _ (stable_owb _ _ _ _ _ HO2.out hb3) b4)
      have HB4 := Lib.hid ((HB2.out.trans (hb3.mono (by have := HB2.out.size; have := HN.out; omega))).trans (b4.mono hs3))
      have E4 := Lib.hid e4
      clear hb3 b4 e4 HS2 HO2 HB2 CG
      go_upto_region 8 with (refine wpList_store_of rfl _ _ _ rfl ⟨w3.heap.size, 0, none⟩ _ rfl rfl (set_new _ HX.out.1) ?_)
      rw [← E4.out]
      clear E4
      generalize w3.heap.size = S9 at *
      have hs4 : N ≤ w4.heap.size := by have := HB4.out.size; have := HN.out; omega
      have HN4 := Lib.hid (RowAt.new w4 83 (wq bl))
      have b5 := one_box w4 (.cells (wq bl) 83)
      obtain ⟨v', w5, hap, hO5, hB5⟩ := app_more (stable_owb _ _ _ _ _ HO4.out b5) (Nat.le_trans hs4 b5.size) HX.out HN4.out HTL.out 91
      rw [← HT.out] at hO5
      have HAP := Lib.hid hap
      have HO5 := Lib.hid hO5
      have HB5 := Lib.hid (HB4.out.trans ((b5.mono hs4).trans hB5))
      have hsz : (wq bl).size = 128 := by rw [wq_size]; exact HX.out.1
      clear hap hO5 b5 hB5 HO4 HB4
      go_wp2_with (first
        | refine wpList_value_want rfl _ (bload_run rfl rfl HR4.out hsz) ?_
        | refine wpList_madeN rfl _ _ (build_one_run HX.out.1 rfl rfl) ?_
        | refine wpList_madeN rfl _ _ (op_append rfl rfl rfl HAP.out) ?_)
      go_roundw
      case rel => exact ⟨i + 1, by omega, by go_num, HO5, HB5⟩
      case measure => simp [intOf]; omega
    · obtain rfl : i = ps.length := by omega
      have hd : decide ((ps.length : Int) < (ps.length : Int)) = false := by simp
      have hO := HO.out
      rw [List.take_length] at hO
      go_wp2
      refine bodyPost_ret (results_tmp2 rfl _ _ _) rfl ⟨_, rfl, ?_, ?_⟩
      · rw [← HN.out]; exact hO
      · rw [← HN.out]; exact HB.out
open Go.RowKit Bb Bn
def IsF (V : Value) (F : World → Prop) : Value → World → Prop := fun v u => v = V ∧ F u
theorem stable_isf (V : Value) {F : World → Prop} (h : ∀ u u', F u → Below u.heap.size u u' → F u') : Stable (IsF V F) := fun _ _ _ ⟨e, hf⟩ hb => ⟨e, h _ _ hf hb⟩
def restV (g n c : Nat) : Value := .slice (some ⟨g, if c = 2 then 0 else 256, none⟩) (n - 2) (c - 2)
theorem owb_open {w : World} {N : Nat} {x y : List Nat} {r : List (List Nat)} {v : Value} (h : OwB N (x :: y :: r) v w) : ∃ g n c, v = .slice (some ⟨g, 0, none⟩) n c ∧ N ≤ g ∧ n = r.length + 2 := by
  rcases h.2 with ⟨rfl, h0⟩ | ⟨g, cap, cur, rfl, h0, _⟩
  · simp at h0
  · exact ⟨g, _, cap, rfl, h0, by simp⟩
theorem owb_rest {w : World} {N : Nat} {x y : List Nat} {r : List (List Nat)} {g n c : Nat} (h : OwB N (x :: y :: r) (.slice (some ⟨g, 0, none⟩) n c) w) (hx : okb x) (hy : okb y) :
    (loadVar 83 ⟨g, 0, none⟩).run Tryz.prog w = .ok (.agg (wq x)) w ∧ (loadVar 83 ⟨g, 128, none⟩).run Tryz.prog w = .ok (.agg (wq y)) w ∧ (Instr.sliceAt 91 (.slice (some ⟨g, 0, none⟩) n c) (some (.int .i64 2)) none none).run Tryz.prog w = .ok (restV g n c) w ∧ RdB r (restV g n c) w := by
  have hxl : (u64s x).length = 128 := by rw [u64s_length]; exact hx.1
  have hyl : (u64s y).length = 128 := by rw [u64s_length]; exact hy.1
  have hb : bcs (x :: y :: r) = u64s x ++ (u64s y ++ bcs r) := by simp [bcs]
  rcases h.2 with ⟨e, _⟩ | ⟨g', cap, cur, e, h0, hg, hnc, hcm, _⟩
  · cases e
  injection e with e1 e2 e3
  injection e1 with e1
  injection e1 with e1
  subst e1; subst e2; subst e3
  have hcell : ∀ k, k < (bcs (x :: y :: r)).length → w.cell? ⟨g, k, none⟩ = (bcs (x :: y :: r))[k]? := fun k hk => h.cellAt k (by rw [← h.1]; exact hk)
  have hlen : (bcs (x :: y :: r)).length = 256 + (bcs r).length := by rw [hb, List.length_append, List.length_append, hxl, hyl]; omega
  have hr2 : (x :: y :: r).length = r.length + 2 := by simp
  obtain ⟨i, hi, hz, hs, hby⟩ := b_parts
  refine ⟨load_b hx.1 fun k hk => ?_, load_b hy.1 fun k hk => ?_, ?_, ?_⟩
  · rw [Nat.zero_add, hcell k (by omega), hb, List.getElem?_append_left (by omega)]
    simp only [u64s, List.getElem?_map, List.getD_eq_getElem?_getD]
    rw [List.getElem?_eq_getElem (by rw [hx.1]; exact hk)]; rfl
  · rw [hcell (128 + k) (by omega), hb, List.getElem?_append_right (by omega), hxl, Nat.add_sub_cancel_left, List.getElem?_append_left (by omega)]
    simp only [u64s, List.getElem?_map, List.getD_eq_getElem?_getD]
    rw [List.getElem?_eq_getElem (by rw [hy.1]; exact hk)]; rfl
  · have h2 : ((2 : Int) ≤ ((x :: y :: r).length : Int)) := by rw [hr2]; omega
    unfold restV
    rw [show (if c = 2 then 0 else 256) = (if c = 2 then (⟨g, 0, none⟩ : Addr) else ⟨g, 256, none⟩).off by split <;> rfl]
    rw [run_sliceAt_slice _ _ _ _ _ _ Tryz.underlying91]
    by_cases hc2 : c = 2
    · simp [Instr.slice, Instr.sliceBounds, run_underlying Tryz.underlying91, sizeOf, typeInfo, hi, go_sem, hc2]
      intro hx; omega
    · simp [Instr.slice, Instr.sliceBounds, run_underlying Tryz.underlying91, sizeOf, typeInfo, hi, hs, go_sem, hc2]
      intro hx; omega
  · refine ⟨_, _, (by unfold restV; rw [hr2, Nat.add_sub_cancel]), fun k hk => ?_⟩
    have hr0 : 0 < r.length := by
      cases r with
      | nil => simp [bcs] at hk
      | cons _ _ => simp
    rw [if_neg (by omega)]
    refine ⟨g, 256, rfl, lt_of_some hg, ?_⟩
    rw [hcell (256 + k) (by omega), hb, List.getElem?_append_right (by omega), List.getElem?_append_right (by omega), hxl, hyl, show 256 + k - 128 - 128 = k by omega, List.getElem?_eq_getElem hk]
theorem sl_run {P : Program} {w : World} {ev : Operand → Value} {o : Oper} {x y : Operand} {t : TypeId} {v1 v2 v : Value} (hop : o.op = .slice t x (some y) none none) (hx : ev x = v1) (hy : ev y = v2) (hr : (Instr.sliceAt t v1 (some v2) none none).run P w = .ok v w) : (execOp ev o).run P w = .ok (.value v) w := by
  simp only [execOp, hop, hx, hy, Option.map_some, Option.map_none, Sem.run_bind, hr, Result.andThen_ok, Sem.run_pure]
theorem stepf_run {w : World} {b k : Nat} {ev : Operand → Value} {x : Operand} {o : Oper} (hop : o.op = .fieldAddr 98 x k) (hk : k < 3) (hx : ev x = .pointer (some ⟨b, 0, none⟩)) : (execOp ev o).run Tryz.prog w = .ok (.value (.pointer (some ⟨b, 2 * k, none⟩))) w := by
  rcases (show k = 0 ∨ k = 1 ∨ k = 2 by omega) with rfl | rfl | rfl
  all_goals
    simp [execOp, hop, hx, go_sem]
theorem step_loads {w : World} {b : Nat} {k x k' y r c : Int} (h : RowAt w b 98 (stpc k x k' y r c)) :
    (loadVar 30 ⟨b, 0, none⟩).run Tryz.prog w = .ok (sov k x) w ∧ (loadVar 30 ⟨b, 2, none⟩).run Tryz.prog w = .ok (sov k' y) w ∧ (loadVar 30 ⟨b, 4, none⟩).run Tryz.prog w = .ok (sov r c) w := by
  refine ⟨sub_load h so_agg spot_size 0 [.int .i64 k, .int .i64 x] rfl fun j v hj => ?_, sub_load h so_agg spot_size 2 [.int .i64 k', .int .i64 y] rfl fun j v hj => ?_, sub_load h so_agg spot_size 4 [.int .i64 r, .int .i64 c] rfl fun j v hj => ?_⟩
  all_goals
    have hj2 : j < 2 := by
      have := (List.getElem?_eq_some_iff.1 hj).1
      simpa using this
    rcases (show j = 0 ∨ j = 1 by omega) with rfl | rfl
    all_goals exact hj
theorem so_info : (Tryz.prog.info? 30).map (fun i => (i.zero, i.size, i.bytes)) = some (some (sov 0 0), 2, 16) := by kernel_rfl
theorem build_spots2 (x y x' y' : Nat) (w : World) : (Instr.buildSlice 134 2 #[(0, sov x y), (1, sov x' y')]).run Tryz.prog w = .ok (.slice (some ⟨w.heap.size, 0, none⟩) 2 2) (w.alloc (.cells (spcs [(x, y), (x', y')]).toArray 30)) := by
  obtain ⟨i, hi, hz, hs, hby⟩ := info_parts so_info
  refine run_buildSlice w _ _ 2 _ (spcs [(x, y), (x', y')]).toArray i _ Tryz.underlying134 hi hz (by rw [hs]; decide) (by rw [hs]; decide) ?_
  rw [hs]
  have e : (Value.agg (soc x y)).cells = soc x y := rfl
  have e' : (Value.agg (soc x' y')).cells = soc x' y' := rfl
  have er : Array.range (2 * 2) = #[0, 1, 2, 3] := by decide
  simp only [Instr.fill, e, e', er]
  simp [Value.cells, spcs, spc2]
theorem build_spots1 (x y : Nat) (w : World) : (Instr.buildSlice 134 1 #[(0, sov x y)]).run Tryz.prog w = .ok (.slice (some ⟨w.heap.size, 0, none⟩) 1 1) (w.alloc (.cells (spcs [(x, y)]).toArray 30)) := by
  obtain ⟨i, hi, hz, hs, hby⟩ := info_parts so_info
  refine run_buildSlice w _ _ 1 _ (spcs [(x, y)]).toArray i _ Tryz.underlying134 hi hz (by rw [hs]; decide) (by rw [hs]; decide) ?_
  rw [hs]
  have e : (Value.agg (soc x y)).cells = soc x y := rfl
  have er : Array.range (1 * 2) = #[0, 1] := by decide
  simp only [Instr.fill, e, er]
  simp [Value.cells, spcs, spc2]
section
variable {w : World} {ev : Operand → Value} {o : Oper} {u u' : Operand} {x y x' y' : Nat}
theorem spots2_run (hop : o.op = .buildSlice 134 2 #[(0, u), (1, u')]) (hx : ev u = sov x y) (hx' : ev u' = sov x' y') : (execOp ev o).run Tryz.prog w = .ok (.value (.slice (some ⟨w.heap.size, 0, none⟩) 2 2)) (w.alloc (.cells (spcs [(x, y), (x', y')]).toArray 30)) := by
  simp only [execOp, hop, List.map_toArray, List.map_cons, List.map_nil, hx, hx', Sem.run_bind, build_spots2 x y x' y' w, Result.andThen_ok, Sem.run_pure]
theorem spots1_run (hop : o.op = .buildSlice 134 1 #[(0, u)]) (hx : ev u = sov x y) : (execOp ev o).run Tryz.prog w = .ok (.value (.slice (some ⟨w.heap.size, 0, none⟩) 1 1)) (w.alloc (.cells (spcs [(x, y)]).toArray 30)) := by
  simp only [execOp, hop, List.map_toArray, List.map_cons, List.map_nil, hx, Sem.run_bind, build_spots1 x y w, Result.andThen_ok, Sem.run_pure]
end
theorem sp_row {w : World} {g : Nat} {l : List (Nat × Nat)} {z : Array Value} (h : RowAt w g 30 ((spcs l).toArray ++ z)) : Reads w w.heap.size (some ⟨g, 0, none⟩) (spcs l) := fun k hk => by
  refine ⟨g, 0, rfl, h.lt, ?_⟩
  rw [Nat.zero_add, h.cell k, Array.getElem?_append_left (by simpa using hk)]
  simp
theorem app_spot {w : World} {g1 g2 x y x' y' x2 y2 : Nat} (h1 : RowAt w g1 30 (spcs [(x, y), (x', y')]).toArray) (h2 : RowAt w g2 30 (spcs [(x2, y2)]).toArray) (ty : TypeId) :
    ∃ c w', (Builtin.append_ #[134, 134] ty #[.slice (some ⟨g1, 0, none⟩) 2 2, .slice (some ⟨g2, 0, none⟩) 1 1]).run Tryz.prog w = .ok (.slice (some ⟨w.heap.size, 0, none⟩) 3 c) w' ∧ Reads w' w'.heap.size (some ⟨w.heap.size, 0, none⟩) (spcs [(x, y), (x', y'), (x2, y2)]) ∧ Below w.heap.size w w' := by
  obtain ⟨i, hi, hz, hs, hby⟩ := info_parts so_info
  have hr := run_append_grow (P := Tryz.prog) w 134 ty 30 i _ Tryz.underlying134 hi hz ⟨g1, 0, none⟩ 2 2 (spcs [(x, y), (x', y')]) (by rw [hs]; rfl) (fun j v hj => by
      rw [Go.WideShapes.add_plain, Nat.zero_add, h1.cell j]
      simpa using hj) ⟨g2, 0, none⟩ 1 1 (spcs [(x2, y2)]) (by rw [hs]; rfl) (fun j v hj => by
      rw [Go.WideShapes.add_plain, Nat.zero_add, h2.cell j]
      simpa using hj) (by decide) (by decide) (by rw [hby]; decide)
  refine ⟨_, _, hr, ?_, ?_⟩
  · have e : (spcs [(x, y), (x', y')]).toArray ++ (spcs [(x2, y2)]).toArray = (spcs [(x, y), (x', y'), (x2, y2)]).toArray := by simp [spcs, spc2]
    rw [e]
    have h := RowAt.new w.drew 30 ((spcs [(x, y), (x', y'), (x2, y2)]).toArray ++ Builtin.zeroCells (Value.cells (sov 0 0)) (grownCap w (2 + 1) 2 30 - (2 + 1)))
    exact sp_row h
  · exact (Below.refl _ _).drew.alloc (Nat.le_refl _) _
theorem over_rd {x y : List Nat} (hx : okb x) (hy : okb y) {l : List (List Nat)} (ho : ∀ b ∈ l, okb b) {v : Value} {w : World} (h : RdB l v w) (hl : l.length ≤ 900000) (ht : TAt w) : Calls Tryz.prog 67 #[.agg (wq x), .agg (wq y), v] w fun e w' => ∃ u, e = .returned u ∧ Is (.agg (wq (xB (mix x y :: l)))) u w' ∧ Below w.heap.size w w' := by
  obtain ⟨A, c, rfl, hr⟩ := h
  exact calls_is (over_any hx hy ho A c w hr hl ht)
set_option maxHeartbeats 12800000 in
theorem fill_any {a t l m b c g z q pc h G : Nat} {L : List (List Nat)} {w : World} (hG : GrAt w q pc h G a t l m b c g z L) (hl : l ≤ 1000) (hc : c ≤ 4000) (hL : L.length = l * c) (hT : TAt w) (p s k x k' y r cc : Nat) (h1 : k < l) (h2 : x < c) (h3 : k' < l) (h4 : y < c) (h5 : r < l) (h6 : cc < c) (nb' : List Nat)
    (hnb : xB (mix (L.getD (k' * c + y) []) (L.getD (r * c + cc) []) :: if p = 0 then [] else [L.getD (k * c + x) []]) = nb') :
    Calls Tryz.prog 41 #[.pointer (some ⟨q, 0, none⟩), tuv p s, stpv k x k' y r cc] w fun e w' => e = .returned (.int .i64 0) ∧ GrAt w' q pc h G a t l m b c g z (L.set (k * c + x) nb') ∧ Kept (fun j => j = G) w w' := by
  have hLm : L.length ≤ 4194304 := by
    rw [hL]
    exact Nat.le_trans (Nat.mul_le_mul hl hc) (by decide)
  have hlt : ∀ {i j : Nat}, i < l → j < c → i * c + j < L.length := fun {i j} hi hj => by
    have := Nat.mul_le_mul_right c (Nat.succ_le_of_lt hi)
    rw [Nat.succ_mul] at this
    omega
  have hGw : G < w.heap.size := hG.live.blk.lt
  obtain ⟨n, hn⟩ : ∃ n, k * c + x = n := ⟨_, rfl⟩
  have hnL : n < L.length := by rw [← hn]; exact hlt h1 h2
  obtain ⟨xb, hxb⟩ : ∃ xb, L.getD (k' * c + y) [] = xb := ⟨_, rfl⟩
  obtain ⟨yb, hyb⟩ : ∃ yb, L.getD (r * c + cc) [] = yb := ⟨_, rfl⟩
  obtain ⟨zb', hzb⟩ : ∃ zb', L.getD n [] = zb' := ⟨_, rfl⟩
  have hxo : okb xb := by rw [← hxb]; exact block_ok hG.live.ok _ (hlt h3 h4)
  have hyo : okb yb := by rw [← hyb]; exact block_ok hG.live.ok _ (hlt h5 h6)
  have hzo : okb zb' := by rw [← hzb]; exact block_ok hG.live.ok _ hnL
  rw [hxb, hyb, hn, hzb] at hnb
  rw [hn]
  obtain ⟨rs, hrs⟩ : ∃ rs : List (List Nat), (if p = 0 then [] else [zb']) = rs := ⟨_, rfl⟩
  rw [hrs] at hnb
  have hro : ∀ b ∈ rs, okb b := by
    rw [← hrs]
    split
    · intro b hb; cases hb
    · intro b hb; rw [List.mem_singleton.1 hb]; exact hzo
  have hrl : rs.length ≤ 900000 := by rw [← hrs]; split <;> simp
  have hno : okb nb' := by
    rw [← hnb]
    refine xB_ok _ fun x hx => ?_
    rcases List.mem_cons.1 hx with rfl | hx
    · exact mix_ok hxo hyo
    · exact hro x hx
  obtain ⟨ps, hps⟩ : ∃ ps : List (Nat × Nat), (k', y) :: (r, cc) :: (if p = 0 then [] else [(k, x)]) = ps := ⟨_, rfl⟩
  have hpl : ps.length ≤ 3 := by rw [← hps]; split <;> simp
  have hpi : ∀ u ∈ ps, u.1 < l ∧ u.2 < c := by
    rw [← hps]
    intro u hu
    rcases List.mem_cons.1 hu with rfl | hu
    · exact ⟨h3, h4⟩
    rcases List.mem_cons.1 hu with rfl | hu
    · exact ⟨h5, h6⟩
    split at hu
    · cases hu
    · rw [List.mem_singleton.1 hu]; exact ⟨h1, h2⟩
  have hpb : blks c L ps = xb :: yb :: rs := by
    rw [← hps, ← hrs]
    by_cases hp : p = 0
    · simp only [blks, if_pos hp, List.map_cons, List.map_nil, hxb, hyb]
    · simp only [blks, if_neg hp, List.map_cons, List.map_nil, hxb, hyb, hn, hzb]
  have CLd : Hid (∀ u, Below w.heap.size w u → ∀ A cp, Reads u u.heap.size A (spcs ps) → Calls Tryz.prog 66 #[.pointer (some ⟨q, 0, none⟩), .slice A ps.length cp] u fun e w' => ∃ v, e = .returned (.tuple #[v, .int .i64 0]) ∧ OwB u.heap.size (xb :: yb :: rs) v w' ∧ Below u.heap.size u w') := Lib.hid fun u hu A cp hr => by
    have H := loads_any (hG.step hu) (by omega) (by omega) hL hLm ps hpi (by omega) A cp hr
    rwa [hpb] at H
  obtain ⟨F, hF⟩ : ∃ F : World → Prop, F = fun u => GrAt u q pc h G a t l m b c g z (L.set n nb') ∧ Kept (fun j => j = G) w u := ⟨_, rfl⟩
  have HFS : Hid (∀ u u', F u → Below u.heap.size u u' → F u') := Lib.hid fun u u' hu hb => by
    subst hF
    exact ⟨hu.1.step hb, hu.2.trans (Kept.of_below (M := fun _ => False) hb) fun _ _ h => h.elim⟩
  have HFE : Hid (∀ u, F u → GrAt u q pc h G a t l m b c g z (L.set n nb') ∧ Kept (fun j => j = G) w u) := Lib.hid fun u hu => by subst hF; exact hu
  obtain ⟨w1, e1⟩ : ∃ w1, w1 = (w.alloc (.cells (tuc p s) 28)).alloc (.cells (stpc k x k' y r cc) 98) := ⟨_, rfl⟩
  have b1 : Below w.heap.size w w1 := by rw [e1]; exact two_box _ _ _
  have HTu : RowAt w1 w.heap.size 28 (tuc p s) := by rw [e1]; exact (RowAt.new _ _ _).alloc _
  have HSt : RowAt w1 (w.heap.size + 1) 98 (stpc k x k' y r cc) := by
    rw [e1]
    have h := RowAt.new (w.alloc (.cells (tuc p s) 28)) 98 (stpc k x k' y r cc)
    rwa [World.size_alloc] at h
  obtain ⟨S5, hS5⟩ : ∃ S5, w.heap.size + 1 = S5 := ⟨_, rfl⟩
  rw [hS5] at HSt
  have HQ0 : Hid (∀ N w4 g8 n8 c8, Below w1.heap.size w1 w4 → OwB N (xb :: yb :: rs) (.slice (some ⟨g8, 0, none⟩) n8 c8) w4 → n8 = rs.length + 2 → ∀ u, Below w4.heap.size w4 u →
      (loadVar 30 ⟨S5, 0, none⟩).run Tryz.prog u = .ok (sov k x) u ∧ 0 < n8 ∧ 1 < n8 ∧ (loadVar 83 ⟨g8, 0, none⟩).run Tryz.prog u = .ok (.agg (wq xb)) u ∧ (loadVar 83 ⟨g8, 128, none⟩).run Tryz.prog u = .ok (.agg (wq yb)) u ∧ (Instr.sliceAt 91 (.slice (some ⟨g8, 0, none⟩) n8 c8) (some (.int .i64 2)) none none).run Tryz.prog u = .ok (restV g8 n8 c8) u ∧
      Calls Tryz.prog 67 #[.agg (wq xb), .agg (wq yb), restV g8 n8 c8] u (fun e w' => ∃ v, e = .returned v ∧ Is (.agg (wq nb')) v w' ∧ Below u.heap.size u w') ∧
      Calls Tryz.prog 30 #[.pointer (some ⟨q, 0, none⟩), sov k x, .agg (wq nb')] u (fun e w' => e = .returned (.int .i64 0) ∧ F w' ∧ Kept (fun j => j = G) u w')) := Lib.hid fun N w4 g8 n8 c8 h4 ho hn8 u hu => by
    have h14 : Below w1.heap.size w1 u := h4.trans (hu.mono h4.size)
    have h0 : Below w.heap.size w u := b1.trans (h14.mono b1.size)
    obtain ⟨o1, o2, o3, o4⟩ := owb_rest (stable_owb _ _ _ _ _ ho hu) hxo hyo
    refine ⟨(step_loads (HSt.step h14)).1, by omega, by omega, o1, o2, o3, ?_, ?_⟩
    · have H := over_rd hxo hyo hro o4 hrl (hT.next h0)
      rwa [hnb] at H
    · refine (gstore_any (hG.step h0) (by omega) (by omega) k x n h1 h2 hn hnL hLm hno).mono ?_
      rintro e w' ⟨rfl, hg', hk'⟩
      subst hF
      exact ⟨rfl, ⟨hg', (Kept.of_below (M := fun j => j = G) h0).trans hk' fun _ _ h => h⟩, hk'⟩
  have HCL1 : Hid (∀ u, Below w1.heap.size w1 u → ∀ A cp, Reads u u.heap.size A (spcs ps) → Calls Tryz.prog 66 #[.pointer (some ⟨q, 0, none⟩), .slice A ps.length cp] u fun e w' => ∃ v, e = .returned (.tuple #[v, .int .i64 0]) ∧ OwB u.heap.size (xb :: yb :: rs) v w' ∧ Below u.heap.size u w') := Lib.hid fun u hu => CLd.out u (b1.trans (hu.mono b1.size))
  have HGw : Hid (G ≤ w1.heap.size) := Lib.hid (by have := b1.size; omega)
  have HST := Lib.hid HSt
  have HTU := Lib.hid HTu
  have E1 := Lib.hid e1
  have HPS := Lib.hid hps
  clear CLd hF hG hT h1 h2 h3 h4 h5 h6 hnb hxo hyo hzo hrs hro hrl hno hps hpl hpi hpb hxb hyb hzb hnL hlt hLm hL hl hc hGw hn b1 HSt HTu e1
  go_enter Tryz.func41, Tryz.ntmps41
  go_upto_region 1 with fail
  rw [← E1.out]
  clear E1 hS5
  generalize w.heap.size = T0 at *
  have HB2 := Lib.hid (one_box w1 (.cells (spcs [(k', y), (r, cc)]).toArray 30))
  have HR2 := Lib.hid (RowAt.new w1 30 (spcs [(k', y), (r, cc)]).toArray)
  go_upto_region 2 with (first
    | refine wpList_load_want rfl 30 _ rfl _ _ rfl (step_loads HST.out).2.1 ?_
    | refine wpList_load_want rfl 30 _ rfl _ _ rfl (step_loads HST.out).2.2 ?_
    | refine wpList_madeN rfl _ _ (spots2_run rfl rfl rfl) ?_)
  have HTU2 := Lib.hid (RowAt.step HTU.out HB2.out)
  have HST2 := Lib.hid (RowAt.step HST.out HB2.out)
  generalize hw2 : World.alloc w1 _ = w2 at *
  clear hw2 HTU HST
  have k0 : w2.cell? ⟨T0, 0, none⟩ = some (.int .i64 (p : Int)) := (tu_cells HTU2.out).1
  by_cases hp : p = 0
  · subst hp
    obtain rfl := HPS.out
    have hRd : Reads w2 w2.heap.size (some ⟨w1.heap.size, 0, none⟩) (spcs [(k', y), (r, cc)]) := sp_row (z := #[]) (by simpa using HR2.out)
    have HC := Lib.hid (HCL1.out w2 HB2.out _ 2 hRd)
    clear hRd HCL1 HPS HTU2 HST2
    go_wp2_with fail
    refine HC.out.mono ?_
    rintro e w4 ⟨v4, rfl, hO4, hb4⟩
    obtain ⟨g8, n8, c8, rfl, hg8, hn8⟩ := owb_open hO4
    have HB4 : Hid (Below w1.heap.size w1 w4) := Lib.hid (HB2.out.trans (hb4.mono HB2.out.size))
    have HQ : Hid (∀ u, Below w4.heap.size w4 u → _) := Lib.hid (HQ0.out _ w4 g8 n8 c8 HB4.out hO4 hn8)
    have hs4 : G ≤ w4.heap.size := by have := HB4.out.size; have := HGw.out; omega
    clear hO4 hb4 hn8 hg8 HC HQ0
    go_upto_region 7 with fail
    refine wp_region_stage (G) [12] [] [[0], [0], [0], [0], [0], [0], [0], [0], [0], [0], [0], [0], [], [1]] [[Is (.pointer (some ⟨q, 0, none⟩)), Is (.pointer (some ⟨S5, 0, none⟩)), Is (sov k x), Is (.slice (some ⟨g8, 0, none⟩) n8 c8), Is (.pointer (some ⟨g8, 0, none⟩)), Is (.agg (wq xb)), Is (.slice (some ⟨g8, 0, none⟩) n8 c8), Is (.pointer (some ⟨g8, 128, none⟩)), Is (.agg (wq yb)), Is (.slice (some ⟨g8, 0, none⟩) n8 c8), Is (restV g8 n8 c8), Is (.agg (wq nb')), Free, Free], [Is (.pointer (some ⟨q, 0, none⟩)), Is (.pointer (some ⟨S5, 0, none⟩)), Is (sov k x), Is (.slice (some ⟨g8, 0, none⟩) n8 c8), Is (.pointer (some ⟨g8, 0, none⟩)), Is (.agg (wq xb)), Is (.slice (some ⟨g8, 0, none⟩) n8 c8), Is (.pointer (some ⟨g8, 128, none⟩)), Is (.agg (wq yb)), Is (.slice (some ⟨g8, 0, none⟩) n8 c8), Is (restV g8 n8 c8), Is (.agg (wq nb')), IsF (.int .i64 0) F, IsF (.int .i64 0) F]] [Is (.pointer (some ⟨q, 0, none⟩)), Is (.pointer (some ⟨S5, 0, none⟩)), Is (sov k x), Is (.slice (some ⟨g8, 0, none⟩) n8 c8), Is (.pointer (some ⟨g8, 0, none⟩)), Is (.agg (wq xb)), Is (.slice (some ⟨g8, 0, none⟩) n8 c8), Is (.pointer (some ⟨g8, 128, none⟩)), Is (.agg (wq yb)), Is (.slice (some ⟨g8, 0, none⟩) n8 c8), Is (restV g8 n8 c8), Is (.agg (wq nb')), IsF (.int .i64 0) F, IsF (.int .i64 0) F] (by omega) (by kernel_rfl) (by kernel_rfl) rfl rfl ⟨⟨stable_is _, stable_is _, stable_is _, stable_is _, stable_is _, stable_is _, stable_is _, stable_is _, stable_is _, stable_is _, stable_is _, stable_is _, stable_free, stable_free, trivial⟩, ⟨stable_is _, stable_is _, stable_is _, stable_is _, stable_is _, stable_is _, stable_is _, stable_is _, stable_is _, stable_is _, stable_is _, stable_is _, stable_isf _ HFS.out, stable_isf _ HFS.out, trivial⟩, trivial⟩ (by intro n hn o ho hd w; simp only [List.mem_cons, List.not_mem_nil, or_false] at hn; subst hn; first | trivial | (cases ho; cases hd)) rfl ⟨?p0, ?p1, ?p2, ?p3, ?p4, ?p5, ?p6, ?p7, ?p8, ?p9, ?p10, ?p11, fun h => absurd (by simp) h, ?p13, trivial⟩ ⟨?t0, trivial⟩ (by decide) ?fin
    case p0 =>
      intro _ k hk; obtain rfl := List.mem_singleton.1 hk; intro a w C Z
      exact partS_on (wanted_free rfl _) (op_move (.inl rfl) (C.was 0 (by kernel_rfl)))
    case p1 =>
      intro _ k hk; obtain rfl := List.mem_singleton.1 hk; intro a w C Z
      exact partS_on (wanted_free rfl _) (op_value (stepf_run (k := 0) rfl (by decide) (C.was 5 (by kernel_rfl))) rfl)
    case p2 =>
      intro _ k hk; obtain rfl := List.mem_singleton.1 hk; intro a w C Z
      exact partS_on (wanted_free rfl _) (op_value (load_run rfl (C.on (j := 1) (by kernel_rfl) rfl rfl) (HQ.out w C.below).1) rfl)
    case p3 =>
      intro _ k hk; obtain rfl := List.mem_singleton.1 hk; intro a w C Z
      exact partS_on (wanted_free rfl _) (op_move (.inl rfl) (C.was 8 (by kernel_rfl)))
    case p4 =>
      intro _ k hk; obtain rfl := List.mem_singleton.1 hk; intro a w C Z
      exact partS_on (wanted_free rfl _) (op_value (ixr_run (i := 0) rfl (C.on (j := 3) (by kernel_rfl) rfl rfl) rfl (HQ.out w C.below).2.1) rfl)
    case p5 =>
      intro _ k hk; obtain rfl := List.mem_singleton.1 hk; intro a w C Z
      exact partS_on (wanted_free rfl _) (op_value (load_run rfl (C.on (j := 4) (by kernel_rfl) rfl rfl) (HQ.out w C.below).2.2.2.1) rfl)
    case p6 =>
      intro _ k hk; obtain rfl := List.mem_singleton.1 hk; intro a w C Z
      exact partS_on (wanted_free rfl _) (op_move (.inl rfl) (C.was 8 (by kernel_rfl)))
    case p7 =>
      intro _ k hk; obtain rfl := List.mem_singleton.1 hk; intro a w C Z
      exact partS_on (wanted_free rfl _) (op_value (ixr_run (i := 1) rfl (C.on (j := 6) (by kernel_rfl) rfl rfl) rfl (HQ.out w C.below).2.2.1) rfl)
    case p8 =>
      intro _ k hk; obtain rfl := List.mem_singleton.1 hk; intro a w C Z
      exact partS_on (wanted_free rfl _) (op_value (load_run rfl (C.on (j := 7) (by kernel_rfl) rfl rfl) (HQ.out w C.below).2.2.2.2.1) rfl)
    case p9 =>
      intro _ k hk; obtain rfl := List.mem_singleton.1 hk; intro a w C Z
      exact partS_on (wanted_free rfl _) (op_move (.inl rfl) (C.was 8 (by kernel_rfl)))
    case p10 =>
      intro _ k hk; obtain rfl := List.mem_singleton.1 hk; intro a w C Z
      exact partS_on (wanted_free rfl _) (op_value (sl_run rfl (C.on (j := 9) (by kernel_rfl) rfl rfl) rfl (HQ.out w C.below).2.2.2.2.2.1) rfl)
    case p11 =>
      intro _ k hk; obtain rfl := List.mem_singleton.1 hk; intro a w C Z
      exact partS_on (wanted_free rfl _) (op_call3 rfl (reg_enters Tryz.func67 (by kernel_rfl) (by kernel_rfl)) (C.on (j := 5) (by kernel_rfl) rfl rfl) (C.on (j := 8) (by kernel_rfl) rfl rfl) (C.on (j := 10) (by kernel_rfl) rfl rfl) (HQ.out w C.below).2.2.2.2.2.2.1)
    case p13 =>
      intro _ k hk; obtain rfl := List.mem_singleton.1 hk; intro a w C Z
      exact partS_on (wanted_free rfl _) (op_move (.inr rfl) (C.on (j := 12) (by kernel_rfl) rfl rfl))
    case t0 =>
      intro o ho a w C A
      cases ho
      have cb : Below w4.heap.size w4 w := C.below
      refine ⟨wanted_free rfl _, ?_⟩
      unfold TurnsS
      refine Oper.wp_mono ?_ (turn_enter (v := .int .i64 0) (reg_call3 rfl (reg_enters Tryz.func30 (by kernel_rfl) (by kernel_rfl)) (C.on (j := 0) (by kernel_rfl) rfl rfl) (C.on (j := 2) (by kernel_rfl) rfl rfl) (C.on (j := 11) (by kernel_rfl) rfl rfl)) (HQ.out w C.below).2.2.2.2.2.2.2)
      rintro a2 w2 ⟨rfl, hf, hk⟩
      refine ⟨_, rfl, ⟨rfl, hf⟩, (cb.mono hs4).trans (hk.below (by have := cb.size; omega) fun j hj => by omega), hk.size, ?_⟩
      · intro i o2 d hi hd hne hnw h
        have hil := (List.getElem?_eq_some_iff.1 hi).1
        replace hil : i < 14 := hil
        obtain rfl | rfl | rfl | rfl | rfl | rfl | rfl | rfl | rfl | rfl | rfl | rfl | rfl | rfl : i = 0 ∨ i = 1 ∨ i = 2 ∨ i = 3 ∨ i = 4 ∨ i = 5 ∨ i = 6 ∨ i = 7 ∨ i = 8 ∨ i = 9 ∨ i = 10 ∨ i = 11 ∨ i = 12 ∨ i = 13 := by omega
        · exact h
        · exact h
        · exact h
        · exact h
        · exact h
        · exact h
        · exact h
        · exact h
        · exact h
        · exact h
        · exact h
        · exact h
        · exact absurd rfl hne
        · exact absurd hnw (by rw [show waits _ 13 12 = true from by kernel_rfl]; decide)
    case fin =>
      rintro w9 _ _ rfl _ rfl _ rfl _ rfl _ rfl _ rfl _ rfl _ rfl _ rfl _ rfl _ rfl _ rfl _ ⟨rfl, _⟩ _ ⟨rfl, hFF⟩
      simp only [Fin, setAt, Exit.then, List.setIfInBounds_toArray, List.set_cons_succ, List.set_cons_zero]
      go_wp2
      refine bodyPost_ret (results_tmp rfl _ _ _) rfl ?_
      exact ⟨rfl, HFE.out _ hFF⟩
  · have hp2 : ((p : Int) != 0) = true := by simp; omega
    have hp3 : ¬ (p : Int) = 0 := by omega
    have HPS2 : Hid (ps = [(k', y), (r, cc), (k, x)]) := Lib.hid (by rw [← HPS.out, if_neg hp])
    obtain rfl := HPS2.out
    have HB3 := Lib.hid (one_box w2 (.cells (spcs [(k, x)]).toArray 30))
    have HR3 := Lib.hid (RowAt.new w2 30 (spcs [(k, x)]).toArray)
    obtain ⟨cp, w3, hap, hRd, hb3⟩ := app_spot (RowAt.step HR2.out HB3.out) HR3.out 134
    simp only [World.size_alloc] at hap hRd
    have HAP := Lib.hid hap
    have HB3' := Lib.hid (HB2.out.trans ((below_step HB3.out hb3).mono HB2.out.size))
    have HC := Lib.hid (HCL1.out w3 HB3'.out _ cp hRd)
    have H0 := Lib.hid (step_loads HST2.out).1
    clear hap hRd hb3 HCL1 HPS HPS2 HTU2 HST2 hp HB3 HR3
    go_wp2_with (first
      | refine wpList_load_want rfl 30 _ rfl _ _ rfl H0.out ?_
      | refine wpList_madeN rfl _ _ (spots1_run rfl rfl) ?_
      | refine wpList_madeN rfl _ _ (op_append rfl rfl rfl HAP.out) ?_)
    refine HC.out.mono ?_
    rintro e w4 ⟨v4, rfl, hO4, hb4⟩
    obtain ⟨g8, n8, c8, rfl, hg8, hn8⟩ := owb_open hO4
    have HB4 : Hid (Below w1.heap.size w1 w4) := Lib.hid (HB3'.out.trans (hb4.mono HB3'.out.size))
    have HQ : Hid (∀ u, Below w4.heap.size w4 u → _) := Lib.hid (HQ0.out _ w4 g8 n8 c8 HB4.out hO4 hn8)
    have hs4 : G ≤ w4.heap.size := by have := HB4.out.size; have := HGw.out; omega
    clear hO4 hb4 hn8 hg8 HC HQ0
    go_upto_region 7 with fail
    refine wp_region_stage (G) [12] [] [[0], [0], [0], [0], [0], [0], [0], [0], [0], [0], [0], [0], [], [1]] [[Is (.pointer (some ⟨q, 0, none⟩)), Is (.pointer (some ⟨S5, 0, none⟩)), Is (sov k x), Is (.slice (some ⟨g8, 0, none⟩) n8 c8), Is (.pointer (some ⟨g8, 0, none⟩)), Is (.agg (wq xb)), Is (.slice (some ⟨g8, 0, none⟩) n8 c8), Is (.pointer (some ⟨g8, 128, none⟩)), Is (.agg (wq yb)), Is (.slice (some ⟨g8, 0, none⟩) n8 c8), Is (restV g8 n8 c8), Is (.agg (wq nb')), Free, Free], [Is (.pointer (some ⟨q, 0, none⟩)), Is (.pointer (some ⟨S5, 0, none⟩)), Is (sov k x), Is (.slice (some ⟨g8, 0, none⟩) n8 c8), Is (.pointer (some ⟨g8, 0, none⟩)), Is (.agg (wq xb)), Is (.slice (some ⟨g8, 0, none⟩) n8 c8), Is (.pointer (some ⟨g8, 128, none⟩)), Is (.agg (wq yb)), Is (.slice (some ⟨g8, 0, none⟩) n8 c8), Is (restV g8 n8 c8), Is (.agg (wq nb')), IsF (.int .i64 0) F, IsF (.int .i64 0) F]] [Is (.pointer (some ⟨q, 0, none⟩)), Is (.pointer (some ⟨S5, 0, none⟩)), Is (sov k x), Is (.slice (some ⟨g8, 0, none⟩) n8 c8), Is (.pointer (some ⟨g8, 0, none⟩)), Is (.agg (wq xb)), Is (.slice (some ⟨g8, 0, none⟩) n8 c8), Is (.pointer (some ⟨g8, 128, none⟩)), Is (.agg (wq yb)), Is (.slice (some ⟨g8, 0, none⟩) n8 c8), Is (restV g8 n8 c8), Is (.agg (wq nb')), IsF (.int .i64 0) F, IsF (.int .i64 0) F] (by omega) (by kernel_rfl) (by kernel_rfl) rfl rfl ⟨⟨stable_is _, stable_is _, stable_is _, stable_is _, stable_is _, stable_is _, stable_is _, stable_is _, stable_is _, stable_is _, stable_is _, stable_is _, stable_free, stable_free, trivial⟩, ⟨stable_is _, stable_is _, stable_is _, stable_is _, stable_is _, stable_is _, stable_is _, stable_is _, stable_is _, stable_is _, stable_is _, stable_is _, stable_isf _ HFS.out, stable_isf _ HFS.out, trivial⟩, trivial⟩ (by intro n hn o ho hd w; simp only [List.mem_cons, List.not_mem_nil, or_false] at hn; subst hn; first | trivial | (cases ho; cases hd)) rfl ⟨?p0, ?p1, ?p2, ?p3, ?p4, ?p5, ?p6, ?p7, ?p8, ?p9, ?p10, ?p11, fun h => absurd (by simp) h, ?p13, trivial⟩ ⟨?t0, trivial⟩ (by decide) ?fin
    case p0 =>
      intro _ k hk; obtain rfl := List.mem_singleton.1 hk; intro a w C Z
      exact partS_on (wanted_free rfl _) (op_move (.inl rfl) (C.was 0 (by kernel_rfl)))
    case p1 =>
      intro _ k hk; obtain rfl := List.mem_singleton.1 hk; intro a w C Z
      exact partS_on (wanted_free rfl _) (op_value (stepf_run (k := 0) rfl (by decide) (C.was 5 (by kernel_rfl))) rfl)
    case p2 =>
      intro _ k hk; obtain rfl := List.mem_singleton.1 hk; intro a w C Z
      exact partS_on (wanted_free rfl _) (op_value (load_run rfl (C.on (j := 1) (by kernel_rfl) rfl rfl) (HQ.out w C.below).1) rfl)
    case p3 =>
      intro _ k hk; obtain rfl := List.mem_singleton.1 hk; intro a w C Z
      exact partS_on (wanted_free rfl _) (op_move (.inl rfl) (C.was 8 (by kernel_rfl)))
    case p4 =>
      intro _ k hk; obtain rfl := List.mem_singleton.1 hk; intro a w C Z
      exact partS_on (wanted_free rfl _) (op_value (ixr_run (i := 0) rfl (C.on (j := 3) (by kernel_rfl) rfl rfl) rfl (HQ.out w C.below).2.1) rfl)
    case p5 =>
      intro _ k hk; obtain rfl := List.mem_singleton.1 hk; intro a w C Z
      exact partS_on (wanted_free rfl _) (op_value (load_run rfl (C.on (j := 4) (by kernel_rfl) rfl rfl) (HQ.out w C.below).2.2.2.1) rfl)
    case p6 =>
      intro _ k hk; obtain rfl := List.mem_singleton.1 hk; intro a w C Z
      exact partS_on (wanted_free rfl _) (op_move (.inl rfl) (C.was 8 (by kernel_rfl)))
    case p7 =>
      intro _ k hk; obtain rfl := List.mem_singleton.1 hk; intro a w C Z
      exact partS_on (wanted_free rfl _) (op_value (ixr_run (i := 1) rfl (C.on (j := 6) (by kernel_rfl) rfl rfl) rfl (HQ.out w C.below).2.2.1) rfl)
    case p8 =>
      intro _ k hk; obtain rfl := List.mem_singleton.1 hk; intro a w C Z
      exact partS_on (wanted_free rfl _) (op_value (load_run rfl (C.on (j := 7) (by kernel_rfl) rfl rfl) (HQ.out w C.below).2.2.2.2.1) rfl)
    case p9 =>
      intro _ k hk; obtain rfl := List.mem_singleton.1 hk; intro a w C Z
      exact partS_on (wanted_free rfl _) (op_move (.inl rfl) (C.was 8 (by kernel_rfl)))
    case p10 =>
      intro _ k hk; obtain rfl := List.mem_singleton.1 hk; intro a w C Z
      exact partS_on (wanted_free rfl _) (op_value (sl_run rfl (C.on (j := 9) (by kernel_rfl) rfl rfl) rfl (HQ.out w C.below).2.2.2.2.2.1) rfl)
    case p11 =>
      intro _ k hk; obtain rfl := List.mem_singleton.1 hk; intro a w C Z
      exact partS_on (wanted_free rfl _) (op_call3 rfl (reg_enters Tryz.func67 (by kernel_rfl) (by kernel_rfl)) (C.on (j := 5) (by kernel_rfl) rfl rfl) (C.on (j := 8) (by kernel_rfl) rfl rfl) (C.on (j := 10) (by kernel_rfl) rfl rfl) (HQ.out w C.below).2.2.2.2.2.2.1)
    case p13 =>
      intro _ k hk; obtain rfl := List.mem_singleton.1 hk; intro a w C Z
      exact partS_on (wanted_free rfl _) (op_move (.inr rfl) (C.on (j := 12) (by kernel_rfl) rfl rfl))
    case t0 =>
      intro o ho a w C A
      cases ho
      have cb : Below w4.heap.size w4 w := C.below
      refine ⟨wanted_free rfl _, ?_⟩
      unfold TurnsS
      refine Oper.wp_mono ?_ (turn_enter (v := .int .i64 0) (reg_call3 rfl (reg_enters Tryz.func30 (by kernel_rfl) (by kernel_rfl)) (C.on (j := 0) (by kernel_rfl) rfl rfl) (C.on (j := 2) (by kernel_rfl) rfl rfl) (C.on (j := 11) (by kernel_rfl) rfl rfl)) (HQ.out w C.below).2.2.2.2.2.2.2)
      rintro a2 w2 ⟨rfl, hf, hk⟩
      refine ⟨_, rfl, ⟨rfl, hf⟩, (cb.mono hs4).trans (hk.below (by have := cb.size; omega) fun j hj => by omega), hk.size, ?_⟩
      · intro i o2 d hi hd hne hnw h
        have hil := (List.getElem?_eq_some_iff.1 hi).1
        replace hil : i < 14 := hil
        obtain rfl | rfl | rfl | rfl | rfl | rfl | rfl | rfl | rfl | rfl | rfl | rfl | rfl | rfl : i = 0 ∨ i = 1 ∨ i = 2 ∨ i = 3 ∨ i = 4 ∨ i = 5 ∨ i = 6 ∨ i = 7 ∨ i = 8 ∨ i = 9 ∨ i = 10 ∨ i = 11 ∨ i = 12 ∨ i = 13 := by omega
        · exact h
        · exact h
        · exact h
        · exact h
        · exact h
        · exact h
        · exact h
        · exact h
        · exact h
        · exact h
        · exact h
        · exact h
        · exact absurd rfl hne
        · exact absurd hnw (by rw [show waits _ 13 12 = true from by kernel_rfl]; decide)
    case fin =>
      rintro w9 _ _ rfl _ rfl _ rfl _ rfl _ rfl _ rfl _ rfl _ rfl _ rfl _ rfl _ rfl _ rfl _ ⟨rfl, _⟩ _ ⟨rfl, hFF⟩
      simp only [Fin, setAt, Exit.then, List.setIfInBounds_toArray, List.set_cons_succ, List.set_cons_zero]
      go_wp2
      refine bodyPost_ret (results_tmp rfl _ _ _) rfl ?_
      exact ⟨rfl, HFE.out _ hFF⟩
end Go.Proofs.YtfoodaobiknihaaGreatDoor
