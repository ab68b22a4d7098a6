/- Last of package grid by its contract: the last column's blocks put together. Conditions: those typed. -/
import Derived.Test.YtpampgkhjcfeaaaDoorGdNil
import Derived.Deep.LoopGhost
import Derived.Deep.CutBlock
import Derived.Deep.CutRange
import Derived.WalkMore
import Derived.Deep.RegionWith
namespace Go.Proofs.YtpampgkhjcfeaaaDoor
set_option maxRecDepth 50000
open Go.RowKit Bb

/-- the last column's blocks of the first n lanes -/
def lastL (c : Nat) (L : List (List Nat)) (n : Nat) : List (List Nat) := (List.range n).map fun i => L.getD (i * c + (c - 1)) []
theorem last_next (c : Nat) (L : List (List Nat)) (n : Nat) : lastL c L (n + 1) = lastL c L n ++ [L.getD (n * c + (c - 1)) []] := by
  simp [lastL, List.range_succ]
theorem last_len (c : Nat) (L : List (List Nat)) (n : Nat) : (lastL c L n).length = n := by simp [lastL]
theorem last_in {c l i : Nat} {L : List (List Nat)} (hL : L.length = l * c) (hc : 0 < c) (hi : i < l) : i * c + (c - 1) < L.length := by
  have h1 : (i + 1) * c ≤ l * c := Nat.mul_le_mul_right c (by omega)
  rw [Nat.add_mul, Nat.one_mul] at h1
  omega
theorem last_ok {c l n : Nat} {L : List (List Nat)} (h : ∀ b ∈ L, okb b) (hL : L.length = l * c) (hc : 0 < c) (hn : n ≤ l) : ∀ b ∈ lastL c L n, okb b := fun b hb => by
  obtain ⟨i, hi, rfl⟩ := List.mem_map.1 hb
  have hi := List.mem_range.1 hi
  exact block_ok h _ (last_in hL hc (by omega))
theorem xB_nil : xB [] = zb := (xst_end ([] : List (List Nat))).symm.trans (xst_start [])
theorem xB_step (l : List (List Nat)) (b : List Nat) : xB [xB l, b] = xB (l ++ [b]) := tb_congr _ _ fun k hk => by
  rw [xw_snoc, show [xB l, b] = [xB l] ++ [b] from rfl, xw_snoc]
  congr 1
  rw [show [xB l] = [] ++ [xB l] from rfl, xw_snoc]
  simp only [xw, List.foldl_nil, Nat.zero_xor]
  unfold xB
  rw [tb_at _ _ hk]
  rfl
theorem bcs_two (x y : List Nat) : bcs [x, y] = u64s x ++ u64s y := by simp [bcs]
theorem bcs_cons (x : List Nat) (l : List (List Nat)) : bcs (x :: l) = u64s x ++ bcs l := by simp [bcs]
theorem build_two (w : World) {x y : List Nat} (hx : x.length = 128) (hy : y.length = 128) : (Instr.buildSlice 52 2 #[(0, .agg (wq x)), (1, .agg (wq y))]).run Tryd.prog w = .ok (.slice (some ⟨w.heap.size, 0, none⟩) 2 2) (w.alloc (.cells (bcs [x, y]).toArray 29)) := by
  obtain ⟨i, hi, hz, hs, hby⟩ := b_parts
  refine run_buildSlice w _ _ 2 _ (bcs [x, y]).toArray i _ Tryd.underlying52 hi hz (by rw [hs]; decide) (by rw [hs]; decide) ?_
  have hsx : (wq x).size = 128 := by rw [wq_size]; exact hx
  have hsy : (wq y).size = 128 := by rw [wq_size]; exact hy
  have ex : (Value.agg (wq x)).cells = wq x := rfl
  have ey : (Value.agg (wq y)).cells = wq y := rfl
  have hf : ∀ (l : List Value) (o n : Nat) (cs : Array Value), (l.zipIdx n).foldl (fun (cs : Array Value) (x : Value × Nat) => cs.setIfInBounds (o + x.2) x.1) cs = (l.zipIdx (o + n)).foldl (fun (cs : Array Value) (x : Value × Nat) => cs.setIfInBounds x.2 x.1) cs := by
    intro l o
    induction l with
    | nil => intro n cs; rfl
    | cons y l ih => intro n cs; rw [List.zipIdx_cons, List.zipIdx_cons, List.foldl_cons, List.foldl_cons, ih (n + 1)]; rfl
  have hx2 : (wq x).toList = u64s x := rfl
  have hy2 : (wq y).toList = u64s y := rfl
  have hlx : (u64s x).length = 128 := by rw [u64s_length]; exact hx
  have hly : (u64s y).length = 128 := by rw [u64s_length]; exact hy
  simp only [Instr.fill, hs, ex, ey, hsx, hsy, Nat.zero_mul, Nat.one_mul, ne_eq, not_true_eq_false]
  have hr : ((Array.range (2 * 128)).map ((Value.agg (wq zb)).cells[· % (Value.agg (wq zb)).cells.size]!)).size = 256 := by simp
  generalize Array.map _ (Array.range (2 * 128)) = Z at *
  have hz2 : Z.toList.length = 256 := by rw [Array.length_toList]; exact hr
  have h1 : (wq x).zipIdx.foldl (fun (cs : Array Value) (x : Value × Nat) => cs.setIfInBounds (0 + x.2) x.1) Z = (u64s x ++ Z.toList.drop 128).toArray := by
    rw [← Array.foldl_toList, Array.toList_zipIdx, hf _ 0 0, fold_cells _ _ _ (by simp [hsx]; omega), hx2, hlx]
    simp
  have h2 : (wq y).zipIdx.foldl (fun (cs : Array Value) (x : Value × Nat) => cs.setIfInBounds (128 + x.2) x.1) (u64s x ++ Z.toList.drop 128).toArray = (bcs [x, y]).toArray := by
    rw [← Array.foldl_toList, Array.toList_zipIdx, hf _ 128 0, fold_cells _ _ _ (by simp [hsy, hlx]; omega), hy2, hly, bcs_two]
    simp only [Nat.add_zero]
    rw [List.take_left' hlx, List.drop_of_length_le (by simp [hlx]; omega), List.append_nil]
  rw [h1, h2, if_neg (by simp [hr]), if_neg (by simp [hlx]; omega)]
theorem build_two_run {w : World} {ev : Operand → Value} {p q : Operand} {o : Oper} {x y : List Nat} (hx : x.length = 128) (hy : y.length = 128) (hop : o.op = .buildSlice 52 2 #[(0, p), (1, q)]) (hp : ev p = .agg (wq x)) (hq : ev q = .agg (wq y)) : (execOp ev o).run Tryd.prog w = .ok (.value (.slice (some ⟨w.heap.size, 0, none⟩) 2 2)) (w.alloc (.cells (bcs [x, y]).toArray 29)) := by
  simp only [execOp, hop, List.map_toArray, List.map_cons, List.map_nil, hp, hq, Sem.run_bind, build_two w hx hy, Result.andThen_ok, Sem.run_pure]
theorem wpList_made {P : Program} {ops : Array Oper} {rest : List Oper} {o : Oper} {a : Act} {w : World} {Q : Exit → Act → World → Prop} (hgd : o.guard = none) (v : Value) (w' : World) (hr : (execOp a.eval o).run P w = .ok (.value v) w') (h : wpList P ops Q rest (a.put o.dst v) w') : wpList P ops Q (o :: rest) a w := wpList_plain hgd fun _ hK => by
  unfold Oper.wp
  rw [hr]
  exact hK _ _ h
/-- a row that was made reads so -/
theorem two_reads (w : World) {x y : List Nat} : Reads (w.alloc (.cells (bcs [x, y]).toArray 29)) (w.alloc (.cells (bcs [x, y]).toArray 29)).heap.size (some ⟨w.heap.size, 0, none⟩) (bcs [x, y]) := fun k hk => by
  refine ⟨w.heap.size, 0, rfl, by rw [World.size_alloc]; omega, ?_⟩
  have h := RowAt.cell (RowAt.new w 29 (bcs [x, y]).toArray) k
  rw [Nat.zero_add, h, List.getElem?_toArray, List.getElem?_eq_getElem hk]

section
variable {w : World} {q p h G a t l m b c g z : Nat} {L : List (List Nat)}
set_option maxHeartbeats 6400000 in
theorem last_any (hG : GrAt w q p h G a t l m b c g z L) (hl : l ≤ 1000) (hc0 : 0 < c) (hc : c ≤ 4194304) (hL : L.length = l * c) (hLm : L.length ≤ 4194304) :
    Calls Tryd.prog 7 #[.pointer (some ⟨q, 0, none⟩)] w fun e w' => e = .returned (.tuple #[.agg (wq (xB (lastL c L l))), .int .i64 0]) ∧ Below w.heap.size w w' := by
  obtain ⟨N, hN⟩ : ∃ N, N = w.heap.size := ⟨_, rfl⟩
  obtain ⟨d, hd⟩ : ∃ d, d = c - 1 := ⟨_, rfl⟩
  have hz := zero_b
  obtain ⟨w1, e1⟩ : ∃ w1, w1 = (w.alloc (.cells (wq zb) 29)).alloc (.cells (wq zb) 29) := ⟨_, rfl⟩
  have b1 : Below w.heap.size w w1 := by rw [e1]; exact two_box _ _ _
  have r1 : RowAt w1 N 29 (wq zb) := by rw [e1, hN]; exact (RowAt.new w _ _).alloc _
  have r2 : RowAt w1 (N + 1) 29 (wq zb) := by
    rw [e1, hN]
    have := RowAt.new (w.alloc (.cells (wq zb) 29)) 29 (wq zb)
    rwa [World.size_alloc] at this
  have hs1 : w1.heap.size = N + 2 := by rw [e1, World.size_alloc, World.size_alloc, hN]
  have hww : IntKind.i64.wrap ((c : Int) - 1) = (d : Int) := by rw [IntKind.wrap_i64]; omega
  have HG := Lib.hid hG
  have HG1 := Lib.hid (hG.step b1)
  have k0 := HG1.out.row.lanes
  have HB1 := Lib.hid b1
  have HR1 := Lib.hid r1
  have HR2 := Lib.hid r2
  have HL := Lib.hid hL
  have HLm := Lib.hid hLm
  have HO := Lib.hid fun n hn => last_ok (n := n) hG.live.ok hL hc0 hn
  have HN := Lib.hid hN
  have HD := Lib.hid hd
  have E1 := Lib.hid e1
  clear hG b1 r1 r2 hL hLm hN hd e1
  go_enter Tryd.func7, Tryd.ntmps7
  go_upto_region 4 with fail
  rw [← E1.out, ← HN.out]
  clear E1
  go_wp2
  go_loopw [16] (fun v16 wr => ∃ i : Nat, i ≤ l ∧ v16 = .int .i64 (i : Int) ∧ Hid (RowAt wr N 29 (wq zb)) ∧ Hid (RowAt wr (N + 1) 29 (wq (xB (lastL c L i)))) ∧ Hid (Below N w wr) ∧ N + 2 ≤ wr.heap.size) (fun v16 _ => l - (intOf v16).toNat)
  case atStart => exact ⟨0, Nat.zero_le _, rfl, HR1, Lib.hid (by rw [show lastL c L 0 = [] from rfl, xB_nil]; exact HR2.out), Lib.hid (by rw [HN.out]; exact HB1.out), by omega⟩
  case round =>
    obtain ⟨i, hi, rfl, HZ, HA, HB, hs⟩ := hrel
    by_cases h : i < l
    · have hd1 : decide ((i : Int) < (l : Int)) = true := by simp; omega
      have hd2 : decide (i < l) = true := by simp; omega
      obtain ⟨n, hn⟩ : ∃ n, n = i * c + d := ⟨_, rfl⟩
      have hnL : n < L.length := by rw [hn, HD.out]; exact last_in HL.out hc0 h
      have hgr := HG.out.step (by rw [← HN.out]; exact HB.out)
      have HX := Lib.hid (block_ok hgr.live.ok n hnL)
      have k1 := hgr.row.columns
      have CG := Lib.hid (gload_any hgr (by omega) (by omega) i d n h (by have := HD.out; omega) hn.symm hnL HLm.out)
      have HS : Hid (lastL c L (i + 1) = lastL c L i ++ [L.getD n []]) := Lib.hid (by rw [last_next, ← HD.out, ← hn])
      have HAO := Lib.hid (xB_ok _ (HO.out i hi))
      generalize L.getD n [] = x at *
      have HXS := Lib.hid (xB_step (lastL c L i) x)
      rw [← HS.out] at HXS
      generalize xB (lastL c L i) = y at *
      clear hn hnL hgr HS k0
      go_wp2_with (refine wpList_value_want rfl _ (so_run rfl rfl rfl) ?_)
      refine CG.out.mono ?_
      rintro e w2 ⟨rfl, hb⟩
      have hst := set_new w2 HX.out.1
      have hb2 := below_step hb (set_below w2 x)
      have hr6 := RowAt.setRow (RowAt.new w2 29 (wq zb)) (wq x)
      have HZ2 := Lib.hid (RowAt.step HZ.out hb2)
      have HA2 := Lib.hid (RowAt.step HA.out hb2)
      have HB2 := Lib.hid (HB.out.trans (hb2.mono (by omega)))
      have hs2 := hb2.size
      have HST := Lib.hid hst
      have HR6 := Lib.hid hr6
      clear CG hb hst hb2 hr6 HZ HA HB k1
      go_upto_region 8 with (refine wpList_store_of rfl _ _ _ rfl ⟨w2.heap.size, 0, none⟩ _ rfl rfl HST.out ?_)
      generalize World.setRow _ _ _ = w3 at *
      generalize w2.heap.size = X at *
      have kA := RowAt.load HA2.out Tryd.underlying29 (by rw [wq_size, HAO.out.1]; exact b_size)
      have kX := RowAt.load HR6.out Tryd.underlying29 (by rw [wq_size, HX.out.1]; exact b_size)
      have b4 : Below w3.heap.size w3 (w3.alloc (.cells (bcs [y, x]).toArray 29)) := one_box _ _
      have CX := Lib.hid (xor_any (l := [y, x]) (fun b hb => by
        rcases List.mem_cons.1 hb with rfl | hb
        · exact HAO.out
        · rw [List.mem_singleton.1 hb]; exact HX.out) (some ⟨w3.heap.size, 0, none⟩) 2 _ (two_reads w3) (by simp))
      rw [HXS.out] at CX
      have HB4 := Lib.hid b4
      clear b4 HST
      go_wp2_with (first
        | refine wpList_load_want rfl 29 _ rfl _ _ rfl kA ?_
        | refine wpList_load_want rfl 29 _ rfl _ _ rfl kX ?_
        | refine wpList_made rfl _ _ (build_two_run HAO.out.1 HX.out.1 rfl rfl rfl) ?_)
      refine CX.out.mono ?_
      rintro e w4 ⟨rfl, hb⟩
      have hb4 := below_step HB4.out hb
      have HZ4 := Lib.hid (RowAt.step HZ2.out hb4)
      have HA4 := Lib.hid (RowAt.step HA2.out hb4)
      have HB5 := Lib.hid (HB2.out.trans (hb4.mono (by omega)))
      have hs4 := hb4.size
      have HY' := Lib.hid (xB_ok _ (HO.out (i + 1) (by omega)))
      clear CX hb hb4 kA kX HB4 HZ2 HA2 HB2 HR6 HXS
      generalize hyy : xB (lastL c L (i + 1)) = y' at *
      have HYY := Lib.hid hyy
      clear hyy
      have HST := Lib.hid (HA4.out.store (C' := wq y') (by rw [wq_size, HY'.out.1]; exact b_size) (by rw [wq_size, wq_size, HY'.out.1, HAO.out.1]) (wq_one _))
      go_wp2_with (refine wpList_store_of rfl _ _ _ rfl ⟨N + 1, 0, none⟩ _ rfl rfl HST.out ?_)
      go_roundw
      case rel => exact ⟨i + 1, by omega, by go_num, Lib.hid (RowAt.setRowOther HZ4.out _ (by omega) _), Lib.hid (by rw [HYY.out]; exact RowAt.setRow HA4.out _), Lib.hid (below_setRow HB5.out (by omega) _), by rw [setRow_size]; omega⟩
      case measure => simp [intOf]; omega
    · obtain rfl : i = l := by omega
      have hd1 : decide ((i : Int) < (i : Int)) = false := by simp
      have HAO := Lib.hid (xB_ok _ (HO.out i hi))
      generalize hye : xB (lastL c L i) = y at *
      have HYE := Lib.hid hye
      clear hye
      have kA := RowAt.load HA.out Tryd.underlying29 (by rw [wq_size, HAO.out.1]; exact b_size)
      have HST := Lib.hid (HZ.out.store (C' := wq y) (by rw [wq_size, HAO.out.1]; exact b_size) (by rw [wq_size, wq_size, HAO.out.1]; exact zb_ok.1) (wq_one _))
      go_wp2_with (first
        | refine wpList_load_want rfl 29 _ rfl _ _ rfl kA ?_
        | refine wpList_store_of rfl _ _ _ rfl ⟨N, 0, none⟩ _ rfl rfl HST.out ?_)
      have hR := RowAt.setRow HZ.out (wq y)
      refine bodyPost_ret (results_row_tmp rfl _ (p := 2) rfl hR Tryd.underlying29 rfl (by rw [wq_size, HAO.out.1]; exact b_size)) rfl ⟨by rw [HYE.out]; rfl, ?_⟩
      rw [← HN.out]
      exact below_setRow HB.out (Nat.le_refl _) _
end
end Go.Proofs.YtpampgkhjcfeaaaDoor
