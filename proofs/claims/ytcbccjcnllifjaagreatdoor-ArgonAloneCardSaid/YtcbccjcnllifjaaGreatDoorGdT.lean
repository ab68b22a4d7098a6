/- Bytes of package block, and the document's Bytes, by their contracts. Conditions: those typed. Last of package grid by its contract: the last column's blocks put together. Conditions: those typed. Tag of package grid by its contract. Condition: blake's table lies at its place. -/
import Derived.Test.YtcbccjcnllifjaaGreatDoorBm
import Derived.Laws.CopyRow
import Derived.LoopTactic
import Derived.Test.YtcbccjcnllifjaaGreatDoorGe
import Derived.Deep.LoopGhost
import Derived.Deep.CutBlock
import Derived.Deep.CutRange
import Derived.WalkMore
import Derived.Deep.RegionWith
import Derived.Test.YtcbccjcnllifjaaGreatDoorLy
namespace Go.Proofs.YtcbccjcnllifjaaGreatDoor
set_option maxRecDepth 50000
open Go.RowKit Bb
set_option maxHeartbeats 1600000 in
theorem bytes_any {L : List Nat} (hL : okb L) (w : World) : Calls Tryz.prog 68 #[.agg (wq L)] w fun e w' => e = .returned (.string (strOf (byB L))) ∧ Below w.heap.size w w' := by
  have hb := (Below.refl _ w).alloc (Nat.le_refl _) (.cells (wq L) 111)
  have hR := RowAt.new w 111 (wq L)
  have C := little64_any (some ⟨w.heap.size, 0, none⟩) 128 L (w.alloc (.cells (wq L) 111)) (fun k hk => ⟨_, _, rfl, hR.lt, by
    rw [Nat.zero_add, hR.cell k]; simp [wq, List.getElem?_eq_getElem hk]⟩) (by rw [hL.1]; decide) (fun x hx => hL.2 x hx)
  rw [hL.1] at C
  simp only [Nat.reduceMul] at C
  have HC := Lib.hid C
  have HBL := Lib.hid (byB_length hL)
  have HB := Lib.hid hb
  have HBY : Hid (byB L = L.flatMap (bytesOf ups 8)) := Lib.hid rfl
  clear hb hR C hL
  go_enter Tryz.func68, Tryz.ntmps68
  go_wp2_with fail
  refine HC.out.mono ?_
  rintro e w1 ⟨v, rfl, hown, hb1⟩
  rw [← HBY.out] at hown
  obtain ⟨A', c', rfl, hnl, _, _⟩ := own_form hown
  have hcv := conv_str w1 (byB L) (c := c') (Reads.of_own hown)
  rw [HBL.out] at hcv
  have HF := Lib.hid (below_step HB.out hb1)
  clear hown hb1 HC HB hnl
  go_wp2
  go_ret
  exact ⟨rfl, HF.out⟩
set_option maxHeartbeats 1600000 in
theorem rbytes_any {L : List Nat} (hL : okb L) (w : World) : Calls Tryz.prog 57 #[.agg (wq L)] w fun e w' => e = .returned (.string (strOf (byB L))) ∧ Below w.heap.size w w' := by
  obtain ⟨i0, hi, hz0, hz1, hz2⟩ := info_parts fd_info_u8
  have hb := (Below.refl _ w).alloc (Nat.le_refl _) (.cells (wq L) 111)
  have HR0 := Lib.hid (RowAt.new w 111 (wq L))
  obtain ⟨N, hN⟩ : ∃ N, N = w.heap.size + 1 := ⟨_, rfl⟩
  have hs0 : (w.alloc (.cells (wq L) 111)).heap.size = N := by rw [World.size_alloc, hN]
  have HL := Lib.hid hL
  have HB := Lib.hid hb
  have HBL := Lib.hid (byB_length hL)
  clear hL hb
  go_enter Tryz.func57, Tryz.ntmps57
  go_wp2
  generalize hW0 : World.alloc _ _ = w0
  rw [hW0] at hs0 HR0 HB
  clear hW0
  have HN : Hid (N = w.heap.size + 1) := Lib.hid hN
  have HS0 := Lib.hid hs0
  clear hN hs0
  go_loopw [3, 4] (fun v3 v4 wr => ∃ i : Nat, ∃ n c : Nat, ∃ A : Option Addr, i ≤ 128 ∧ n = 8 * i ∧ v4 = .int .i64 (i : Int) ∧ v3 = .slice A n c ∧ wr.ownsRow N 5 1 (.slice A n c) n (u8s ((L.take i).flatMap (bytesOf ups 8))) ∧ Below N w0 wr) (fun _ v4 _ => 128 - (intOf v4).toNat)
  case atStart => exact ⟨0, 0, 0, none, by omega, rfl, rfl, rfl, World.ownsRow_nil _ _ _ _, Below.refl _ _⟩
  case round =>
    obtain ⟨i, n, c, A, hi', hn, rfl, rfl, hown, hbq⟩ := hrel
    have HOW := Lib.hid hown
    have HBq := Lib.hid hbq
    have hszq : N ≤ wr.heap.size := by have := hbq.size; have := HS0.out; omega
    by_cases h : i < 128
    · have hlen : i < L.length := by rw [HL.out.1]; exact h
      have hRr : RowAt wr w.heap.size 111 (wq L) := HR0.out.below hbq (by rw [HN.out]; omega)
      have ci := (hRr.cell i).trans (wq_at L i hlen)
      have hx := ok_at HL.out i
      have hsn := flat_snoc (bytesOf ups 8) L i hlen
      have hg : L[i] = L.getD i 0 := by
        rw [List.getD_eq_getElem?_getD, List.getElem?_eq_getElem hlen]; rfl
      rw [hg] at hsn
      have HSN := Lib.hid hsn
      have HJ := Lib.hid (And.intro hi' (And.intro hn h))
      have hdj : decide ((i : Int) < 128) = true := by simp; omega
      have hi0 : (0 : Int) ≤ (i : Int) := by omega
      have hi1 : (i : Int) < 128 := by omega
      have hnb : n ≤ 1024 := by omega
      generalize L.getD i 0 = x at *
      clear hg hsn hown hbq hi' hn hRr hlen
      go_wp2_with fail
      refine (of64_own x wr hx).mono ?_
      rintro e w6 ⟨g3, c3, rfl, hown3, hb6⟩
      have HA := Lib.hid (cells_own hown3)
      have HO7 := Lib.hid (own_kept (M := fun _ => False) HOW.out (Kept.of_below hb6) (fun _ _ h => h))
      have HB7 := Lib.hid (HBq.out.trans (hb6.mono hszq))
      have hsz6 : N ≤ w6.heap.size := by have := hb6.size; omega
      clear hown3 hb6
      go_wp2_with (at_builtin; refine wpList_append_own _ rfl (.tmp 9) (.tmp 13) 86 rfl N 5 i0 (.int .u8 0) 1 1 Tryz.underlying86 hi hz0 hz1 hz2 rfl (by decide) _ _ _ rfl HO7.out ⟨g3, 0, none⟩ 8 c3 (u8s (bytesOf ups 8 x)) rfl (by rw [u8s_length, bytesOf_length]) ?d1 ?d2 ?d3 ?d4 ?d5 ?_)
      case d1 => exact HA.out
      case d2 => exact u8s_one _
      case d3 => unfold maxLen; omega
      case d4 => omega
      case d5 => omega
      intro v' w7 hown7 hg7 _
      rw [← u8s_append, ← HSN.out] at hown7
      obtain ⟨A', c', rfl, hnl, _, _⟩ := own_form hown7
      clear hnl
      have HB8 := Lib.hid (HB7.out.grown hg7 hsz6 (fun k hk => (HO7.out.lt k hk).1))
      have HO8 := Lib.hid hown7
      clear hown7 hg7 ci
      go_wp2
      go_roundw
      case measure => simp [intOf]; omega
      case rel =>
        obtain ⟨j1, j2, j3⟩ := HJ.out
        exact ⟨i + 1, n + 8, c', A', by omega, by omega, by go_num, rfl, HO8.out, HB8.out⟩
    · obtain rfl : i = 128 := by omega
      have hdj : decide (((128 : Nat) : Int) < 128) = false := by simp
      obtain rfl : n = 1024 := hn
      rw [List.take_of_length_le (by rw [HL.out.1]; exact Nat.le_refl _)] at hown
      have hcv := conv_str wr (byB L) (c := c) (Reads.of_own hown)
      rw [HBL.out] at hcv
      have HF := Lib.hid (HB.out.trans (hbq.mono (by rw [HN.out]; omega)))
      clear hown hbq HBq HOW hi'
      go_wp2
      go_ret
      exact ⟨rfl, HF.out⟩
end Go.Proofs.YtcbccjcnllifjaaGreatDoor
namespace Go.Proofs.YtcbccjcnllifjaaGreatDoor
set_option maxRecDepth 50000
open Go.RowKit Bb
def lastL (c : Nat) (L : List (List Nat)) (n : Nat) : List (List Nat) := (List.range n).map fun i => L.getD (i * c + (c - 1)) []
theorem last_next (c : Nat) (L : List (List Nat)) (n : Nat) : lastL c L (n + 1) = lastL c L n ++ [L.getD (n * c + (c - 1)) []] := by
  simp [lastL, List.range_succ]
theorem last_len (c : Nat) (L : List (List Nat)) (n : Nat) : (lastL c L n).length = n := by simp [lastL]
theorem last_in {c l i : Nat} {L : List (List Nat)} (hL : L.length = l * c) (hc : 0 < c) (hi : i < l) : i * c + (c - 1) < L.length := by
  have h1 : (i + 1) * c ≤ l * c := Nat.mul_le_mul_right c (by omega)
  rw [Nat.add_mul, Nat.one_mul] at h1
  omega
theorem last_ok {c l n : Nat} {L : List (List Nat)} (h : ∀ b ∈ L, okb b) (hL : L.length = l * c) (hc : 0 < c) (hn : n ≤ l) : ∀ b ∈ lastL c L n, okb b := fun b hb => by
  obtain ⟨i, hi, rfl⟩ := List.mem_map.1 hb
  have hi := List.mem_range.1 hi
  exact block_ok h _ (last_in hL hc (by omega))
theorem xB_nil : xB [] = zb := (xst_end ([] : List (List Nat))).symm.trans (xst_start [])
theorem xB_step (l : List (List Nat)) (b : List Nat) : xB [xB l, b] = xB (l ++ [b]) := tb_congr _ _ fun k hk => by
  rw [xw_snoc, show [xB l, b] = [xB l] ++ [b] from rfl, xw_snoc]
  congr 1
  rw [show [xB l] = [] ++ [xB l] from rfl, xw_snoc]
  simp only [xw, List.foldl_nil, Nat.zero_xor]
  unfold xB
  rw [tb_at _ _ hk]
  rfl
theorem bcs_two (x y : List Nat) : bcs [x, y] = u64s x ++ u64s y := by simp [bcs]
theorem build_two (w : World) {x y : List Nat} (hx : x.length = 128) (hy : y.length = 128) : (Instr.buildSlice 77 2 #[(0, .agg (wq x)), (1, .agg (wq y))]).run Tryz.prog w = .ok (.slice (some ⟨w.heap.size, 0, none⟩) 2 2) (w.alloc (.cells (bcs [x, y]).toArray 111)) := by
  obtain ⟨i, hi, hz, hs, hby⟩ := b_parts
  refine run_buildSlice w _ _ 2 _ (bcs [x, y]).toArray i _ Tryz.underlying77 hi hz (by rw [hs]; decide) (by rw [hs]; decide) ?_
  have hsx : (wq x).size = 128 := by rw [wq_size]; exact hx
  have hsy : (wq y).size = 128 := by rw [wq_size]; exact hy
  have ex : (Value.agg (wq x)).cells = wq x := rfl
  have ey : (Value.agg (wq y)).cells = wq y := rfl
  have hf : ∀ (l : List Value) (o n : Nat) (cs : Array Value), (l.zipIdx n).foldl (fun (cs : Array Value) (x : Value × Nat) => cs.setIfInBounds (o + x.2) x.1) cs = (l.zipIdx (o + n)).foldl (fun (cs : Array Value) (x : Value × Nat) => cs.setIfInBounds x.2 x.1) cs := by
    intro l o
    induction l with
    | nil => intro n cs; rfl
    | cons y l ih => intro n cs; rw [List.zipIdx_cons, List.zipIdx_cons, List.foldl_cons, List.foldl_cons, ih (n + 1)]; rfl
  have hx2 : (wq x).toList = u64s x := rfl
  have hy2 : (wq y).toList = u64s y := rfl
  have hlx : (u64s x).length = 128 := by rw [u64s_length]; exact hx
  have hly : (u64s y).length = 128 := by rw [u64s_length]; exact hy
  simp only [Instr.fill, hs, ex, ey, hsx, hsy, Nat.zero_mul, Nat.one_mul, ne_eq, not_true_eq_false]
  have hr : ((Array.range (2 * 128)).map ((Value.agg (wq zb)).cells[· % (Value.agg (wq zb)).cells.size]!)).size = 256 := by simp
  generalize Array.map _ (Array.range (2 * 128)) = Z at *
  have hz2 : Z.toList.length = 256 := by rw [Array.length_toList]; exact hr
  have h1 : (wq x).zipIdx.foldl (fun (cs : Array Value) (x : Value × Nat) => cs.setIfInBounds (0 + x.2) x.1) Z = (u64s x ++ Z.toList.drop 128).toArray := by
    rw [← Array.foldl_toList, Array.toList_zipIdx, hf _ 0 0, fold_cells _ _ _ (by simp [hsx]; omega), hx2, hlx]
    simp
  have h2 : (wq y).zipIdx.foldl (fun (cs : Array Value) (x : Value × Nat) => cs.setIfInBounds (128 + x.2) x.1) (u64s x ++ Z.toList.drop 128).toArray = (bcs [x, y]).toArray := by
    rw [← Array.foldl_toList, Array.toList_zipIdx, hf _ 128 0, fold_cells _ _ _ (by simp [hsy, hlx]; omega), hy2, hly, bcs_two]
    simp only [Nat.add_zero]
    rw [List.take_left' hlx, List.drop_of_length_le (by simp [hlx]; omega), List.append_nil]
  rw [h1, h2, if_neg (by simp [hr]), if_neg (by simp [hlx]; omega)]
theorem build_two_run {w : World} {ev : Operand → Value} {p q : Operand} {o : Oper} {x y : List Nat} (hx : x.length = 128) (hy : y.length = 128) (hop : o.op = .buildSlice 77 2 #[(0, p), (1, q)]) (hp : ev p = .agg (wq x)) (hq : ev q = .agg (wq y)) : (execOp ev o).run Tryz.prog w = .ok (.value (.slice (some ⟨w.heap.size, 0, none⟩) 2 2)) (w.alloc (.cells (bcs [x, y]).toArray 111)) := by
  simp only [execOp, hop, List.map_toArray, List.map_cons, List.map_nil, hp, hq, Sem.run_bind, build_two w hx hy, Result.andThen_ok, Sem.run_pure]
theorem wpList_made {P : Program} {ops : Array Oper} {rest : List Oper} {o : Oper} {a : Act} {w : World} {Q : Exit → Act → World → Prop} (hgd : o.guard = none) (v : Value) (w' : World) (hr : (execOp a.eval o).run P w = .ok (.value v) w') (h : wpList P ops Q rest (a.put o.dst v) w') : wpList P ops Q (o :: rest) a w := wpList_plain hgd fun _ hK => by
  unfold Oper.wp
  rw [hr]
  exact hK _ _ h
theorem two_reads (w : World) {x y : List Nat} : Reads (w.alloc (.cells (bcs [x, y]).toArray 111)) (w.alloc (.cells (bcs [x, y]).toArray 111)).heap.size (some ⟨w.heap.size, 0, none⟩) (bcs [x, y]) := fun k hk => by
  refine ⟨w.heap.size, 0, rfl, by rw [World.size_alloc]; omega, ?_⟩
  have h := RowAt.cell (RowAt.new w 111 (bcs [x, y]).toArray) k
  rw [Nat.zero_add, h, List.getElem?_toArray, List.getElem?_eq_getElem hk]
section
variable {w : World} {q p h G a t l m b c g z : Nat} {L : List (List Nat)}
set_option maxHeartbeats 6400000 in
theorem last_any (hG : GrAt w q p h G a t l m b c g z L) (hl : l ≤ 1000) (hc0 : 0 < c) (hc : c ≤ 4194304) (hL : L.length = l * c) (hLm : L.length ≤ 4194304) :
    Calls Tryz.prog 66 #[.pointer (some ⟨q, 0, none⟩)] w fun e w' => e = .returned (.tuple #[.agg (wq (xB (lastL c L l))), .int .i64 0]) ∧ Below w.heap.size w w' := by
  obtain ⟨N, hN⟩ : ∃ N, N = w.heap.size := ⟨_, rfl⟩
  obtain ⟨d, hd⟩ : ∃ d, d = c - 1 := ⟨_, rfl⟩
  have hz := zero_b
  obtain ⟨w1, e1⟩ : ∃ w1, w1 = (w.alloc (.cells (wq zb) 111)).alloc (.cells (wq zb) 111) := ⟨_, rfl⟩
  have b1 : Below w.heap.size w w1 := by rw [e1]; exact two_box _ _ _
  have r1 : RowAt w1 N 111 (wq zb) := by rw [e1, hN]; exact (RowAt.new w _ _).alloc _
  have r2 : RowAt w1 (N + 1) 111 (wq zb) := by
    rw [e1, hN]
    have := RowAt.new (w.alloc (.cells (wq zb) 111)) 111 (wq zb)
    rwa [World.size_alloc] at this
  have hs1 : w1.heap.size = N + 2 := by rw [e1, World.size_alloc, World.size_alloc, hN]
  have hww : IntKind.i64.wrap ((c : Int) - 1) = (d : Int) := by rw [IntKind.wrap_i64]; omega
  have HG := Lib.hid hG
  have HG1 := Lib.hid (hG.step b1)
  have k0 := HG1.out.row.lanes
  have HB1 := Lib.hid b1
  have HR1 := Lib.hid r1
  have HR2 := Lib.hid r2
  have HL := Lib.hid hL
  have HLm := Lib.hid hLm
  have HO := Lib.hid fun n hn => last_ok (n := n) hG.live.ok hL hc0 hn
  have HN := Lib.hid hN
  have HD := Lib.hid hd
  have E1 := Lib.hid e1
  clear hG b1 r1 r2 hL hLm hN hd e1
  go_enter Tryz.func66, Tryz.ntmps66
  go_upto_region 4 with fail
  rw [← E1.out, ← HN.out]
  clear E1
  go_wp2
  go_loopw [16] (fun v16 wr => ∃ i : Nat, i ≤ l ∧ v16 = .int .i64 (i : Int) ∧ Hid (RowAt wr N 111 (wq zb)) ∧ Hid (RowAt wr (N + 1) 111 (wq (xB (lastL c L i)))) ∧ Hid (Below N w wr) ∧ N + 2 ≤ wr.heap.size) (fun v16 _ => l - (intOf v16).toNat)
  case atStart => exact ⟨0, Nat.zero_le _, rfl, HR1, Lib.hid (by rw [show lastL c L 0 = [] from rfl, xB_nil]; exact HR2.out), Lib.hid (by rw [HN.out]; exact HB1.out), by omega⟩
  case round =>
    obtain ⟨i, hi, rfl, HZ, HA, HB, hs⟩ := hrel
    by_cases h : i < l
    · have hd1 : decide ((i : Int) < (l : Int)) = true := by simp; omega
      have hd2 : decide (i < l) = true := by simp; omega
      obtain ⟨n, hn⟩ : ∃ n, n = i * c + d := ⟨_, rfl⟩
      have hnL : n < L.length := by rw [hn, HD.out]; exact last_in HL.out hc0 h
      have hgr := HG.out.step (by rw [← HN.out]; exact HB.out)
      have HX := Lib.hid (block_ok hgr.live.ok n hnL)
      have k1 := hgr.row.columns
      have CG := Lib.hid (gload_any hgr (by omega) (by omega) i d n h (by have := HD.out; omega) hn.symm hnL HLm.out)
      have HS : Hid (lastL c L (i + 1) = lastL c L i ++ [L.getD n []]) := Lib.hid (by rw [last_next, ← HD.out, ← hn])
      have HAO := Lib.hid (xB_ok _ (HO.out i hi))
      generalize L.getD n [] = x at *
      have HXS := Lib.hid (xB_step (lastL c L i) x)
      rw [← HS.out] at HXS
      generalize xB (lastL c L i) = y at *
      clear hn hnL hgr HS k0
      go_wp2_with (refine wpList_value_want rfl _ (so_run rfl rfl rfl) ?_)
      refine CG.out.mono ?_
      rintro e w2 ⟨rfl, hb⟩
      have hst := set_new w2 HX.out.1
      have hb2 := below_step hb (set_below w2 x)
      have hr6 := RowAt.setRow (RowAt.new w2 111 (wq zb)) (wq x)
      have HZ2 := Lib.hid (RowAt.step HZ.out hb2)
      have HA2 := Lib.hid (RowAt.step HA.out hb2)
      have HB2 := Lib.hid (HB.out.trans (hb2.mono (by omega)))
      have hs2 := hb2.size
      have HST := Lib.hid hst
      have HR6 := Lib.hid hr6
      clear CG hb hst hb2 hr6 HZ HA HB k1
      go_upto_region 8 with (refine wpList_store_of rfl _ _ _ rfl ⟨w2.heap.size, 0, none⟩ _ rfl rfl HST.out ?_)
      generalize World.setRow _ _ _ = w3 at *
      generalize w2.heap.size = X at *
      have kA := RowAt.load HA2.out Tryz.underlying111 (by rw [wq_size, HAO.out.1]; exact b_size)
      have kX := RowAt.load HR6.out Tryz.underlying111 (by rw [wq_size, HX.out.1]; exact b_size)
      have b4 : Below w3.heap.size w3 (w3.alloc (.cells (bcs [y, x]).toArray 111)) := one_box _ _
      have CX := Lib.hid (xor_any (l := [y, x]) (fun b hb => by
        rcases List.mem_cons.1 hb with rfl | hb
        · exact HAO.out
        · rw [List.mem_singleton.1 hb]; exact HX.out) (some ⟨w3.heap.size, 0, none⟩) 2 _ (two_reads w3) (by simp))
      rw [HXS.out] at CX
      have HB4 := Lib.hid b4
      clear b4 HST
      go_wp2_with (first
        | refine wpList_load_want rfl 111 _ rfl _ _ rfl kA ?_
        | refine wpList_load_want rfl 111 _ rfl _ _ rfl kX ?_
        | refine wpList_made rfl _ _ (build_two_run HAO.out.1 HX.out.1 rfl rfl rfl) ?_)
      refine CX.out.mono ?_
      rintro e w4 ⟨rfl, hb⟩
      have hb4 := below_step HB4.out hb
      have HZ4 := Lib.hid (RowAt.step HZ2.out hb4)
      have HA4 := Lib.hid (RowAt.step HA2.out hb4)
      have HB5 := Lib.hid (HB2.out.trans (hb4.mono (by omega)))
      have hs4 := hb4.size
      have HY' := Lib.hid (xB_ok _ (HO.out (i + 1) (by omega)))
      clear CX hb hb4 kA kX HB4 HZ2 HA2 HB2 HR6 HXS
      generalize hyy : xB (lastL c L (i + 1)) = y' at *
      have HYY := Lib.hid hyy
      clear hyy
      have HST := Lib.hid (HA4.out.store (C' := wq y') (by rw [wq_size, HY'.out.1]; exact b_size) (by rw [wq_size, wq_size, HY'.out.1, HAO.out.1]) (wq_one _))
      go_wp2_with (refine wpList_store_of rfl _ _ _ rfl ⟨N + 1, 0, none⟩ _ rfl rfl HST.out ?_)
      go_roundw
      case rel => exact ⟨i + 1, by omega, by go_num, Lib.hid (RowAt.setRowOther HZ4.out _ (by omega) _), Lib.hid (by rw [HYY.out]; exact RowAt.setRow HA4.out _), Lib.hid (below_setRow HB5.out (by omega) _), by rw [setRow_size]; omega⟩
      case measure => simp [intOf]; omega
    · obtain rfl : i = l := by omega
      have hd1 : decide ((i : Int) < (i : Int)) = false := by simp
      have HAO := Lib.hid (xB_ok _ (HO.out i hi))
      generalize hye : xB (lastL c L i) = y at *
      have HYE := Lib.hid hye
      clear hye
      have kA := RowAt.load HA.out Tryz.underlying111 (by rw [wq_size, HAO.out.1]; exact b_size)
      have HST := Lib.hid (HZ.out.store (C' := wq y) (by rw [wq_size, HAO.out.1]; exact b_size) (by rw [wq_size, wq_size, HAO.out.1]; exact zb_ok.1) (wq_one _))
      go_wp2_with (first
        | refine wpList_load_want rfl 111 _ rfl _ _ rfl kA ?_
        | refine wpList_store_of rfl _ _ _ rfl ⟨N, 0, none⟩ _ rfl rfl HST.out ?_)
      have hR := RowAt.setRow HZ.out (wq y)
      refine bodyPost_ret (results_row_tmp rfl _ (p := 2) rfl hR Tryz.underlying111 rfl (by rw [wq_size, HAO.out.1]; exact b_size)) rfl ⟨by rw [HYE.out]; rfl, ?_⟩
      rw [← HN.out]
      exact below_setRow HB.out (Nat.le_refl _) _
end
end Go.Proofs.YtcbccjcnllifjaaGreatDoor
namespace Go.Proofs.YtcbccjcnllifjaaGreatDoor
set_option maxRecDepth 50000
open Go.RowKit Bb Bl
def OneS (s : ByteArray) : Value → World → Prop := fun v w => ∃ g, v = .slice (some ⟨g, 0, none⟩) 1 1 ∧ RowAt w g 9 #[.string s]
theorem stable_ones (s : ByteArray) : Stable (OneS s) := fun _ _ _ ⟨g, e, h⟩ hb => ⟨g, e, RowAt.below h hb h.lt⟩
theorem st_info : (Tryz.prog.info? 9).map (fun i => (i.zero, i.size, i.bytes)) = some (some (.string ⟨#[]⟩), 1, 16) := by kernel_rfl
theorem one_s (w : World) (s : ByteArray) : (Instr.buildSlice 61 1 #[(0, .string s)]).run Tryz.prog w = .ok (.slice (some ⟨w.heap.size, 0, none⟩) 1 1) (w.alloc (.cells #[.string s] 9)) := by
  obtain ⟨i, hi, hz, hs, hb⟩ := info_parts st_info
  refine run_buildSlice w _ _ 1 _ #[.string s] i _ Tryz.underlying61 hi hz (by rw [hs]; decide) (by rw [hs]; decide) ?_
  have e : Array.range 1 = #[0] := rfl
  simp [Instr.fill, hs, Value.cells, e]
theorem one_s_run {w : World} {ev : Operand → Value} {p : Operand} {o : Oper} {s : ByteArray} (hop : o.op = .buildSlice 61 1 #[(0, p)]) (hp : ev p = .string s) : (execOp ev o).run Tryz.prog w = .ok (.value (.slice (some ⟨w.heap.size, 0, none⟩) 1 1)) (w.alloc (.cells #[.string s] 9)) := by
  simp only [execOp, hop, List.map_toArray, List.map_cons, List.map_nil, hp, Sem.run_bind, one_s w s, Result.andThen_ok, Sem.run_pure]
section
variable {w : World} {q p h G a t l m b c g z : Nat} {L : List (List Nat)}
theorem bytes_size {y : List Nat} (hy : okb y) : (tl (strOf (byB y))).length = 1024 := by
  have h := congrArg List.length (nb_str (byB y) (byB_lt y))
  rw [byB_length hy] at h
  simpa [nb, tl] using h
set_option maxHeartbeats 3200000 in
theorem tag_any (hk : QAt w) (hG : GrAt w q p h G a t l m b c g z L) (hl : l ≤ 1000) (hc0 : 0 < c) (hc : c ≤ 4194304) (hL : L.length = l * c) (hLm : L.length ≤ 4194304) (hz4 : 4 ≤ z) (hz10 : z ≤ 1024) :
    Calls Tryz.prog 40 #[.pointer (some ⟨q, 0, none⟩)] w fun e w' => e = .returned (.tuple #[.string (tx (longL z (tl (strOf (byB (xB (lastL c L l))))))), .int .i64 0]) ∧ Below w.heap.size w w' := by
  have hyo := xB_ok _ (last_ok hG.live.ok hL hc0 (Nat.le_refl l))
  have CA := Lib.hid (last_any hG hl hc0 hc hL hLm)
  have CB0 := bytes_any hyo
  have hsz := bytes_size hyo
  generalize xB (lastL c L l) = y at *
  generalize strOf (byB y) = S at *
  have HG := Lib.hid hG
  have HK := Lib.hid hk
  have HO := Lib.hid hyo
  have CB := Lib.hid CB0
  have HSZ := Lib.hid hsz
  have hz := zero_b
  clear hG hk hyo CB0 hL hLm hsz
  go_enter Tryz.func40, Tryz.ntmps40
  go_wp2_with fail
  refine CA.out.mono ?_
  rintro e w1 ⟨rfl, hb⟩
  have hst := set_new w1 HO.out.1
  have hb2 := below_step hb (set_below w1 y)
  have hr := RowAt.setRow (RowAt.new w1 111 (wq zb)) (wq y)
  have HST := Lib.hid hst
  have HB2 := Lib.hid hb2
  have HR2 := Lib.hid hr
  clear CA hb hst hb2 hr
  go_upto_region 2 with (refine wpList_store_of rfl _ _ _ rfl ⟨w1.heap.size, 0, none⟩ _ rfl rfl HST.out ?_)
  clear HST
  generalize World.setRow _ _ _ = w2 at *
  generalize w1.heap.size = X at *
  have HG := Lib.hid (HG.out.step HB2.out).row
  have HK2 := Lib.hid (HK.out.next HB2.out)
  have HY : Hid (∀ u, Below w2.heap.size w2 u → (loadVar 111 ⟨X, 0, none⟩).run Tryz.prog u = .ok (.agg (wq y)) u) := Lib.hid fun u hu => RowAt.load (RowAt.step HR2.out hu) Tryz.underlying111 (by rw [wq_size, HO.out.1]; exact b_size)
  have CL : Hid (∀ u, Below w2.heap.size w2 u → ∀ gg, RowAt u gg 9 #[.string S] → Calls Tryz.prog 67 #[.int .i64 (z : Int), .slice (some ⟨gg, 0, none⟩) 1 1] u fun e w' => e = .returned (.tuple #[.string (tx (longL z (tl S))), .int .i64 0]) ∧ Below u.heap.size u w') := Lib.hid fun u hu gg hgg => by
    have h := long_any z (by omega) (by omega) u (HK2.out.next hu) (some ⟨gg, 0, none⟩) 1 [S] (fun k hk => by
      have hk0 : k = 0 := by simp [stv] at hk; omega
      subst hk0
      exact ⟨gg, 0, rfl, hgg.lt, by rw [Nat.add_zero, hgg.cell 0]; rfl⟩) (by rw [jn_one, HSZ.out]; decide) (by simp)
    rw [jn_one] at h
    exact h
  clear HR2 HK HK2
  go_wp2
  refine wp_region_text [Is (.pointer (some ⟨q, 0, none⟩)), Is (.pointer (some ⟨q, 0, none⟩)), Is (.pointer (some ⟨q, 0 + 1, none⟩)), Is (.pointer (some ⟨q, 0 + 1 + 7, none⟩)), Is (.int .i64 (z : Int)), Is (.agg (wq y)), Is (.string S), OneS S, Is (.tuple #[.string (tx (longL z (tl S))), .int .i64 0]), Is (.string (tx (longL z (tl S)))), Is (.int .i64 0), Is (.string (tx (longL z (tl S)))), Is (.int .i64 0)] (by kernel_rfl) (by kernel_rfl) rfl ⟨stable_is _, stable_is _, stable_is _, stable_is _, stable_is _, stable_is _, stable_is _, stable_ones _, stable_is _, stable_is _, stable_is _, stable_is _, stable_is _, trivial⟩ ⟨?_, ?_, ?_, ?_, ?_, ?_, ?_, ?_, ?_, ?_, ?_, ?_, ?_, trivial⟩ ?_
  · intro a w C
    exact part_on (wanted_free rfl _) (op_move (.inl rfl) (C.was 0 (by kernel_rfl)))
  · intro a w C
    exact part_on (wanted_free rfl _) (op_value (nil_run rfl (C.on (j := 0) (by kernel_rfl) rfl rfl)) rfl)
  · intro a w C
    exact part_on (wanted_free rfl _) (op_value (grf_run (k := 1) rfl (by decide) (C.on (j := 1) (by kernel_rfl) rfl rfl)) rfl)
  · intro a w C
    exact part_on (wanted_free rfl _) (op_value (spf_all (k := 7) rfl (by decide) (C.on (j := 2) (by kernel_rfl) rfl rfl)) rfl)
  · intro a w C
    exact part_on (wanted_free rfl _) (op_value (int_run rfl (C.on (j := 3) (by kernel_rfl) rfl rfl) (HG.out.step C.below).size) rfl)
  · intro a w C
    exact part_on (wanted_free rfl _) (op_value (load_run rfl (C.was 4 (by kernel_rfl)) (HY.out _ C.below)) rfl)
  · intro a w C
    exact part_on (wanted_free rfl _) (op_call1 rfl (reg_enters Tryz.func68 (by kernel_rfl) (by kernel_rfl)) (C.on (j := 5) (by kernel_rfl) rfl rfl) (calls_is (CB.out w)))
  · intro a w C
    exact part_on (wanted_free rfl _) (op_made (one_s_run rfl (C.on (j := 6) (by kernel_rfl) rfl rfl)) ⟨w.heap.size, rfl, RowAt.new _ _ _⟩ (one_box _ _))
  · intro a w C
    obtain ⟨gg, e, hr⟩ : OneS S _ w := (C.on (j := 7) (by kernel_rfl) rfl rfl)
    exact part_on (wanted_free rfl _) (op_call2 rfl (reg_enters Tryz.func67 (by kernel_rfl) (by kernel_rfl)) (C.on (j := 4) (by kernel_rfl) rfl rfl) e (calls_is (CL.out w C.below gg hr)))
  · intro a w C
    exact part_on (wanted_free rfl _) (op_value (ext_run (v := .string (tx (longL z (tl S)))) rfl (C.on (j := 8) (by kernel_rfl) rfl rfl) rfl) rfl)
  · intro a w C
    exact part_on (wanted_free rfl _) (op_value (ext_run (v := .int .i64 0) rfl (C.on (j := 8) (by kernel_rfl) rfl rfl) rfl) rfl)
  · intro a w C
    exact part_on (wanted_free rfl _) (op_move (.inr rfl) (C.on (j := 9) (by kernel_rfl) rfl rfl))
  · intro a w C
    exact part_on (wanted_free rfl _) (op_move (.inr rfl) (C.on (j := 10) (by kernel_rfl) rfl rfl))
  rintro wF hbF _ rfl _ rfl _ rfl _ rfl _ rfl _ rfl _ rfl x21 hx21 _ rfl _ rfl _ rfl _ rfl _ rfl
  simp only [Fin, setAt, Exit.then, List.setIfInBounds_toArray, List.set_cons_succ, List.set_cons_zero]
  have HBF := Lib.hid (below_step HB2.out hbF)
  clear hbF HY CL CB HB2 HG
  go_wp2
  exact bodyPost_ret (results_tmp2 rfl _ _ _) rfl ⟨rfl, HBF.out⟩
end
end Go.Proofs.YtcbccjcnllifjaaGreatDoor
