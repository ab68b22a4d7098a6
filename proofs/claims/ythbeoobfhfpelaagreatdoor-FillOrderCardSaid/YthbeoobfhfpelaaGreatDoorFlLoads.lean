/- loads of package fill: some blocks of a grid, by its contract. Conditions: those typed. -/
import Derived.Test.YthbeoobfhfpelaaGreatDoorFlLook
namespace Go.Proofs.YthbeoobfhfpelaaGreatDoor
set_option maxRecDepth 50000
open Go.RowKit Bb Bn

/-- spots in a row -/
def spc2 (x : Nat × Nat) : List Value := [.int .i64 (x.1 : Int), .int .i64 (x.2 : Int)]
def spcs (l : List (Nat × Nat)) : List Value := l.flatMap spc2
theorem spcs_length : ∀ l : List (Nat × Nat), (spcs l).length = l.length * 2
  | [] => rfl
  | x :: l => by
    have := spcs_length l
    unfold spcs at *
    rw [List.flatMap_cons, List.length_append, this, List.length_cons]
    simp [spc2]
    omega
theorem spcs_at : ∀ (l : List (Nat × Nat)) (i : Nat) (h : i < l.length) (j : Nat), j < 2 → (spcs l)[i * 2 + j]? = (spc2 l[i])[j]?
  | x :: l, 0, _, j, hj => by
    rw [show spcs (x :: l) = spc2 x ++ spcs l by simp [spcs], List.getElem?_append_left (by simp [spc2]; omega)]; simp
  | x :: l, i + 1, h, j, hj => by
    have := spcs_at l i (by simpa using h) j hj
    rw [show spcs (x :: l) = spc2 x ++ spcs l by simp [spcs], List.getElem?_append_right (by simp [spc2]; omega), show (i + 1) * 2 + j - (spc2 x).length = i * 2 + j by simp [spc2]; omega, this]
    simp
theorem sp_reads {w : World} {B : Nat} {A : Option Addr} {l : List (Nat × Nat)} (hr : Reads w B A (spcs l)) (i : Nat) (hi : i < l.length) :
    ∃ b off, A = some ⟨b, off, none⟩ ∧ b < B ∧ w.cell? ⟨b, off + i * 2, none⟩ = some (.int .i64 (l[i].1 : Int)) ∧ w.cell? ⟨b, off + i * 2 + 1, none⟩ = some (.int .i64 (l[i].2 : Int)) := by
  have hl := spcs_length l
  obtain ⟨b, off, e, hb, _⟩ := hr (i * 2) (by omega)
  refine ⟨b, off, e, hb, ?_⟩
  have G : ∀ j, j < 2 → w.cell? ⟨b, off + i * 2 + j, none⟩ = (spc2 l[i])[j]? := fun j hj => by
    obtain ⟨b', off', e', _, hc⟩ := hr (i * 2 + j) (by omega)
    rw [e] at e'
    cases e'
    rw [Nat.add_assoc, hc, ← List.getElem?_eq_getElem, spcs_at l i hi j hj]
  exact ⟨G 0 (by decide), G 1 (by decide)⟩
theorem make_room (n : Nat) (hn : n ≤ 1000000) (w : World) : ∃ w', (Instr.makeSlice 69 (.int .i64 0) (.int .i64 (n : Int))).run Tryz.prog w = .ok (.slice (some ⟨w.heap.size, 0, none⟩) 0 n) w' ∧ OwB w.heap.size [] (.slice (some ⟨w.heap.size, 0, none⟩) 0 n) w' ∧ Below w.heap.size w w' := by
  obtain ⟨i, hi, hz, hs, hb⟩ := b_parts
  obtain ⟨w', h1, h2, h3⟩ := run_make_own (P := Tryz.prog) w w.heap.size 69 67 i _ 128 Tryz.underlying69 hi hz hs .i64 .i64 n (by rw [hb]; omega) (by unfold maxLen; omega) (Nat.le_refl _)
  exact ⟨w', h1, h2, (Below.refl _ _).grown h3 (Nat.le_refl _) (by simp)⟩
theorem mk_run {P : Program} {w w' : World} {ev : Operand → Value} {o : Oper} {x y : Operand} {t : TypeId} {v1 v2 v : Value} (hop : o.op = .makeSlice t x y) (hx : ev x = v1) (hy : ev y = v2) (hr : (Instr.makeSlice t v1 v2).run P w = .ok v w') : (execOp ev o).run P w = .ok (.value v) w' := by
  simp only [execOp, hop, hx, hy, Sem.run_bind, hr, Result.andThen_ok, Sem.run_pure]
/-- a list's blocks -/
def blks (c : Nat) (L : List (List Nat)) (l : List (Nat × Nat)) : List (List Nat) := l.map fun x => L.getD (x.1 * c + x.2) []

set_option maxHeartbeats 6400000 in
theorem loads_any {a t l m b c g z q pc h G : Nat} {L : List (List Nat)} {w : World} (hG : GrAt w q pc h G a t l m b c g z L) (hl : l ≤ 16777215) (hc : c ≤ 4294967295) (hL : L.length = l * c) (hLm : L.length ≤ 4194304) (ps : List (Nat × Nat)) (hps : ∀ x ∈ ps, x.1 < l ∧ x.2 < c) (hn : ps.length ≤ 1000) (A : Option Addr) (cp : Nat) (hr : Reads w w.heap.size A (spcs ps)) :
    Calls Tryz.prog 56 #[.pointer (some ⟨q, 0, none⟩), .slice A ps.length cp] w fun e w' => ∃ v, e = .returned (.tuple #[v, .int .i64 0]) ∧ OwB w.heap.size (blks c L ps) v w' ∧ Below w.heap.size w w' := by
  obtain ⟨N, hN⟩ : ∃ N, N = w.heap.size := ⟨_, rfl⟩
  obtain ⟨w1, hmk, hO, hb⟩ := make_room ps.length (by omega) w
  have HMK := Lib.hid hmk
  have HO1 : Hid (OwB N [] (.slice (some ⟨w.heap.size, 0, none⟩) 0 ps.length) w1) := Lib.hid (by rw [hN]; exact hO)
  have HB1 : Hid (Below N w w1) := Lib.hid (by rw [hN]; exact hb)
  have HR := Lib.hid hr
  have HG := Lib.hid hG
  have HL := Lib.hid hL
  have HP := Lib.hid hps
  have HN := Lib.hid hN
  have hz := zero_b
  clear hmk hO hb hr hG hL hps hN
  go_enter Tryz.func56, Tryz.ntmps56
  go_wp2_with (refine wpList_madeN rfl _ _ (mk_run rfl rfl rfl HMK.out) ?_)
  clear HMK
  generalize (Value.slice (some ⟨w.heap.size, 0, none⟩) 0 ps.length) = v1 at *
  go_loopw [6, 16] (fun v6 v16 wr => ∃ i : Nat, i ≤ ps.length ∧ v16 = .int .i64 (i : Int) ∧ Hid (OwB N (blks c L (ps.take i)) v6 wr) ∧ Hid (Below N w wr)) (fun _ v16 _ => ps.length - (intOf v16).toNat)
  case atStart => exact ⟨0, Nat.zero_le _, rfl, HO1, HB1⟩
  case round =>
    obtain ⟨i, hi, rfl, HO, HB⟩ := hrel
    by_cases h : i < ps.length
    · have hd : decide ((i : Int) < (ps.length : Int)) = true := by simp; omega
      have hd2 : decide (i < ps.length) = true := by simp; omega
      have hi0 : (0 : Int) ≤ (i : Int) := by omega
      have hi1 : (i : Int) < (ps.length : Int) := by omega
      obtain ⟨rb, ro, rfl, _, y0, y1⟩ := sp_reads ((HR.out.below (HN.out ▸ HB.out : Below w.heap.size w wr))) i h
      obtain ⟨h1, h2⟩ := HP.out _ (List.getElem_mem h)
      have HT : Hid (blks c L (ps.take (i + 1)) = blks c L (ps.take i) ++ [L.getD (ps[i].1 * c + ps[i].2) []]) := Lib.hid (by
        unfold blks
        rw [List.take_add_one, List.getElem?_eq_getElem h, List.map_append]
        rfl)
      have HTL : Hid ((blks c L (ps.take i)).length ≤ 1000000) := Lib.hid (by simp only [blks, List.length_map, List.length_take]; omega)
      generalize ps[i] = xy at *
      obtain ⟨x, y⟩ := xy
      simp only at y0 y1 h1 h2
      obtain ⟨n, hnn⟩ : ∃ n, x * c + y = n := ⟨_, rfl⟩
      have hxc : (x + 1) * c ≤ l * c := Nat.mul_le_mul_right c h1
      rw [Nat.add_mul, Nat.one_mul] at hxc
      have hnL : n < L.length := by rw [HL.out]; omega
      simp only [hnn] at HT
      have HX := Lib.hid (block_ok HG.out.live.ok n hnL)
      have CG : Hid (∀ u, Below N w u → Calls Tryz.prog 40 #[.pointer (some ⟨q, 0, none⟩), sov (x : Int) (y : Int)] u fun e w2 => e = .returned (.tuple #[.agg (wq (L.getD n [])), .int .i64 0]) ∧ Below u.heap.size u w2) := Lib.hid fun u hu => gload_any (HG.out.step (HN.out ▸ hu)) hl hc x y n h1 h2 hnn hnL hLm
      generalize L.getD n [] = bl at *
      generalize hbs : blks c L (ps.take i) = bs at *
      obtain ⟨w2, e2⟩ : ∃ w2, w2 = wr.alloc (.cells (soc x y) 58) := ⟨_, rfl⟩
      have b2 : Below wr.heap.size wr w2 := by rw [e2]; exact one_box _ _
      have HS2 : Hid (RowAt w2 wr.heap.size 58 (soc x y)) := Lib.hid (by rw [e2]; exact RowAt.new _ _ _)
      have hsN : N ≤ wr.heap.size := by have := HB.out.size; have := HN.out; omega
      have HO2 := Lib.hid (stable_owb _ _ _ _ _ HO.out b2)
      have HB2 := Lib.hid (HB.out.trans (b2.mono hsN))
      have E2 := Lib.hid e2
      clear h1 h2 hxc hnL hnn b2 e2 HO HB hbs
      go_upto_region 5 with fail
      rw [← E2.out]
      clear E2 y0 y1
      generalize wr.heap.size = S8 at *
      go_wp2_with (refine wpList_load_want rfl 58 _ rfl _ _ rfl (so_load HS2.out) ?_)
      refine (CG.out _ HB2.out).mono ?_
      rintro e w3 ⟨rfl, hb3⟩
      obtain ⟨w4, e4⟩ : ∃ w4, w4 = (w3.alloc (.cells (wq zb) 67)).setRow w3.heap.size (wq bl) := ⟨_, rfl⟩
      have HR4 : Hid (RowAt w4 w3.heap.size 67 (wq bl)) := Lib.hid (by rw [e4]; exact (RowAt.new _ _ _).setRow _)
      have b4 : Below w3.heap.size w3 w4 := by rw [e4]; exact set_below _ _
      have hs3 : N ≤ w3.heap.size := by have := HB2.out.size; have := HN.out; have := hb3.size; omega
      have HO4 := Lib.hid (stable_owb _ _ _ _ _ (stable_owb _ _ _ _ _ HO2.out hb3) b4)
      have HB4 := Lib.hid ((HB2.out.trans (hb3.mono (by have := HB2.out.size; have := HN.out; omega))).trans (b4.mono hs3))
      have E4 := Lib.hid e4
      clear hb3 b4 e4 HS2 HO2 HB2 CG
      go_upto_region 8 with (refine wpList_store_of rfl _ _ _ rfl ⟨w3.heap.size, 0, none⟩ _ rfl rfl (set_new _ HX.out.1) ?_)
      rw [← E4.out]
      clear E4
      generalize w3.heap.size = S9 at *
      have hs4 : N ≤ w4.heap.size := by have := HB4.out.size; have := HN.out; omega
      have HN4 := Lib.hid (RowAt.new w4 67 (wq bl))
      have b5 := one_box w4 (.cells (wq bl) 67)
      obtain ⟨v', w5, hap, hO5, hB5⟩ := app_more (stable_owb _ _ _ _ _ HO4.out b5) (Nat.le_trans hs4 b5.size) HX.out HN4.out HTL.out 69
      rw [← HT.out] at hO5
      have HAP := Lib.hid hap
      have HO5 := Lib.hid hO5
      have HB5 := Lib.hid (HB4.out.trans ((b5.mono hs4).trans hB5))
      have hsz : (wq bl).size = 128 := by rw [wq_size]; exact HX.out.1
      clear hap hO5 b5 hB5 HO4 HB4
      go_wp2_with (first
        | refine wpList_value_want rfl _ (bload_run rfl rfl HR4.out hsz) ?_
        | refine wpList_madeN rfl _ _ (build_one_run HX.out.1 rfl rfl) ?_
        | refine wpList_madeN rfl _ _ (op_append rfl rfl rfl HAP.out) ?_)
      go_roundw
      case rel => exact ⟨i + 1, by omega, by go_num, HO5, HB5⟩
      case measure => simp [intOf]; omega
    · obtain rfl : i = ps.length := by omega
      have hd : decide ((ps.length : Int) < (ps.length : Int)) = false := by simp
      have hO := HO.out
      rw [List.take_length] at hO
      go_wp2
      refine bodyPost_ret (results_tmp2 rfl _ _ _) rfl ⟨_, rfl, ?_, ?_⟩
      · rw [← HN.out]; exact hO
      · rw [← HN.out]; exact HB.out
end Go.Proofs.YthbeoobfhfpelaaGreatDoor
