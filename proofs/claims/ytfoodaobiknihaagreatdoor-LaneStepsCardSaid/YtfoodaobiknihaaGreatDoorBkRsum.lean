/- The document's Sum by its contract. Conditions: the sum has at most 64 bytes, the key too, the text at most 10,000. -/
import Derived.Test.YtfoodaobiknihaaGreatDoorBy
import Derived.Test.YtfoodaobiknihaaGreatDoorBkRcomp
import Derived.Test.YtfoodaobiknihaaGreatDoorWy
import Derived.Deep.LoopGhost
import Derived.WalkMore
namespace Go.Proofs.YtfoodaobiknihaaGreatDoor
set_option maxRecDepth 50000
open Go.RowKit Bl
theorem wpStill_load {P : Program} {ops : Array Oper} {w : World} {Q : Act → Prop} {a : Act} {o : Oper} {rest : List Oper} (hg : o.guard = none) (ty : TypeId) (x : Operand) (ho : o.op = .load ty x) (ad : Addr) (v : Value) (hx : a.eval x = .pointer (some ad))
    (hl : (loadVar ty ad).run P w = .ok v w) (h : wpStill P ops w Q rest (a.put o.dst v)) : wpStill P ops w Q (o :: rest) a := by
  refine wpStill_step fun K hK => ?_
  rw [if_pos (by simp [Region.wanted, hg])]
  unfold Oper.still execOp
  simp only [ho, hx, Instr.loadAt, Instr.sureAddr, Sem.run_bind, Sem.run_pure, Result.andThen_ok, hl]
  exact ⟨rfl, hK _ h⟩
theorem q_fixed8 : (Tryz.prog.info? 54).map (·.size) = some 8 := by kernel_rfl
theorem blocks_at : ∀ (k j : Nat) (Y : List UInt8), j < k → (blocksOf k Y).getD j [] = (Y.drop (128 * j)).take 128
  | 0, _, _, h => absurd h (Nat.not_lt_zero _)
  | k + 1, 0, Y, _ => by simp [blocksOf]
  | k + 1, j + 1, Y, h => by
    have := blocks_at k j (Y.drop 128) (by omega)
    rw [blocksOf, List.getD_cons_succ, this, List.drop_drop, show 128 + 128 * j = 128 * (j + 1) by omega]
theorem tl_piece (s : ByteArray) (a : Nat) : tl (s.extract a (a + 128)) = ((tl s).drop a).take 128 := by
  unfold tl
  rw [ByteArray.data_extract]
  simp [Array.toList_extract, List.extract_eq_take_drop]
theorem tl_rest (s : ByteArray) (a n : Nat) (h : n = s.size) : tl (s.extract a n) = (tl s).drop a := by
  unfold tl
  rw [ByteArray.data_extract, h]
  simp [Array.toList_extract, List.extract_eq_take_drop]
  rw [List.take_of_length_le]
  rw [List.length_drop]
  exact Nat.le_refl _
theorem nb_nats (s : ByteArray) : nb s = nats (tl s) := rfl
theorem tl_app (a b : ByteArray) : tl (a ++ b) = tl a ++ tl b := by unfold tl; rw [ByteArray.data_append]; simp
theorem tl_zp (s : ByteArray) : tl (zp s (128 - s.size)) = fill128 (tl s) := by
  unfold zp fill128
  rw [tl_tx, tl_length]
theorem keyL_none (key : ByteArray) (h : key.size = 0) : keyL key = [] := by unfold keyL; simp [h]
theorem zp_key (key text : ByteArray) (h0 : key.size ≠ 0) : tl (zp key (128 - key.size) ++ text) = keyL key ++ tl text := by
  rw [tl_app, tl_zp]
  unfold keyL
  rw [if_neg]
  simpa using h0
theorem st_next (kl n : Nat) (S : ByteArray) (j d : Nat) (hd : d = 128 * j) (hj : j < lz (tl S)) :
    comp (stN (h0 kl n) (blocksOf (lz (tl S)) (tl S)) j) (blockW (nb (S.extract d (d + 128)))) (d + 128) false = stN (h0 kl n) (blocksOf (lz (tl S)) (tl S)) (j + 1) := by
  rw [stN, blocks_at _ _ _ hj, nb_nats, tl_piece, hd, show 128 * (j + 1) = 128 * j + 128 by omega]
theorem st_last (kl n : Nat) (S : ByteArray) (d : Nat) (hd : d = 128 * lz (tl S)) :
    comp (stN (h0 kl n) (blocksOf (lz (tl S)) (tl S)) (lz (tl S))) (blockW (nb (zp (S.extract d S.size) (128 - (S.extract d S.size).size)))) S.size true = blkSt kl n (tl S) := by
  unfold blkSt
  rw [nb_nats, tl_zp, tl_rest S d S.size rfl, hd, tl_length, Nat.mul_comm 128]
set_option maxHeartbeats 3200000 in
theorem rsum_any (n : Nat) (hn : n ≤ 64) (key text : ByteArray) (hk : key.size ≤ 64) (ht : text.size ≤ 15000) (w : World) :
    Calls Tryz.prog 56 #[.agg (wq iv), .int .i64 (n : Int), .string key, .string text] w fun e w' => e = .returned (.string (tx (blkL key.size n (keyL key ++ tl text)))) ∧ Below w.heap.size w w' := by
  obtain ⟨i0, hi, hz0, hz1, hz2⟩ := info_parts Tryz.info5
  have HRC := Lib.hid rcomp_any
  obtain ⟨X, hX⟩ : ∃ X, X = keyL key ++ tl text := ⟨_, rfl⟩
  rw [← hX]
  have HX := Lib.hid hX
  clear hX
  have HZR := Lib.hid (fun W => zeros_any key (by omega) W)
  have hcase : (key.toList.isEmpty = true ∧ (key.toList == []) = true ∧ Hid (tl text = X ∧ X.length ≤ 20000)) ∨ (key.toList.isEmpty = false ∧ (key.toList == []) = false ∧ Hid (tl (zp key (128 - key.size) ++ text) = X ∧ X.length ≤ 20000)) := by
    have hlen : X.length ≤ 20000 := by
      rw [HX.out, List.length_append, tl_length]
      have : (keyL key).length ≤ 128 := by
        unfold keyL
        split
        · simp
        · rw [fill128_length _ (by rw [tl_length]; omega)]; exact Nat.le_refl _
      omega
    by_cases h0 : key.size = 0
    · left
      have hke : key = ⟨#[]⟩ := by
        apply tl_inj
        have := tl_length key
        rw [h0] at this
        exact List.eq_nil_of_length_eq_zero this
      refine ⟨by rw [hke, ByteArray.toList_eq]; rfl, by rw [hke, ByteArray.toList_eq]; rfl, Lib.hid ⟨?_, hlen⟩⟩
      rw [HX.out, keyL_none key h0, List.nil_append]
    · right
      have hne : key.toList = [] → False := fun e => by
        have := congrArg List.length e
        rw [ByteArray.toList_eq] at this
        have e2 := tl_length key
        unfold tl at e2
        simp [e2] at this
        exact h0 (by simpa using this)
      refine ⟨?_, ?_, Lib.hid ⟨?_, hlen⟩⟩
      · cases hc : key.toList with
        | nil => exact (hne hc).elim
        | cons _ _ => rfl
      · cases hc : key.toList with
        | nil => exact (hne hc).elim
        | cons _ _ => rfl
      · rw [HX.out, zp_key key text h0]
  obtain ⟨FX, hFX⟩ : ∃ FX, FX = wq iv := ⟨_, rfl⟩
  have FX8 := Lib.hid (show FX.size = 8 from by rw [hFX, wq_size]; rfl)
  have FX1 := Lib.hid (show FX.all (·.oneCell') = true from by rw [hFX]; exact wq_one _)
  rw [← hFX] at HRC ⊢
  have HFX := Lib.hid hFX
  clear hFX
  have c0 : FX[0]? = some (.int .u64 (iv.getD 0 0 : Nat)) := by rw [HFX.out]; exact wq_at iv 0 (by decide)
  obtain ⟨k8, hk8⟩ : ∃ k, k = 256 * key.size := ⟨_, rfl⟩
  obtain ⟨y1, hy1⟩ : ∃ k, k = 16842752 + k8 := ⟨_, rfl⟩
  obtain ⟨y2, hy2⟩ : ∃ k, k = y1 + n := ⟨_, rfl⟩
  have e1 : IntKind.u64.wrap ((key.size : Nat) : Int) = ((key.size : Nat) : Int) := u64_in _ (by omega)
  have e2 : IntKind.u64.wrap ((256 : Int) * ((key.size : Nat) : Int)) = (k8 : Int) := by
    rw [← u64_in k8 (by omega)]; congr 1; omega
  have e3 : IntKind.u64.wrap (n : Int) = (n : Int) := u64_in _ (by omega)
  have e4 : IntKind.u64.wrap ((16842752 : Int) + (k8 : Int)) = (y1 : Int) := by
    rw [← u64_in y1 (by omega)]; congr 1; omega
  have e5 : IntKind.u64.wrap ((y1 : Int) + (n : Int)) = (y2 : Int) := by
    rw [← u64_in y2 (by omega)]; congr 1; omega
  have x3 := xor64 (iv.getD 0 0) y2 (by decide) (by omega)
  have E4 := Lib.hid (show FX.setIfInBounds 0 (.int .u64 ((iv.getD 0 0 ^^^ y2 : Nat) : Int)) = wq (h0 key.size n) by rw [HFX.out, wq_set, hy2, hy1, hk8]; rfl)
  clear hk8 hy1 hy2
  generalize iv.getD 0 0 ^^^ y2 = y3 at *
  generalize iv.getD 0 0 = iz at *
  go_enter Tryz.func56, Tryz.ntmps56
  have S0 := Lib.hid (show RowAt (w.alloc (.cells FX 54)) w.heap.size 54 FX from RowAt.new _ _ _)
  have S1 := Lib.hid (show RowAt ((w.alloc (.cells FX 54)).alloc (.cells (wq (List.replicate 8 0)) 53)) (w.heap.size + 1) 53 (wq (List.replicate 8 0)) from by have h := RowAt.new (w.alloc (.cells FX 54)) 53 (wq (List.replicate 8 0)); rw [World.size_alloc] at h; exact h)
  have SB := Lib.hid (show Below w.heap.size w ((w.alloc (.cells FX 54)).alloc (.cells (wq (List.replicate 8 0)) 53)) from ((Below.refl _ w).alloc (Nat.le_refl _) _).alloc (by simp) _)
  rcases hcase with ⟨hne1, hne2, HT⟩ | ⟨hne1, hne2, HT⟩
  case' inl =>
    go_wp2_with (first
      | refine wpList_load_row rfl 54 (.tmp 4) rfl w.heap.size rfl 54 FX (0, 0) _ S0.out Tryz.underlying54 rfl (by rw [FX8.out]; exact q_fixed8) ?_
      | (refine wpList_store_row rfl 53 (.tmp 9) (.tmp 13) rfl (w.heap.size + 1) FX rfl rfl 53 _ S1.out (by rw [FX8.out]; exact q_size8) (by rw [FX8.out, wq_size]; simp) FX1.out ?_
         generalize hW : World.setRow _ _ _ = W1
         have HW1 : Hid (RowAt W1 w.heap.size 54 FX ∧ RowAt W1 (w.heap.size + 1) 53 FX ∧ Below w.heap.size w W1) := by
           subst hW
           exact Lib.hid ⟨(S0.out.alloc _).setRowOther _ (by omega) _, S1.out.setRow _, below_setRow SB.out (by omega) _⟩
         have c1 : W1.cell? ⟨w.heap.size + 1, 0, none⟩ = some (.int .u64 (iz : Int)) := (HW1.out.2.1.cell 0).trans c0
         have f1 : W1.frozen? ⟨w.heap.size + 1, 0, none⟩ = false := HW1.out.2.1.frozen 0
         clear hW))
    generalize text = TX at *
    clear hne1 hne2
  case' inr =>
    go_wp2_with (first
      | refine wpList_load_row rfl 54 (.tmp 4) rfl w.heap.size rfl 54 FX (0, 0) _ S0.out Tryz.underlying54 rfl (by rw [FX8.out]; exact q_fixed8) ?_
      | (refine wpList_store_row rfl 53 (.tmp 9) (.tmp 13) rfl (w.heap.size + 1) FX rfl rfl 53 _ S1.out (by rw [FX8.out]; exact q_size8) (by rw [FX8.out, wq_size]; simp) FX1.out ?_
         generalize hW : World.setRow _ _ _ = W1
         have HW1 : Hid (RowAt W1 w.heap.size 54 FX ∧ RowAt W1 (w.heap.size + 1) 53 FX ∧ Below w.heap.size w W1) := by
           subst hW
           exact Lib.hid ⟨(S0.out.alloc _).setRowOther _ (by omega) _, S1.out.setRow _, below_setRow SB.out (by omega) _⟩
         have c1 : W1.cell? ⟨w.heap.size + 1, 0, none⟩ = some (.int .u64 (iz : Int)) := (HW1.out.2.1.cell 0).trans c0
         have f1 : W1.frozen? ⟨w.heap.size + 1, 0, none⟩ = false := HW1.out.2.1.frozen 0
         clear hW))
    refine (HZR.out _).mono ?_
    rintro e w2 ⟨rfl, rfl⟩
    have hzz : (zp key (128 - key.size)).size ≤ 128 := by rw [zp_size]; omega
    generalize zp key (128 - key.size) = Z at *
    go_wp2
    generalize Z ++ text = TX at *
    clear hne1 hne2 hzz
  all_goals
    have RA := Lib.hid (HW1.out.1.setOther ⟨w.heap.size + 1, 0, none⟩ (by simp) (.int .u64 (y3 : Int)))
    have RB : Hid (RowAt (W1.setCell ⟨w.heap.size + 1, 0, none⟩ (.int .u64 (y3 : Int))) (w.heap.size + 1) 53 (wq (h0 key.size n))) := Lib.hid (by rw [← E4.out]; exact HW1.out.2.1.setCell 0 _)
    have HB := Lib.hid (HW1.out.2.2.setCell (p := ⟨w.heap.size + 1, 0, none⟩) (by simp) (.int .u64 (y3 : Int)))
    obtain ⟨hTX0, hXl⟩ := HT.out
    have hTX := Lib.hid hTX0
    have hts : TX.size ≤ 20000 := by rw [← tl_length, hTX0]; exact hXl
    obtain ⟨L, hL⟩ : ∃ L, L = TX.size := ⟨_, rfl⟩
    obtain ⟨K, hK⟩ : ∃ K, K = lz (tl TX) := ⟨_, rfl⟩
    have hKL : K = (L - 1) / 128 := by rw [hK, hL, ← tl_length]; rfl
    have HL := Lib.hid hL
    have HK := Lib.hid hK
    have HH0 := Lib.hid (h0_ok key.size n hk hn)
    generalize World.setCell _ _ _ = W2 at *
    obtain ⟨N, hN⟩ : ∃ N, N = w.heap.size := ⟨_, rfl⟩
    rw [← hN] at RA RB HB ⊢
    have HN := Lib.hid hN
    clear hN hTX0 HT HW1 c1 f1 e1 e2 e3 e4 e5 x3 E4 hL hK
    go_loopg [10] K (fun g v10 wr => ∃ j d : Nat, j + g = K ∧ Hid (d = 128 * j) ∧ v10 = .int .i64 (d : Int) ∧ RowAt wr N 54 FX ∧ RowAt wr (N + 1) 53 (wq (stN (h0 key.size n) (blocksOf (lz (tl TX)) (tl TX)) j)) ∧ Below N w wr)
    case atStart => exact ⟨0, 0, by omega, Lib.hid rfl, rfl, RA.out, RB.out, HB.out⟩
    case round =>
      obtain ⟨j, d, hj, HD, rfl, Rf, Rs, hb⟩ := hrel
      have HRf := Lib.hid Rf
      have HRs := Lib.hid Rs
      have HBr := Lib.hid hb
      have hd := HD.out
      by_cases h : j < K
      · obtain ⟨g2, rfl⟩ : ∃ g2, gk = g2 + 1 := ⟨gk - 1, by omega⟩
        have hL := HL.out
        have hK := HK.out
        obtain ⟨m, hm⟩ : ∃ m, m = L - d := ⟨_, rfl⟩
        obtain ⟨d2, hd2⟩ : ∃ d2, d2 = d + 128 := ⟨_, rfl⟩
        have q0 : IntKind.i64.wrap ((TX.size : Int) - (d : Int)) = (m : Int) := by
          rw [← IntWalk.i64_in (m : Int) (by omega)]; congr 1; omega
        have hdt : decide ((128 : Int) < (m : Int)) = true := by simp; omega
        have q1 : (d : Int) + 128 = (d2 : Int) := by omega
        have q2 : IntKind.i64.wrap (d2 : Int) = (d2 : Int) := IntWalk.i64_in _ (by omega)
        have q3 : IntKind.u64.wrap (d2 : Int) = (d2 : Int) := u64_in _ (by omega)
        have n1 : (0 : Int) ≤ (d : Int) := by omega
        have n2 : (d : Int) ≤ (d2 : Int) := by omega
        have n3 : (d2 : Int) ≤ (TX.size : Int) := by omega
        have m1 : d ≤ d2 := by omega
        have m2 : d2 ≤ TX.size := by omega
        obtain ⟨so1, so2⟩ := stN_ok HH0.out (blocksOf (lz (tl TX)) (tl TX)) j (by omega)
        have hps : (TX.extract d d2).size = 128 := by rw [ByteArray.size_extract]; omega
        have CC := Lib.hid fun (W : World) => HRC.out _ so1 so2 (TX.extract d d2) hps d2 (by omega) false W
        have e1 := st_next key.size n TX j d hd (by rw [← hK]; exact h)
        rw [← hd2] at e1
        rw [e1] at CC
        have hs8 : (wq (stN (h0 key.size n) (blocksOf (lz (tl TX)) (tl TX)) j)).size = 8 := by rw [wq_size]; exact so1
        have L72 := Lib.hid (run_loadVar_row (P := Tryz.prog) _ _ 54 54 FX (0, 0) _ Rf.drew Tryz.underlying54 rfl (by rw [FX8.out]; exact q_fixed8))
        have L8 := Lib.hid (RowAt.load (P := Tryz.prog) Rs.drew Tryz.underlying53 (by rw [hs8]; exact q_size8))
        have HN8 := Lib.hid (And.intro (stN_ok HH0.out (blocksOf (lz (tl TX)) (tl TX)) (j + 1) (by omega)).1 hs8)
        have HJ := Lib.hid (And.intro hj (And.intro h hd2))
        clear so1 so2 hps e1 hs8 Rf Rs hb hj h hd2 hd hL hK hm
        generalize wq (stN (h0 key.size n) (blocksOf (lz (tl TX)) (tl TX)) j) = ST at *
        go_wp2
        refine wp_region_still_tail 10 (by kernel_rfl) (by kernel_rfl) ?_
        simp only [List.take_succ_cons, List.take_zero, List.drop_succ_cons, List.drop_zero]
        refine wpStill_load rfl 54 (.tmp 4) rfl ⟨N, 0, none⟩ _ rfl L72.out ?_
        refine wpStill_load rfl 53 (.tmp 9) rfl ⟨N + 1, 0, none⟩ _ rfl L8.out ?_
        simp only [Act.put, List.setIfInBounds_toArray, List.set_cons_succ, List.set_cons_zero]
        repeat still_step
        refine wpStill_nil ?_
        change wpList _ _ _ _ _ wr.drew
        go_wp2_with (first
          | (refine (CC.out _).mono ?_; rintro e w5 ⟨rfl, hb5⟩; have HB5 := Lib.hid hb5; have HR5 := Lib.hid (HRs.out.drew.below hb5 HRs.out.lt); have HF5 := Lib.hid (HRf.out.drew.below hb5 HRf.out.lt); clear hb5)
          | refine wpList_store_row rfl 53 (.tmp 9) (.tmp 47) rfl (N + 1) (wq (stN (h0 key.size n) (blocksOf (lz (tl TX)) (tl TX)) (j + 1))) rfl rfl 53 _ HR5.out (by rw [wq_size, HN8.out.1]; exact q_size8) (by rw [wq_size, HN8.out.1]; exact HN8.out.2) (wq_one _) ?_)
        go_roundg g2
        case measure => omega
        case rel =>
          obtain ⟨j1, j2, j3⟩ := HJ.out
          refine ⟨j + 1, d2, by omega, Lib.hid (by rw [j3, HD.out]; omega), rfl, HF5.out.setRowOther _ (by omega) _, HR5.out.setRow _, below_setRow (HBr.out.drew.trans (HB5.out.mono (Nat.le_of_lt HRf.out.lt))) (by omega) _⟩
      · obtain rfl : j = K := by omega
        have hL := HL.out
        have hK := HK.out
        obtain ⟨m, hm⟩ : ∃ m, m = L - d := ⟨_, rfl⟩
        have q0 : IntKind.i64.wrap ((TX.size : Int) - (d : Int)) = (m : Int) := by
          rw [← IntWalk.i64_in (m : Int) (by omega)]; congr 1; omega
        have hdt : decide ((128 : Int) < (m : Int)) = false := by simp; omega
        have n1 : (0 : Int) ≤ (d : Int) := by omega
        have n2 : (d : Int) ≤ (TX.size : Int) := by omega
        have m1 : d ≤ TX.size := by omega
        have q3 : IntKind.u64.wrap (TX.size : Int) = (TX.size : Int) := u64_in _ (by omega)
        obtain ⟨so1, so2⟩ := stN_ok HH0.out (blocksOf j (tl TX)) j (by omega)
        have hps : (TX.extract d TX.size).size ≤ 128 := by rw [ByteArray.size_extract]; omega
        have CZ := Lib.hid fun (W : World) => zeros_any (TX.extract d TX.size) hps W
        have CC := Lib.hid fun (W : World) => HRC.out _ so1 so2 (zp (TX.extract d TX.size) (128 - (TX.extract d TX.size).size)) (by rw [zp_size]; omega) TX.size (by omega) true W
        have e1 := st_last key.size n TX d (by rw [← hK]; exact hd)
        rw [← hK] at e1 Rs
        rw [e1] at CC
        obtain ⟨ZZ, hZZ⟩ : ∃ ZZ, ZZ = zp (TX.extract d TX.size) (128 - (TX.extract d TX.size).size) := ⟨_, rfl⟩
        rw [← hZZ] at CC CZ
        clear hZZ
        have hs8 : (wq (stN (h0 key.size n) (blocksOf j (tl TX)) j)).size = 8 := by rw [wq_size]; exact so1
        have hzl : (blkSt key.size n (tl TX)).length = 8 := by rw [← e1, comp_length]; exact so1
        have hzo : okw (blkSt key.size n (tl TX)) := by rw [← e1]; exact comp_ok so2 _ (by omega) _
        have L72 := Lib.hid (run_loadVar_row (P := Tryz.prog) _ _ 54 54 FX (0, 0) _ Rf.drew Tryz.underlying54 rfl (by rw [FX8.out]; exact q_fixed8))
        have L8 := Lib.hid (RowAt.load (P := Tryz.prog) Rs.drew Tryz.underlying53 (by rw [hs8]; exact q_size8))
        have HR8 := Lib.hid Rs
        have HN8 := Lib.hid (And.intro hs8 hzl)
        have HOUT : Hid (blkL key.size n X = (outL (blkSt key.size n (tl TX))).take n) := Lib.hid (by rw [hTX.out]; rfl)
        have HZ := Lib.hid (And.intro hzl hzo)
        clear so1 so2 hps e1 hs8 Rf Rs hb hj h hd hL hK hm hzl hzo HRs HK HD
        generalize wq (stN (h0 key.size n) (blocksOf j (tl TX)) j) = ST at *
        generalize blkSt key.size n (tl TX) = st at *
        go_wp2
        refine wp_region_still_tail 9 (by kernel_rfl) (by kernel_rfl) ?_
        simp only [List.take_succ_cons, List.take_zero, List.drop_succ_cons, List.drop_zero]
        refine wpStill_load rfl 54 (.tmp 4) rfl ⟨N, 0, none⟩ _ rfl L72.out ?_
        refine wpStill_load rfl 53 (.tmp 9) rfl ⟨N + 1, 0, none⟩ _ rfl L8.out ?_
        simp only [Act.put, List.setIfInBounds_toArray, List.set_cons_succ, List.set_cons_zero]
        repeat still_step
        still_call ((CZ.out _).mono fun _ _ h => And.intro h.1 h.2)
        repeat still_step
        refine wpStill_nil ?_
        change wpList _ _ _ _ _ wr.drew
        go_wp2_with (first
          | (refine (CC.out _).mono ?_; rintro e w5 ⟨rfl, hb5⟩; have HB5 := Lib.hid hb5; have HR5 := Lib.hid (HR8.out.drew.below hb5 HR8.out.lt); clear hb5)
          | (refine wpList_store_row rfl 53 (.tmp 9) (.tmp 59) rfl (N + 1) (wq st) rfl rfl 53 _ HR5.out (by rw [wq_size, HN8.out.2]; exact q_size8) (by rw [wq_size, HN8.out.2]; exact HN8.out.1) (wq_one _) ?_
             have HR6 := Lib.hid (HR5.out.setRow (wq st))
             have HB6 := Lib.hid (below_setRow (HBr.out.drew.trans (HB5.out.mono (Nat.le_of_lt HRf.out.lt))) (Nat.le_succ N) (wq st))
             generalize World.setRow _ _ _ = w6 at HR6 HB6 ⊢))
        obtain ⟨M, hM⟩ : ∃ M, M = w6.heap.size := ⟨_, rfl⟩
        have hNb : N + 1 < M := by rw [hM]; exact HR6.out.lt
        have hNs : M ≤ w6.heap.size := by omega
        clear hM q0 q3 hdt n1 n2 m1 CZ CC L72 L8 HR8 HN8 HRf HBr HR5 HB5
        go_loopg [11, 12] 8 (fun g v8 v9 wz => ∃ (j n c : Nat) (A : Option Addr), j + g = 8 ∧ n = 8 * j ∧ v9 = .int .i64 (j : Int) ∧ v8 = .slice A n c ∧ wz.ownsRow M 5 1 (.slice A n c) n (u8s ((st.take j).flatMap (bytesOf ups 8))) ∧ Below M w6 wz)
        case atStart => exact ⟨0, 0, 0, none, rfl, rfl, rfl, rfl, World.ownsRow_nil _ _ _ _, Below.refl _ _⟩
        case round =>
          obtain ⟨j, m, c, A, hj, hm, rfl, rfl, hown, hbq⟩ := hrel
          have HOW := Lib.hid hown
          have HBq := Lib.hid hbq
          have hszq : M ≤ wr.heap.size := by have := hbq.size; omega
          by_cases h : j < 8
          · obtain ⟨g2, rfl⟩ : ∃ g2, gk = g2 + 1 := ⟨gk - 1, by omega⟩
            have cj := ((HR6.out.below hbq hNb).cell j).trans (wq_at _ j (by rw [HZ.out.1]; exact h))
            have hx := HZ.out.2.at_ j
            have hsn := flat_snoc (bytesOf ups 8) st j (by rw [HZ.out.1]; exact h)
            have hg : st[j]'(by rw [HZ.out.1]; exact h) = st.getD j 0 := by
              rw [List.getD_eq_getElem?_getD, List.getElem?_eq_getElem (by rw [HZ.out.1]; exact h)]; rfl
            rw [hg] at hsn
            have HSN := Lib.hid hsn
            have HJ := Lib.hid (And.intro hj (And.intro hm h))
            have hdj : decide ((j : Int) < 8) = true := by simp; omega
            have hnb : m ≤ 64 := by omega
            have hj8 : (j : Int) < 8 := by omega
            clear hg hsn hown hbq hj hm h
            generalize st.getD j 0 = x at *
            go_wp2_with fail
            refine (of64_own x wr hx).mono ?_
            rintro e w7 ⟨g, c2, rfl, hown2, hb5⟩
            have HA := Lib.hid (cells_own hown2)
            have HO6 := Lib.hid (own_kept (M := fun _ => False) HOW.out (Kept.of_below hb5) (fun _ _ h => h))
            have HB7 := Lib.hid (HBq.out.trans (hb5.mono hszq))
            have hsz6 : M ≤ w7.heap.size := by have := hb5.size; omega
            clear hown2 hb5
            go_wp2_with (at_builtin; refine wpList_append_own _ rfl (.tmp 64) (.tmp 68) 86 rfl M 5 i0 (.int .u8 0) 1 1 Tryz.underlying86 hi hz0 hz1 hz2 rfl (by decide) _ _ _ rfl HO6.out ⟨g, 0, none⟩ 8 c2 (u8s (bytesOf ups 8 x)) rfl (by rw [u8s_length, bytesOf_length]) ?d1 ?d2 ?d3 ?d4 ?d5 ?_)
            case d1 => exact HA.out
            case d2 => exact u8s_one _
            case d3 => unfold maxLen; omega
            case d4 => omega
            case d5 => omega
            intro v' w8 hown7 hg7 _
            rw [← u8s_append, ← HSN.out] at hown7
            obtain ⟨A', c', rfl, _, _, _⟩ := own_form hown7
            have HB8 := Lib.hid (HB7.out.grown hg7 hsz6 (fun k hk => (HO6.out.lt k hk).1))
            have HO7 := Lib.hid hown7
            clear hown7 hg7
            go_wp2
            go_roundg g2
            case measure => omega
            case rel =>
              obtain ⟨j1, j2, j3⟩ := HJ.out
              exact ⟨j + 1, m + 8, c', A', by omega, by omega, by go_num, rfl, HO7.out, HB8.out⟩
          · obtain rfl : j = 8 := by omega
            have hdj : decide (((8 : Nat) : Int) < 8) = false := by simp
            have h64 : (outL st).length = 64 := outL_length st HZ.out.1
            have e1 : u8s ((st.take 8).flatMap (bytesOf ups 8)) = cs (outL st) := by
              rw [List.take_of_length_le (by rw [HZ.out.1]; exact Nat.le_refl 8)]
              exact (cs_bytesL _ (flat8_lt _)).symm
            rw [e1] at hown
            obtain rfl : m = 64 := by omega
            have hcap := own_cap hown (by decide)
            obtain ⟨g, rfl⟩ := hcap.2.2
            have hrow : Row wr g (outL st) := Row.own (c := c) (by rw [h64]; exact hown)
            have hcv := conv_row (n := n) (c := c) (hrow.take n) (by rw [List.length_take, h64]; exact Nat.min_eq_left hn)
            rw [← HOUT.out] at hcv
            have hnc : n ≤ c := by omega
            have hnc2 : (n : Int) ≤ (c : Int) := by omega
            have HF := Lib.hid (HB6.out.trans (hbq.mono (by omega)))
            clear hown hbq hj hm h e1 h64 hcap hrow
            go_wp2
            go_ret
            exact ⟨rfl, by rw [← HN.out]; exact HF.out⟩
end Go.Proofs.YtfoodaobiknihaaGreatDoor
