/- The document's Pad by its contract, and the law ShaPads. Condition: the package's table lies at its place. The document's Sum by its contract, of the constants that are known. Condition: the text is of at most 2,000 bytes. -/
import Derived.Test.YtlifpplhinmajaaGreatDoorSa
import Derived.Test.YtlifpplhinmajaaGreatDoorWb
import Derived.Deep.LoopGhost
import Derived.WalkMore
import Derived.Test.YtlifpplhinmajaaGreatDoorShRcomp
namespace Go.Proofs.YtlifpplhinmajaaGreatDoor
set_option maxRecDepth 50000
open Go.RowKit Sha

set_option maxHeartbeats 1600000 in
theorem refpad_any (t : Nat) (ht : t ≤ 9223372036854775807) (w : World) : Calls Tryz.prog 130 #[.int .i64 (t : Int)] w fun e w' => e = .returned (.string (tx (padL t))) ∧ Below w.heap.size w w' := by
  obtain ⟨i0, hi, hz0, hz1, hz2⟩ := info_parts Tryz.info5
  obtain ⟨p, hp⟩ : ∃ p, p = t % 64 := ⟨_, rfl⟩
  have hp1 : (t : Int).tmod 64 = (p : Int) := by rw [Int.tmod_eq_emod_of_nonneg (by omega)]; omega
  have hpb : p < 64 := by omega
  obtain ⟨r, hr⟩ : ∃ r, r = room t := ⟨_, rfl⟩
  have hr2 : r = 63 - (p + 8) % 64 := by rw [hr, hp]; rfl
  obtain ⟨x, hx⟩ : ∃ x, x = 8 * t % 18446744073709551616 := ⟨_, rfl⟩
  have hx1 : IntKind.u64.wrap ((t : Int) * 8) = (x : Int) := by rw [IntKind.wrap_u64]; omega
  have hxb : x < 2 ^ 64 := by rw [hx]; exact Nat.mod_lt _ (by decide)
  have HP : Hid (padN t = (128 :: List.replicate r 0) ++ bytesOf (downs 8) 8 x) := Lib.hid (by rw [hr, hx]; rfl)
  have HX := Lib.hid hxb
  have HR := Lib.hid hr2
  clear hp hr hx hxb hr2
  have hw0 : (w.alloc (.cells #[.int .u8 128] 5)).ownsRow w.heap.size 5 1 (.slice (some ⟨w.heap.size, 0, none⟩) 1 1) 1 (u8s (128 :: List.replicate 0 0)) := World.ownsRow_lit w #[.int .u8 128] 1 (Nat.le_refl _) (by decide) rfl
  have HW := Lib.hid hw0
  clear hw0
  go_enter Tryz.func130, Tryz.ntmps130
  go_wp2
  go_loopg [3] r (fun g v wr => ∃ j c : Nat, ∃ A, j + g = r ∧ v = .slice A (1 + j) c ∧ wr.ownsRow w.heap.size 5 1 (.slice A (1 + j) c) (1 + j) (u8s (128 :: List.replicate j 0)) ∧ Below w.heap.size w wr)
  case atStart => exact ⟨0, 1, _, by omega, rfl, HW.out, (Below.refl _ _).alloc (Nat.le_refl _) _⟩
  case round =>
    obtain ⟨j, c, A, hj, rfl, hown, hb⟩ := hrel
    have hsz := hb.size
    have hrr := HR.out
    obtain ⟨m, hm⟩ : ∃ m, m = 1 + j := ⟨_, rfl⟩
    have hmb : m ≤ 64 := by omega
    obtain ⟨s1, hs1⟩ : ∃ s1, s1 = p + m := ⟨_, rfl⟩
    have q1 : (p : Int) + (m : Int) = (s1 : Int) := by omega
    obtain ⟨s2, hs2⟩ : ∃ s2, s2 = s1 + 8 := ⟨_, rfl⟩
    have q2 : (s1 : Int) + 8 = (s2 : Int) := by omega
    obtain ⟨s3, hs3⟩ : ∃ s3, s3 = s2 % 64 := ⟨_, rfl⟩
    have q3 : (s2 : Int).tmod 64 = (s3 : Int) := by rw [Int.tmod_eq_emod_of_nonneg (by omega)]; omega
    have b1 : s1 ≤ 200 := by omega
    have b2 : s2 ≤ 200 := by omega
    by_cases hlt : j < r
    · have hne : ((s3 : Int) != 0) = true := by simp; omega
      have hne2 : ¬ (s3 : Int) = 0 := by omega
      rw [← hm] at hown ⊢
      have HJ := Lib.hid (And.intro hm (And.intro hlt hj))
      clear hm hs1 hs2 hs3 hlt hj hrr
      go_wp2_with (at_builtin; refine wpList_append_own _ rfl (.tmp 13) (.tmp 14) 68 rfl w.heap.size 5 i0 (.int .u8 0) 1 1 Tryz.underlying68 hi hz0 hz1 hz2 rfl (by decide) _ _ _ rfl (hown.alloc _) ⟨wr.heap.size, 0, none⟩ 1 1 [.int .u8 0] rfl rfl ?c1 ?c2 ?c3 ?c4 ?c5 ?_)
      case c1 => exact one_new _ _ _
      case c2 => exact one_cell _ rfl
      case c3 => unfold maxLen; omega
      case c4 => omega
      case c5 => simp; omega
      intro v' w2 hown2 hg2 _
      have R := rel_step hb hsz hown hown2 hg2
      obtain ⟨k1, k2⟩ := R
      obtain ⟨A', c', rfl, _, _, _⟩ := own_form k1
      have K1 := Lib.hid k1
      have K2 := Lib.hid k2
      clear hown2 hg2 hown hb k1 k2
      go_wp2
      obtain ⟨h1, h2, h3⟩ := HJ.out
      obtain ⟨g2, rfl⟩ : ∃ g2, gk = g2 + 1 := ⟨gk - 1, by omega⟩
      go_roundg g2
      case measure => omega
      case rel =>
        have e : u8s (128 :: List.replicate j 0) ++ [.int .u8 0] = u8s (128 :: List.replicate (j + 1) 0) := by
          rw [List.replicate_succ']; simp [u8s]
        have hk := K1.out
        rw [e] at hk
        have e2 : m + 1 = 1 + (j + 1) := by omega
        rw [e2] at hk ⊢
        exact ⟨j + 1, c', A', by omega, rfl, hk, K2.out⟩
    · obtain rfl : j = r := by omega
      have hne : ((s3 : Int) != 0) = false := by simp; omega
      have hne2 : (s3 : Int) = 0 := by omega
      rw [← hm] at hown ⊢
      have HJ := Lib.hid hm
      have HO := Lib.hid hown
      have HB := Lib.hid hb
      clear hm hs1 hs2 hs3 hlt hj hrr hown hb
      go_wp2_with fail
      refine (of64_own x wr HX.out).mono ?_
      rintro e w2 ⟨g, c2, rfl, hown2, hb2⟩
      have CT := Lib.hid (turned_own 8 (by omega) x g c2 w2 hown2)
      have HB2 := Lib.hid hb2
      clear hown2 hb2
      go_wp2_with fail
      refine CT.out.mono ?_
      rintro e w3 ⟨g3, c3, rfl, hown3, hb3⟩
      have HA := Lib.hid (cells_own hown3)
      have HB3 := Lib.hid (HB2.out.trans (hb3.mono HB2.out.size))
      have HO3 := Lib.hid (own_kept (M := fun _ => False) HO.out (Kept.of_below HB3.out) (fun _ _ h => h))
      have HB4 := Lib.hid (below_step HB.out HB3.out)
      have hsz4 := HB4.out.size
      clear hown3 hb3
      go_wp2_with (at_builtin; refine wpList_append_own _ rfl (.tmp 16) (.tmp 21) 68 rfl w.heap.size 5 i0 (.int .u8 0) 1 1 Tryz.underlying68 hi hz0 hz1 hz2 rfl (by decide) _ _ _ rfl HO3.out ⟨g3, 0, none⟩ 8 c3 (u8s (bytesOf (downs 8) 8 x)) rfl (by rw [u8s_length, bytesOf_length]) ?d1 ?d2 ?d3 ?d4 ?d5 ?_)
      case d1 => exact HA.out
      case d2 => exact u8s_one _
      case d3 => unfold maxLen; omega
      case d4 => omega
      case d5 => omega
      intro v' w4 hown4 hg4 _
      have hB5 : Below w.heap.size w w4 := HB4.out.grown hg4 (by omega) (fun k hk => (HO3.out.lt k hk).1)
      have e3 : u8s (128 :: List.replicate j 0) ++ u8s (bytesOf (downs 8) 8 x) = cs (padL t) := by
        unfold padL
        rw [cs_bytesL _ (padN_lt t), HP.out, ← u8s_append]
      rw [e3] at hown4
      have hc := conv_text w4 hown4
      have HB5 := Lib.hid hB5
      clear hown4 hg4 e3 hB5
      go_wp2
      go_ret
      exact ⟨rfl, HB5.out⟩

end Go.Proofs.YtlifpplhinmajaaGreatDoor

namespace Go.Proofs.YtlifpplhinmajaaGreatDoor
set_option maxRecDepth 50000
open Go.RowKit Rot Sha

theorem wpStill_load {P : Program} {ops : Array Oper} {w : World} {Q : Act → Prop} {a : Act} {o : Oper} {rest : List Oper} (hg : o.guard = none) (ty : TypeId) (x : Operand) (ho : o.op = .load ty x) (ad : Addr) (v : Value) (hx : a.eval x = .pointer (some ad))
    (hl : (loadVar ty ad).run P w = .ok v w) (h : wpStill P ops w Q rest (a.put o.dst v)) : wpStill P ops w Q (o :: rest) a := by
  refine wpStill_step fun K hK => ?_
  rw [if_pos (by simp [Region.wanted, hg])]
  unfold Oper.still execOp
  simp only [ho, hx, Instr.loadAt, Instr.sureAddr, Sem.run_bind, Sem.run_pure, Result.andThen_ok, hl]
  exact ⟨rfl, hK _ h⟩
theorem blocks_snoc : ∀ (k : Nat) (Y : List UInt8), blocksOf (k + 1) Y = blocksOf k Y ++ [(Y.drop (64 * k)).take 64]
  | 0, Y => by simp [blocksOf]
  | k + 1, Y => by
    have h := blocks_snoc k (Y.drop 64)
    rw [blocksOf, h, blocksOf, List.drop_drop, List.cons_append, show 64 + 64 * k = 64 * (k + 1) by omega]
theorem tl_piece (s : ByteArray) (a : Nat) : tl (s.extract a (a + 64)) = ((tl s).drop a).take 64 := by
  unfold tl
  rw [ByteArray.data_extract]
  simp [Array.toList_extract, List.extract_eq_take_drop]
theorem fixed_load {w : World} {b : Nat} (h : RowAt w b 40 (wd (kk ++ hh))) : (loadVar 38 ⟨b, 64, none⟩).run Tryz.prog w = .ok (.agg (wd hh)) w := by
  have hl : (loadCells ⟨b, 64, none⟩ (u32s hh).length).run Tryz.prog w = .ok (u32s hh).toArray w :=
    run_loadCells_list (P := Tryz.prog) w ⟨b, 64, none⟩ (u32s hh) (fun j v hv => by
      have hadd : (⟨b, 64, none⟩ : Addr).add j = ⟨b, 64 + j, none⟩ := by unfold Addr.add; split <;> simp_all
      rw [hadd, h.cell (64 + j)]
      have e : wd (kk ++ hh) = (u32s kk ++ u32s hh).toArray := by simp [wd, u32s]
      rw [e, List.getElem?_toArray, List.getElem?_append_right (by rw [u32s_length]; exact Nat.le_add_right 64 j), u32s_length, show 64 + j - kk.length = j from Nat.add_sub_cancel_left 64 j]
      exact hv)
  rw [u32s_length, show hh.length = 8 from rfl] at hl
  have hz := size8
  cases hq : Tryz.prog.info? 38 with
  | none => rw [hq] at hz; simp at hz
  | some i =>
    have hsz : i.size = 8 := by rw [hq] at hz; simpa using hz
    simp [loadVar, Sem.run_bind, sizeOf, typeInfo, hq, hsz, hl, wd]

set_option maxRecDepth 20000 in
set_option maxHeartbeats 1600000 in
theorem known_any (w : World) : Calls Tryz.prog 16 #[] w fun e w' => e = .returned (.agg (wd (kk ++ hh))) ∧ Below w.heap.size w w' := by
  have hz := (zero_of_info (P := Tryz.prog) (t := 40) (v := .agg (wd (List.replicate 72 0))) (n := 72) (by kernel_rfl)).1
  go_enter Tryz.func16, Tryz.ntmps16
  go_wp2_with (refine wpList_store_row rfl 40 (.tmp 0) (.tmp 3) rfl w.heap.size (wd (kk ++ hh)) rfl rfl 40 _ (RowAt.new _ _ _) size72 (by rfl) (wd_one _) ?_; rw [World.setRow_alloc_new])
  have hR : RowAt (w.alloc (.cells (wd (kk ++ hh)) 40)) w.heap.size 40 (wd (kk ++ hh)) := RowAt.new _ _ _
  refine bodyPost_ret (v := .agg (wd (kk ++ hh))) (results_cell_row rfl _ _ w.heap.size 40 (wd (kk ++ hh)) (0, 0) _ rfl hR Tryz.underlying40 rfl size72) rfl ⟨rfl, (Below.refl _ w).alloc (Nat.le_refl _) _⟩

set_option maxRecDepth 20000 in
set_option maxHeartbeats 4000000 in
theorem rsum_any (s : ByteArray) (hs : s.size ≤ 200000) (w : World) :
    Calls Tryz.prog 114 #[.agg (wd (kk ++ hh)), .string s] w fun e w' => e = .returned (.string (tx (shaL (tl s)))) ∧ Below w.heap.size w w' := by
  obtain ⟨i0, hi, hz0, hz1, hz2⟩ := info_parts Tryz.info5
  have HFX := Lib.hid (fun (W : World) (b : Nat) (h : RowAt W b 40 (wd (kk ++ hh))) => fixed_load h)
  have HRC := Lib.hid rcomp_any
  have hfl : (wd (kk ++ hh)).size = 72 := by rw [wd_size]; rfl
  have HFL := Lib.hid hfl
  clear hfl
  obtain ⟨FX, hFX⟩ : ∃ FX, FX = wd (kk ++ hh) := ⟨_, rfl⟩
  rw [← hFX] at HFX HRC HFL ⊢
  clear hFX
  go_enter Tryz.func114, Tryz.ntmps114
  go_wp2_with fail
  refine (refpad_any s.size (by omega) _).mono ?_
  rintro e w1 ⟨rfl, hb1⟩
  have R0 : RowAt w1 w.heap.size 40 FX := (RowAt.new w 40 FX).below hb1 (by simp)
  have hB : Below w.heap.size w w1 := ((Below.refl _ w).alloc (Nat.le_refl _) _).trans (hb1.mono (by simp))
  have hsz : w.heap.size + 1 ≤ w1.heap.size := by have := hb1.size; simpa using this
  have H0 := Lib.hid R0
  have HB := Lib.hid hB
  clear R0 hB hb1
  obtain ⟨P, hP⟩ : ∃ P, P = tx (padL s.size) := ⟨_, rfl⟩
  rw [← hP]
  have hPs : P.size ≤ 100 := by rw [hP, tx_size, padL_length]; unfold room; omega
  obtain ⟨all, hall⟩ : ∃ all, all = s ++ P := ⟨_, rfl⟩
  have hY : tl all = tl s ++ padL (tl s).length := by
    rw [hall, hP, tl_length]
    have e : tl (s ++ tx (padL s.size)) = tl s ++ tl (tx (padL s.size)) := by unfold tl; rw [ByteArray.data_append]; simp
    rw [e, tl_tx]
  have hm : all.size % 64 = 0 := by
    rw [← tl_length, hY, List.length_append]
    exact pad_whole _
  have hal : all.size ≤ 200100 := by
    rw [← tl_length, hY, List.length_append, padL_length, tl_length]; unfold room; omega
  obtain ⟨K, hK⟩ : ∃ K, all.size = 64 * K := ⟨all.size / 64, by omega⟩
  have HKE := Lib.hid hK
  have HSH : Hid (outL (stOf (blocksOf K (tl all))) = shaL (tl s)) := Lib.hid (by
    unfold shaL
    rw [← hY, tl_length, hK, Nat.mul_div_cancel_left _ (by decide)])
  have HALL := Lib.hid hall
  clear hm hY hP hK
  go_wp2_with (first
    | refine wpList_load_of rfl 38 (.tmp 15) rfl ⟨w.heap.size, 64, none⟩ _ rfl (HFX.out _ _ H0.out) ?_
    | (refine wpList_store_row rfl 38 (.tmp 6) (.tmp 16) rfl w1.heap.size (wd hh) rfl rfl 38 _ (RowAt.new _ _ _) size8 rfl (wd_one _) ?_; rw [World.setRow_alloc_new]))
  rw [← HALL.out]
  generalize hW : World.alloc _ _ = w3
  obtain ⟨b1, hb1⟩ : ∃ b1, b1 = w1.heap.size := ⟨_, rfl⟩
  have R1 : RowAt w3 b1 38 (wd hh) := by subst hW; rw [hb1]; exact RowAt.new _ _ _
  have hb3 : Below w1.heap.size w1 w3 := by subst hW; exact (Below.refl _ _).alloc (Nat.le_refl _) _
  have H1 := Lib.hid R1
  have H03 := Lib.hid (H0.out.below hb3 (by omega))
  have HB3 := Lib.hid (HB.out.trans (hb3.mono (by omega)))
  rw [← hb1]
  have hlt : w.heap.size < b1 := by omega
  clear hW R1 hb3 hb1 hsz H0 HB hall
  go_loopg [7] K (fun g v7 wr => ∃ k i : Nat, k + g = K ∧ Hid (i = 64 * k) ∧ v7 = .int .i64 (i : Int) ∧ RowAt wr b1 38 (wd (stOf (blocksOf k (tl all)))) ∧ Below b1 w3 wr)
  case atStart => exact ⟨0, 0, by omega, Lib.hid rfl, rfl, H1.out, Below.refl _ _⟩
  case round =>
    obtain ⟨k, i, hk, HI, rfl, Rr, hbr⟩ := hrel
    have HRr := Lib.hid Rr
    have HBr := Lib.hid hbr
    have hie := HI.out
    have hK := HKE.out
    by_cases h : k < K
    · obtain ⟨g2, rfl⟩ : ∃ g2, gk = g2 + 1 := ⟨gk - 1, by omega⟩
      obtain ⟨i2, hi2⟩ : ∃ i2, i2 = i + 64 := ⟨_, rfl⟩
      have q1 : (i : Int) + 64 = (i2 : Int) := by omega
      have q2 : IntKind.i64.wrap (i2 : Int) = (i2 : Int) := IntWalk.i64_in _ (by omega)
      have q3 : IntKind.i64.wrap (i : Int) = (i : Int) := IntWalk.i64_in _ (by omega)
      have n1 : (0 : Int) ≤ (i : Int) := by omega
      have n2 : (i : Int) ≤ (i2 : Int) := by omega
      have n3 : (i2 : Int) ≤ (all.size : Int) := by omega
      have m1 : i ≤ i2 := by omega
      have m2 : i2 ≤ all.size := by omega
      have hdt : decide ((i : Int) < (all.size : Int)) = true := by simp; omega
      obtain ⟨so1, so2⟩ := stOf_ok (blocksOf k (tl all))
      have hps : (all.extract i i2).size = 64 := by rw [ByteArray.size_extract]; omega
      have CC := Lib.hid fun (W : World) => HRC.out (stOf (blocksOf k (tl all))) so1 so2 (all.extract i i2) hps W
      have e1 : comp kk (stOf (blocksOf k (tl all))) (blockWords (nats (tl (all.extract i i2)))) = stOf (blocksOf (k + 1) (tl all)) := by
        rw [blocks_snoc, stOf_snoc, hi2, tl_piece, hie]
      rw [e1] at CC
      have hs8 : (wd (stOf (blocksOf k (tl all)))).size = 8 := by rw [wd_size]; exact so1
      have h72 := H03.out.below hbr hlt
      have L72 := Lib.hid (run_loadVar_row (P := Tryz.prog) _ _ 40 40 FX (0, 0) _ h72.drew Tryz.underlying40 rfl (by rw [HFL.out]; exact size72))
      have L8 := Lib.hid (RowAt.load (P := Tryz.prog) Rr.drew Tryz.underlying38 (by rw [hs8]; exact size8))
      clear h72
      have HN8 := Lib.hid (And.intro (stOf_ok (blocksOf (k + 1) (tl all))).1 hs8)
      have HJ := Lib.hid (And.intro hk (And.intro h hi2))
      clear so1 so2 hps e1 hs8 Rr hbr hk h hi2 hie hK
      generalize wd (stOf (blocksOf k (tl all))) = ST at *
      go_wp2
      refine wp_region_still_tail 7 (by kernel_rfl) (by kernel_rfl) ?_
      simp only [List.take_succ_cons, List.take_zero, List.drop_succ_cons, List.drop_zero]
      refine wpStill_load rfl 40 (.tmp 2) rfl ⟨w.heap.size, 0, none⟩ _ rfl L72.out ?_
      refine wpStill_load rfl 38 (.tmp 6) rfl ⟨b1, 0, none⟩ _ rfl L8.out ?_
      simp only [Act.put, List.setIfInBounds_toArray, List.set_cons_succ, List.set_cons_zero]
      repeat still_step
      refine wpStill_nil ?_
      change wpList _ _ _ _ _ wr.drew
      go_wp2_with (first
        | (refine (CC.out _).mono ?_; rintro e w5 ⟨rfl, hb5⟩; have HB5 := Lib.hid hb5; have HR5 := Lib.hid (HRr.out.drew.below hb5 HRr.out.lt); clear hb5)
        | refine wpList_store_row rfl 38 (.tmp 6) (.tmp 30) rfl b1 (wd (stOf (blocksOf (k + 1) (tl all)))) rfl rfl 38 _ HR5.out (by rw [wd_size, HN8.out.1]; exact size8) (by rw [wd_size, HN8.out.1]; exact HN8.out.2) (wd_one _) ?_)
      go_roundg g2
      case measure => omega
      case rel =>
        obtain ⟨j1, j2, j3⟩ := HJ.out
        refine ⟨k + 1, i2, by omega, Lib.hid (by rw [j3, HI.out]; omega), rfl, HR5.out.setRow _, below_setRow (HBr.out.drew.trans (HB5.out.mono (Nat.le_of_lt HRr.out.lt))) (Nat.le_refl _) _⟩
    · obtain rfl : k = K := by omega
      have hdt2 : decide (i < all.size) = false := decide_eq_false (by omega)
      have hdt3 : ¬ i < all.size := by omega
      have hdt4 : all.size ≤ i := by omega
      obtain ⟨so1, so2⟩ := stOf_ok (blocksOf k (tl all))
      have HO1 := Lib.hid so1
      have HO2 := Lib.hid so2
      have HBW := Lib.hid (HB3.out.trans (hbr.mono (by omega)))
      clear Rr hbr hk h hie hK so1 so2
      generalize stOf (blocksOf k (tl all)) = st at *
      go_wp2
      obtain ⟨N, hN⟩ : ∃ N, N = wr.heap.size := ⟨_, rfl⟩
      have hNb : b1 < N := by rw [hN]; exact HRr.out.lt
      have HBN := Lib.hid (show Below N wr wr from Below.refl _ _)
      have hNs : N ≤ wr.heap.size := by omega
      have hwN : w.heap.size ≤ N := by omega
      clear hN
      go_loopg [8, 9] 8 (fun g v8 v9 wq => ∃ (j n c : Nat) (A : Option Addr), j + g = 8 ∧ n = 4 * j ∧ v9 = .int .i64 (j : Int) ∧ v8 = .slice A n c ∧ wq.ownsRow N 5 1 (.slice A n c) n (u8s ((st.take j).flatMap (bytesOf (downs 4) 4))) ∧ RowAt wq b1 38 (wd st) ∧ Below N wr wq)
      case atStart => exact ⟨0, 0, 0, none, rfl, rfl, rfl, rfl, World.ownsRow_nil _ _ _ _, HRr.out, Below.refl _ _⟩
      case round =>
        rename_i wr0 _
        obtain ⟨j, n, c, A, hj, hn, rfl, rfl, hown, Rq, hbq⟩ := hrel
        have HOW := Lib.hid hown
        have HRq := Lib.hid Rq
        have HBq := Lib.hid hbq
        have hszq : N ≤ wr.heap.size := by have := hbq.size; omega
        by_cases h : j < 8
        · obtain ⟨g2, rfl⟩ : ∃ g2, gk = g2 + 1 := ⟨gk - 1, by omega⟩
          have cj := (Rq.cell j).trans (wd_at _ j (by rw [HO1.out]; exact h))
          have hx := getD_lt_of st HO2.out j
          have hsn := flat_snoc (bytesOf (downs 4) 4) st j (by rw [HO1.out]; exact h)
          have hg : st[j]'(by rw [HO1.out]; exact h) = st.getD j 0 := by
            rw [List.getD_eq_getElem?_getD, List.getElem?_eq_getElem (by rw [HO1.out]; exact h)]; rfl
          rw [hg] at hsn
          have HSN := Lib.hid hsn
          have HJ := Lib.hid (And.intro hj (And.intro hn h))
          have hdj : decide ((j : Int) < 8) = true := by simp; omega
          have hnb : n ≤ 32 := by omega
          have hj8 : (j : Int) < 8 := by omega
          clear hg hsn hown Rq hbq hj hn h
          generalize st.getD j 0 = x at *
          go_wp2_with fail
          refine (of32_own x wr hx).mono ?_
          rintro e w5 ⟨g, c2, rfl, hown2, hb5⟩
          have CT := Lib.hid (turned_own 4 (by omega) x g c2 w5 hown2)
          have HB5 := Lib.hid hb5
          clear hown2 hb5
          go_wp2_with fail
          refine CT.out.mono ?_
          rintro e w6 ⟨g3, c3, rfl, hown3, hb6⟩
          have HA := Lib.hid (cells_own hown3)
          have HB6 := Lib.hid (HB5.out.trans (hb6.mono HB5.out.size))
          have HO6 := Lib.hid (own_kept (M := fun _ => False) HOW.out (Kept.of_below HB6.out) (fun _ _ h => h))
          have HB7 := Lib.hid (HBq.out.trans (HB6.out.mono hszq))
          have hsz6 : N ≤ w6.heap.size := by have := HB6.out.size; omega
          clear hown3 hb6
          go_wp2_with (at_builtin; refine wpList_append_own _ rfl (.tmp 35) (.tmp 40) 68 rfl N 5 i0 (.int .u8 0) 1 1 Tryz.underlying68 hi hz0 hz1 hz2 rfl (by decide) _ _ _ rfl HO6.out ⟨g3, 0, none⟩ 4 c3 (u8s (bytesOf (downs 4) 4 x)) rfl (by rw [u8s_length, bytesOf_length]) ?d1 ?d2 ?d3 ?d4 ?d5 ?_)
          case d1 => exact HA.out
          case d2 => exact u8s_one _
          case d3 => unfold maxLen; omega
          case d4 => omega
          case d5 => omega
          intro v' w7 hown7 hg7 _
          rw [← u8s_append, ← HSN.out] at hown7
          obtain ⟨A', c', rfl, _, _, _⟩ := own_form hown7
          have HB8 := Lib.hid (HB7.out.grown hg7 hsz6 (fun k hk => (HO6.out.lt k hk).1))
          have HO7 := Lib.hid hown7
          clear hown7 hg7
          go_wp2
          go_roundg g2
          case measure => omega
          case rel =>
            obtain ⟨j1, j2, j3⟩ := HJ.out
            exact ⟨j + 1, n + 4, c', A', by omega, by omega, by go_num, rfl, HO7.out, HRr.out.below HB8.out hNb, HB8.out⟩
        · obtain rfl : j = 8 := by omega
          have hdj : decide (((8 : Nat) : Int) < 8) = false := by simp
          have e1 : u8s ((st.take 8).flatMap (bytesOf (downs 4) 4)) = cs (outL st) := by
            rw [List.take_of_length_le (by rw [HO1.out]; exact Nat.le_refl 8)]
            exact (cs_bytesL _ (flat4_lt _)).symm
          rw [e1, HSH.out] at hown
          have hcv := conv_text _ hown
          have HF := Lib.hid (HBW.out.trans (HBq.out.mono hwN))
          clear hown Rq hbq hj hn h e1
          go_wp2
          go_ret
          exact ⟨rfl, HF.out⟩
end Go.Proofs.YtlifpplhinmajaaGreatDoor
