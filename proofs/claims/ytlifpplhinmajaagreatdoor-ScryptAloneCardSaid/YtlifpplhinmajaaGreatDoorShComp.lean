/- sha.Compress by its contract: the state behind a block; a block that has not 64 bytes. Condition: the package's table reads as it was laid. -/
import Derived.Test.YtlifpplhinmajaaGreatDoorShSched
import Derived.Test.YtlifpplhinmajaaGreatDoorWb
namespace Go.Proofs.YtlifpplhinmajaaGreatDoor
set_option maxRecDepth 50000
open Go.RowKit Rot Sha

def kk : List Nat := [1116352408, 1899447441, 3049323471, 3921009573, 961987163, 1508970993, 2453635748, 2870763221, 3624381080, 310598401, 607225278, 1426881987, 1925078388, 2162078206, 2614888103, 3248222580, 3835390401, 4022224774, 264347078, 604807628, 770255983, 1249150122, 1555081692, 1996064986, 2554220882, 2821834349, 2952996808, 3210313671, 3336571891, 3584528711, 113926993, 338241895, 666307205, 773529912, 1294757372, 1396182291, 1695183700, 1986661051, 2177026350, 2456956037, 2730485921, 2820302411, 3259730800, 3345764771, 3516065817, 3600352804, 4094571909, 275423344, 430227734, 506948616, 659060556, 883997877, 958139571, 1322822218, 1537002063, 1747873779, 1955562222, 2024104815, 2227730452, 2361852424, 2428436474, 2756734187, 3204031479, 3329325298]
def hh : List Nat := [1779033703, 3144134277, 1013904242, 2773480762, 1359893119, 2600822924, 528734635, 1541459225]
/-- the table of constants lies at its place -/
def KAt (w : World) : Prop := 0 < w.heap.size ∧ ∀ i, i < 64 → w.cell? ⟨0, i, none⟩ = some (.int .u32 (kk.getD i 0 : Nat))
theorem KAt.below {w w' : World} {B : Nat} (h : KAt w) (hb : Below B w w') (hB : 0 < B) : KAt w' :=
  ⟨Nat.lt_of_lt_of_le h.1 hb.size, fun i hi => (hb.cell (p := ⟨0, i, none⟩) hB).trans (h.2 i hi)⟩
theorem KAt.next {w w' : World} (h : KAt w) (hb : Below w.heap.size w w') : KAt w' := h.below hb h.1
/-- a block's words -/
def blockWords (bs : List Nat) : List Nat := wordsAt (downs 4) 4 16 bs (4 * 16)
theorem blockWords_length (bs : List Nat) : (blockWords bs).length = 16 := by simp [blockWords, wordsAt]
theorem blockWords_lt (bs : List Nat) (hx : ∀ x ∈ bs, x < 256) : ∀ x ∈ blockWords bs, x < 4294967296 := by
  intro x h
  simp only [blockWords, wordsAt, List.mem_map, List.mem_range] at h
  obtain ⟨j, _, rfl⟩ := h
  exact wordAt_lt (downs 4) 4 (fun i h => by unfold downs; omega) bs hx _ _

set_option maxHeartbeats 1600000 in
theorem comp_bad (st : Array Value) (A : Option Addr) (n c : Nat) (hn : n ≠ 64) (w : World) :
    Calls Tryz.prog 108 #[.agg st, .slice A n c] w fun e w' => e = .returned (.tuple #[.agg (wd [0, 0, 0, 0, 0, 0, 0, 0]), .int .i64 9]) ∧ Below w.heap.size w w' := by
  have h1 : ((n : Int) == 64) = false := by simp; omega
  have h2 : ¬ (n : Int) = 64 := by omega
  rw [show wd [0, 0, 0, 0, 0, 0, 0, 0] = #[.int .u32 0, .int .u32 0, .int .u32 0, .int .u32 0, .int .u32 0, .int .u32 0, .int .u32 0, .int .u32 0] from rfl]
  go_enter Tryz.func108, Tryz.ntmps108
  go_wp2
  refine bodyPost_ret ?_ rfl ⟨rfl, ((Below.refl _ w).alloc (Nat.le_refl _) _).alloc (by simp) _⟩
  refine results_row_tmp (fn := Tryz.f108) (p := 4) (u := 5) (b := w.heap.size + 1) (t := 38) (C := #[.int .u32 0, .int .u32 0, .int .u32 0, .int .u32 0, .int .u32 0, .int .u32 0, .int .u32 0, .int .u32 0]) rfl _ rfl ?_ Tryz.underlying38 rfl size8
  have h := RowAt.new (w.alloc (.cells st 38)) 38 #[.int .u32 0, .int .u32 0, .int .u32 0, .int .u32 0, .int .u32 0, .int .u32 0, .int .u32 0, .int .u32 0]
  rw [World.size_alloc] at h
  exact h
set_option maxRecDepth 20000 in
set_option maxHeartbeats 1600000 in
theorem comp_any (st : List Nat) (hs : st.length = 8) (hst : ∀ x ∈ st, x < 4294967296) (A : Option Addr) (c : Nat) (bs : List Nat) (hbs : bs.length = 64) (hx : ∀ x ∈ bs, x < 256) (w : World) (hk : KAt w) (hr : Reads w w.heap.size A (u8s bs)) :
    Calls Tryz.prog 108 #[.agg (wd st), .slice A 64 c] w fun e w' => e = .returned (.tuple #[.agg (wd (comp kk st (blockWords bs))), .int .i64 0]) ∧ Below w.heap.size w w' := by
  have C := fun (w : World) (hr : Reads w w.heap.size A (u8s bs)) => takebig32_any A c bs 16 hbs w hr (by omega) hx
  rw [hbs] at C
  have HC := Lib.hid C
  have HX := Lib.hid hx
  have HR := Lib.hid hr
  have HK := Lib.hid hk
  have HS := Lib.hid hs
  have HST := Lib.hid hst
  clear C hr hk hs hst hbs hx
  go_enter Tryz.func108, Tryz.ntmps108
  go_wp2_with fail
  refine (HC.out _ (HR.out.below ?_ |>.more ?_)).mono ?_
  case refine_1 => exact ((Below.refl _ w).alloc (Nat.le_refl _) _).alloc (by simp) _
  case refine_2 => simp; omega
  rintro e w1 ⟨v, rfl, hown, hb⟩
  have R0 : RowAt w1 w.heap.size 38 (wd st) := ((RowAt.new w 38 (wd st)).alloc _).below hb (by simp; omega)
  have R1 : RowAt w1 (w.heap.size + 1) 38 (wd [0, 0, 0, 0, 0, 0, 0, 0]) := by
    have h := RowAt.new (w.alloc (.cells (wd st) 38)) 38 (wd [0, 0, 0, 0, 0, 0, 0, 0])
    rw [World.size_alloc] at h
    exact h.below hb (by simp)
  have hB : Below w.heap.size w w1 := (((Below.refl _ w).alloc (Nat.le_refl _) _).alloc (by simp) _).trans (hb.mono (by simp; omega))
  have hsz : w.heap.size + 2 ≤ w1.heap.size := by have := hb.size; simpa using this
  have H0 := Lib.hid R0
  have H1 := Lib.hid R1
  obtain ⟨A', c', rfl, hl1, hl2, hl3⟩ := own_form hown
  have hrd := Reads.of_own hown
  clear R0 R1 hown hb hl1 hl2 hl3
  have HRD := Lib.hid hrd
  have hlt16 := blockWords_lt bs HX.out
  have CS := Lib.hid (sched_any A' c' (blockWords bs) (blockWords_length bs) hlt16 w1 hrd)
  clear hrd hlt16
  have HB := Lib.hid hB
  clear hB
  go_wp2_with fail
  refine CS.out.mono ?_
  rintro e w2 ⟨rfl, hb2⟩
  have hl64 : (wd (sched (blockWords bs))).size = 64 := by rw [wd_size]; exact fill_length _ (blockWords_length bs) 48
  have HL := Lib.hid hl64
  clear hl64
  generalize hW : sched (blockWords bs) = ws at *
  have HW := Lib.hid hW
  clear hW
  go_wp2_with (refine wpList_store_row rfl 37 (.tmp 8) (.tmp 32) rfl w2.heap.size (wd ws) rfl rfl 37 _ (RowAt.new _ _ _) (by rw [HL.out]; exact size64) (by rw [HL.out]; rfl) (wd_one _) ?_)
  generalize hw3 : World.setRow _ _ _ = w3
  have R2 : RowAt w3 w2.heap.size 37 (wd ws) := by subst hw3; exact (RowAt.new _ _ _).setRow _
  have hB23 : Below w2.heap.size w2 w3 := by subst hw3; exact below_setRow ((Below.refl _ _).alloc (Nat.le_refl _) _) (Nat.le_refl _) _
  have hsz2 := hb2.size
  have R0 : RowAt w3 w.heap.size 38 (wd st) := (H0.out.below hb2 (by omega)).below hB23 (by omega)
  have R1 : RowAt w3 (w.heap.size + 1) 38 (wd [0, 0, 0, 0, 0, 0, 0, 0]) := (H1.out.below hb2 (by omega)).below hB23 (by omega)
  have hB : Below w.heap.size w w3 := (HB.out.trans (hb2.mono (by omega))).trans (hB23.mono (by omega))
  clear hw3 hB23 H0 H1 HB hb2 CS HRD
  have hK := HK.out.next hB
  have c0 := (R0.cell 0).trans (wd_at st 0 (by rw [HS.out]; decide))
  have c1 := (R0.cell 1).trans (wd_at st 1 (by rw [HS.out]; decide))
  have c2 := (R0.cell 2).trans (wd_at st 2 (by rw [HS.out]; decide))
  have c3 := (R0.cell 3).trans (wd_at st 3 (by rw [HS.out]; decide))
  have c4 := (R0.cell 4).trans (wd_at st 4 (by rw [HS.out]; decide))
  have c5 := (R0.cell 5).trans (wd_at st 5 (by rw [HS.out]; decide))
  have c6 := (R0.cell 6).trans (wd_at st 6 (by rw [HS.out]; decide))
  have c7 := (R0.cell 7).trans (wd_at st 7 (by rw [HS.out]; decide))
  have HSt : Hid (St.of st = ⟨st.getD 0 0, st.getD 1 0, st.getD 2 0, st.getD 3 0, st.getD 4 0, st.getD 5 0, st.getD 6 0, st.getD 7 0⟩) := Lib.hid rfl
  have Hok := Lib.hid (of_ok st HST.out)
  have HR0 := Lib.hid R0
  have HR1 := Lib.hid R1
  have HR2 := Lib.hid R2
  have HKK := Lib.hid hK
  have HBB := Lib.hid hB
  clear R0 R1 R2 hK hB
  generalize st.getD 0 0 = a0 at *
  generalize st.getD 1 0 = a1 at *
  generalize st.getD 2 0 = a2 at *
  generalize st.getD 3 0 = a3 at *
  generalize st.getD 4 0 = a4 at *
  generalize st.getD 5 0 = a5 at *
  generalize st.getD 6 0 = a6 at *
  generalize st.getD 7 0 = a7 at *
  go_quiet (fail)
  clear c0 c1 c2 c3 c4 c5 c6 c7
  go_wp2
  go_loopw [9, 10, 11, 12, 13, 14, 15, 16, 49] (fun v9 v10 v11 v12 v13 v14 v15 v16 v49 wr => ∃ i ra rb rc rd re rf rg rh : Nat, i ≤ 64 ∧ Hid (rounds kk ws (St.of st) i = ⟨ra, rb, rc, rd, re, rf, rg, rh⟩) ∧ v49 = .int .i64 (i : Int) ∧
    v9 = .int .u32 (ra : Int) ∧ v10 = .int .u32 (rb : Int) ∧ v11 = .int .u32 (rc : Int) ∧ v12 = .int .u32 (rd : Int) ∧ v13 = .int .u32 (re : Int) ∧ v14 = .int .u32 (rf : Int) ∧ v15 = .int .u32 (rg : Int) ∧ v16 = .int .u32 (rh : Int) ∧
    ∃ k, wr = w3.drewN k) (fun _ _ _ _ _ _ _ _ v49 _ => 64 - (intOf v49).toNat)
  case atStart => exact ⟨0, a0, a1, a2, a3, a4, a5, a6, a7, by omega, Lib.hid HSt.out, rfl, rfl, rfl, rfl, rfl, rfl, rfl, rfl, rfl, nq, rfl⟩
  case round =>
    obtain ⟨i, ra, rb, rc, rd, re, rf, rg, rh, hi, HRR, rfl, rfl, rfl, rfl, rfl, rfl, rfl, rfl, rfl, k, rfl⟩ := hrel
    have hok := rounds_ok kk ws Hok.out i
    rw [HRR.out] at hok
    obtain ⟨o1, o2, o3, o4, o5, o6, o7, o8⟩ := hok
    simp only at o1 o2 o3 o4 o5 o6 o7 o8
    have HN : Hid (rounds kk ws (St.of st) (i + 1) = Sha.step ⟨ra, rb, rc, rd, re, rf, rg, rh⟩ (kk.getD i 0) (ws.getD i 0)) := Lib.hid (by rw [← HRR.out]; rfl)
    by_cases h : i < 64
    · have kc := HKK.out.2 i h
      have wc := (HR2.out.cell i).trans (wd_at ws i (by have := HL.out; rw [wd_size] at this; omega))
      generalize kk.getD i 0 = kv at *
      generalize ws.getD i 0 = wv at *
      have r6 := fun w => right_n 6 26 rfl re o5 w
      have r11 := fun w => right_n 11 21 rfl re o5 w
      have r25 := fun w => right_n 25 7 rfl re o5 w
      have r2 := fun w => right_n 2 30 rfl ra o1 w
      have r13 := fun w => right_n 13 19 rfl ra o1 w
      have r22 := fun w => right_n 22 10 rfl ra o1 w
      have HQ := And.intro (Lib.hid r6) (And.intro (Lib.hid r11) (And.intro (Lib.hid r25) (And.intro (Lib.hid r2) (And.intro (Lib.hid r13) (Lib.hid r22)))))
      clear r6 r11 r25 r2 r13 r22
      have hdt : decide ((i : Int) < 64) = true := by simp; omega
      go_wp2
      have hi0 : (0 : Int) ≤ (i : Int) := by omega
      have hi6 : (i : Int) < 64 := by omega
      have kk1 : ∀ tp d os out, (World.mk w3.heap tp d os out).cell? ⟨0, i, none⟩ = some (.int .u32 (kv : Int)) := fun _ _ _ _ => kc
      have kk2 : ∀ tp d os out, (World.mk w3.heap tp d os out).cell? ⟨w2.heap.size, i, none⟩ = some (.int .u32 (wv : Int)) := fun _ _ _ _ => wc
      clear kc wc
      refine wp_region_still_tail 27 (by kernel_rfl) (by kernel_rfl) ?_
      simp only [List.take_succ_cons, List.take_zero, List.drop_succ_cons, List.drop_zero]
      repeat still_step
      still_call ((HQ.1.out _).mono fun _ _ h => And.intro h.1 h.2.symm)
      repeat still_step
      still_call ((HQ.2.1.out _).mono fun _ _ h => And.intro h.1 h.2.symm)
      repeat still_step
      still_call ((HQ.2.2.1.out _).mono fun _ _ h => And.intro h.1 h.2.symm)
      repeat still_step
      refine wpStill_nil ?_
      have hd : ({ heap := (w3.drewN k).heap, tape := (w3.drewN k).tape, drawn := (w3.drewN k).drawn + 1, os := (w3.drewN k).os, output := (w3.drewN k).output } : World) = w3.drewN (k + 1) := rfl
      rw [hd, t1_val ra rb rc rd re rf rg rh kv wv o5 o6 o7]
      have HM : Hid (Sha.step ⟨ra, rb, rc, rd, re, rf, rg, rh⟩ kv wv = ⟨add (t1 ⟨ra, rb, rc, rd, re, rf, rg, rh⟩ kv wv) (t2 ⟨ra, rb, rc, rd, re, rf, rg, rh⟩), ra, rb, rc, add rd (t1 ⟨ra, rb, rc, rd, re, rf, rg, rh⟩ kv wv), re, rf, rg⟩) := Lib.hid rfl
      have hy := t2_val ra rb rc rd re rf rg rh o1 o2 o3
      generalize t1 ⟨ra, rb, rc, rd, re, rf, rg, rh⟩ kv wv = X at *
      generalize t2 ⟨ra, rb, rc, rd, re, rf, rg, rh⟩ = Y at *
      have HY := Lib.hid hy
      clear hy kk1 kk2 hd
      have hw1 := wadd rd X
      have hw2 := wadd X Y
      have hy := HY.out
      go_wp2_with (first
        | (refine (HQ.2.2.2.1.out _).mono ?_; rintro e w' ⟨rfl, rfl⟩)
        | (refine (HQ.2.2.2.2.1.out _).mono ?_; rintro e w' ⟨rfl, rfl⟩)
        | (refine (HQ.2.2.2.2.2.out _).mono ?_; rintro e w' ⟨rfl, rfl⟩))
      go_roundw
      case rel =>
        exact ⟨i + 1, add X Y, ra, rb, rc, add rd X, re, rf, rg, by omega, Lib.hid (HN.out.trans HM.out), by simp, rfl, rfl, rfl, rfl, rfl, rfl, rfl, rfl, k + 1, rfl⟩
      case measure => simp [intOf]; omega
    · obtain rfl : i = 64 := by omega
      have hdt : decide (((64 : Nat) : Int) < 64) = false := by simp
      clear HN o1 o2 o3 o4 o5 o6 o7 o8
      go_wp2
      have e : (#[.int .u32 (ra : Int), .int .u32 (rb : Int), .int .u32 (rc : Int), .int .u32 (rd : Int), .int .u32 (re : Int), .int .u32 (rf : Int), .int .u32 (rg : Int), .int .u32 (rh : Int)] : Array Value) = wd [ra, rb, rc, rd, re, rf, rg, rh] := rfl
      rw [e]
      have HZ := Lib.hid (comp_of kk st (blockWords bs) HS.out ra rb rc rd re rf rg rh (by rw [HW.out]; exact HRR.out))
      have hvl : [ra, rb, rc, rd, re, rf, rg, rh].length = 8 := rfl
      generalize [ra, rb, rc, rd, re, rf, rg, rh] = VL at *
      have HVL := Lib.hid hvl
      clear e hvl hdt
      go_loopw [121] (fun v121 wr => ∃ j : Nat, j ≤ 8 ∧ v121 = .int .i64 (j : Int) ∧ RowAt wr w.heap.size 38 (wd (mixed st VL j)) ∧ RowAt wr (w.heap.size + 1) 38 (wd [0, 0, 0, 0, 0, 0, 0, 0]) ∧ Below w.heap.size w wr) (fun v121 _ => 8 - (intOf v121).toNat)
      case atStart => exact ⟨0, by omega, rfl, HR0.out.drewN k, HR1.out.drewN k, below_drewN HBB.out k⟩
      case round =>
        obtain ⟨j, hj, rfl, R0, R1, hB⟩ := hrel
        have hml := mixed_length st VL j
        rw [HS.out] at hml
        have H0 := Lib.hid R0
        have H1 := Lib.hid R1
        have HB := Lib.hid hB
        by_cases h : j < 8
        · have cj := (R0.cell j).trans (wd_at _ j (by omega))
          rw [mixed_at st VL j j (Nat.le_refl _)] at cj
          have fj := R0.frozen j
          have vj := wd_at VL j (by rw [HVL.out]; exact h)
          have HF : Hid (mixed st VL (j + 1) = (mixed st VL j).set j (add (st.getD j 0) (VL.getD j 0))) := Lib.hid rfl
          clear R0 R1 hB hml
          generalize st.getD j 0 = x at *
          generalize VL.getD j 0 = y at *
          have hd : decide ((j : Int) < 8) = true := by simp; omega
          have hv := wadd x y
          have hix := run_index_arr (P := Tryz.prog) wr Tryz.underlying38 size_u32 Tryz.underlying36 j h vj
          go_wp2
          go_roundw
          case rel =>
            refine ⟨j + 1, by omega, by go_num, ?_, H1.out.setOther _ (by simp) _, HB.out.setCell (by simp) _⟩
            rw [HF.out, ← wd_set]
            exact H0.out.setCell j _
          case measure => simp [intOf]; omega
        · obtain rfl : j = 8 := by omega
          have hd : decide (((8 : Nat) : Int) < 8) = false := by simp
          have hsz8 : (wd (mixed st VL 8)).size = 8 := by rw [wd_size]; exact hml
          have HS8 := Lib.hid hsz8
          clear R0 R1 hB hml hsz8
          go_wp2_with (first
            | refine wpList_load_row rfl 38 (.tmp 2) rfl w.heap.size rfl 38 (wd (mixed st VL 8)) (0, 0) _ H0.out Tryz.underlying38 rfl (by rw [HS8.out]; exact size8) ?_
            | refine wpList_store_row rfl 38 (.tmp 4) (.tmp 132) rfl (w.heap.size + 1) (wd (mixed st VL 8)) rfl rfl 38 _ H1.out (by rw [HS8.out]; exact size8) (by rw [HS8.out]; rfl) (wd_one _) ?_)
          have hR := H1.out.setRow (wd (mixed st VL 8))
          rw [HZ.out] at *
          refine bodyPost_ret (results_row_tmp (fn := Tryz.f108) (p := 4) (u := 5) (b := w.heap.size + 1) (t := 38) (C := wd (comp kk st (blockWords bs))) rfl _ rfl hR Tryz.underlying38 rfl (by rw [wd_size, comp_length]; exact size8)) rfl ⟨rfl, ?_⟩
          exact below_setRow HB.out (by omega) _
end Go.Proofs.YtlifpplhinmajaaGreatDoor
