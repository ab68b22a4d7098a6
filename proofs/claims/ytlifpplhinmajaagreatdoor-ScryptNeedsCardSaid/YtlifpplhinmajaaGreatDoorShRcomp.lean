/- The document's Compress by its contract, of the constants that are known. Condition: the text has 64 bytes. -/
import Derived.Test.YtlifpplhinmajaaGreatDoorSr
namespace Go.Proofs.YtlifpplhinmajaaGreatDoor
set_option maxRecDepth 50000
open Go.RowKit Rot Sha

theorem size72 : (Tryz.prog.info? 40).map (·.size) = some 72 := by kernel_rfl
/-- a row of eight, moved on by one from the end down to place k -/
def sh (L : List Nat) (k : Nat) : List Nat := (List.range 8).map fun i => if i ≤ k then L.getD i 0 else L.getD (i - 1) 0
theorem sh_length (L : List Nat) (k : Nat) : (sh L k).length = 8 := by simp [sh]
theorem sh_all (a b c d e f g h : Nat) : sh [a, b, c, d, e, f, g, h] 7 = [a, b, c, d, e, f, g, h] := rfl
theorem sh_none (a b c d e f g h : Nat) : sh [a, b, c, d, e, f, g, h] 0 = [a, a, b, c, d, e, f, g] := rfl
theorem sh_step (L : List Nat) (k : Nat) (h0 : 0 < k) (h7 : k ≤ 7) : (sh L k).set k (L.getD (k - 1) 0) = sh L (k - 1) := by
  refine List.ext_getElem (by simp [sh]) fun i h1 h2 => ?_
  rw [List.getElem_set]
  simp only [sh, List.getElem_map, List.getElem_range]
  by_cases e : k = i
  · subst e; rw [if_pos rfl, if_neg (by omega)]
  · rw [if_neg e]
    by_cases h : i ≤ k
    · rw [if_pos h, if_pos (by omega)]
    · rw [if_neg h, if_neg (by omega)]
theorem sh_at (L : List Nat) (k i : Nat) (h : i ≤ k) (h8 : i < 8) : (sh L k).getD i 0 = L.getD i 0 := by
  rw [List.getD_eq_getElem?_getD, List.getElem?_eq_getElem (by rw [sh_length]; exact h8)]
  simp [sh, h]
theorem add_comm' (a b : Nat) : add a b = add b a := by unfold add; rw [Nat.add_comm]
theorem mixed_gen (A B : List Nat) (hA : A.length = 8) : mixed A B 8 = [add (A.getD 0 0) (B.getD 0 0), add (A.getD 1 0) (B.getD 1 0), add (A.getD 2 0) (B.getD 2 0), add (A.getD 3 0) (B.getD 3 0), add (A.getD 4 0) (B.getD 4 0), add (A.getD 5 0) (B.getD 5 0), add (A.getD 6 0) (B.getD 6 0), add (A.getD 7 0) (B.getD 7 0)] := by
  match A, hA with
  | [_, _, _, _, _, _, _, _], _ => rfl
theorem comp_of2 (K st own : List Nat) (hs : st.length = 8) (a b c d e f g h : Nat) (hr : rounds K (sched own) (St.of st) 64 = ⟨a, b, c, d, e, f, g, h⟩) : mixed [a, b, c, d, e, f, g, h] st 8 = comp K st own := by
  rw [← comp_of K st own hs a b c d e f g h hr, mixed_all st hs, mixed_gen _ st rfl]
  simp only [List.getD_cons_zero, List.getD_cons_succ]
  rw [add_comm' a, add_comm' b, add_comm' c, add_comm' d, add_comm' e, add_comm' f, add_comm' g, add_comm' h]
theorem row_new2 (w : World) (o : Obj) (C : Array Value) (t : TypeId) : RowAt ((w.alloc o).alloc (.cells C t)) (w.heap.size + 1) t C := by
  have h := RowAt.new (w.alloc o) t C
  rw [World.size_alloc] at h
  exact h

set_option maxRecDepth 20000 in
set_option maxHeartbeats 8000000 in
theorem rcomp_any (st : List Nat) (hs : st.length = 8) (hst : ∀ x ∈ st, x < 4294967296) (s : ByteArray) (hss : s.size = 64) (w : World) :
    Calls Tryz.prog 131 #[.agg (wd (kk ++ hh)), .agg (wd st), .string s] w fun e w' => e = .returned (.agg (wd (comp kk st (blockWords (nats (tl s)))))) ∧ Below w.heap.size w w' := by
  have HS := Lib.hid hs
  have HST := Lib.hid hst
  have hfl : (wd (kk ++ hh)).size = 72 := by rw [wd_size]; rfl
  have HFL := Lib.hid hfl
  have HFK : Hid (∀ i, i < 64 → (wd (kk ++ hh))[i]? = some (.int .u32 (kk.getD i 0 : Nat))) := Lib.hid fun i hi => by
    rw [wd_at _ i (by rw [wd_size] at hfl; omega)]
    congr 3
    rw [List.getD_eq_getElem?_getD, List.getElem?_append_left (by show i < 64; exact hi), ← List.getD_eq_getElem?_getD]
  obtain ⟨FX, hFX⟩ : ∃ FX, FX = wd (kk ++ hh) := ⟨_, rfl⟩
  rw [← hFX] at HFK HFL ⊢
  have CSP := Lib.hid (spread_any s hss)
  obtain ⟨ws, hws⟩ : ∃ ws, ws = sched (blockWords (nats (tl s))) := ⟨_, rfl⟩
  rw [← hws] at CSP
  have HW := Lib.hid hws.symm
  have hwl : (wd ws).size = 64 := by rw [wd_size, hws]; exact fill_length _ (blockWords_length _) 48
  have HWL := Lib.hid hwl
  clear hs hst hfl hFX hws hwl
  go_enter Tryz.func131, Tryz.ntmps131
  go_wp2_with fail
  refine (CSP.out _).mono ?_
  rintro e w1 ⟨rfl, hb1⟩
  have R0 : RowAt w1 w.heap.size 40 FX := (((RowAt.new w 40 FX).alloc _).alloc _).below hb1 (by simp; omega)
  have R1 : RowAt w1 (w.heap.size + 1) 38 (wd st) := by
    have h := RowAt.new (w.alloc (.cells FX 40)) 38 (wd st)
    rw [World.size_alloc] at h
    exact (h.alloc _).below hb1 (by simp)
  have R2 : RowAt w1 (w.heap.size + 1 + 1) 38 (wd [0, 0, 0, 0, 0, 0, 0, 0]) := by
    have h := RowAt.new ((w.alloc (.cells FX 40)).alloc (.cells (wd st) 38)) 38 (wd [0, 0, 0, 0, 0, 0, 0, 0])
    rw [World.size_alloc, World.size_alloc] at h
    exact h.below hb1 (by simp)
  have hB : Below w.heap.size w w1 := ((((Below.refl _ w).alloc (Nat.le_refl _) _).alloc (by simp) _).alloc (by simp [World.size_alloc]; omega) _).trans (hb1.mono (by simp; omega))
  have hsz : w.heap.size + 3 ≤ w1.heap.size := by have := hb1.size; simpa using this
  have H0 := Lib.hid R0
  have H1 := Lib.hid R1
  have H2 := Lib.hid R2
  have HB := Lib.hid hB
  clear R0 R1 R2 hb1 hB
  go_wp2_with (first
    | (refine wpList_store_row rfl 37 (.tmp 7) (.tmp 19) rfl w1.heap.size (wd ws) rfl rfl 37 _ (RowAt.new _ _ _) (by rw [HWL.out]; exact size64) (by rw [HWL.out]; rfl) (wd_one _) ?_; rw [World.setRow_alloc_new])
    | refine wpList_load_row rfl 38 (.tmp 4) rfl (w.heap.size + 1) rfl 38 (wd st) (0, 0) _ (H1.out.alloc _) Tryz.underlying38 rfl (by rw [wd_size, HS.out]; exact size8) ?_
    | refine wpList_store_row rfl 38 (.tmp 8) (.tmp 20) rfl (w1.heap.size + 1) (wd st) rfl rfl 38 _ (row_new2 _ _ _ _) (by rw [wd_size, HS.out]; exact size8) (by rw [wd_size, HS.out]; rfl) (wd_one _) ?_)
  generalize hw3 : World.setRow _ _ _ = w3
  have Q3 : RowAt w3 w1.heap.size 37 (wd ws) := by subst hw3; exact ((RowAt.new _ _ _).alloc _).setRowOther _ (by omega) _
  have Q4 : RowAt w3 (w1.heap.size + 1) 38 (wd st) := by subst hw3; exact (row_new2 _ _ _ _).setRow _
  have hb3 : Below w1.heap.size w1 w3 := by subst hw3; exact below_setRow (((Below.refl _ _).alloc (Nat.le_refl _) _).alloc (by simp) _) (by omega) _
  have Q0 := H0.out.below hb3 (by omega)
  have Q1 := H1.out.below hb3 (by omega)
  have Q2 := H2.out.below hb3 (by omega)
  have hB3 : Below w.heap.size w w3 := HB.out.trans (hb3.mono (by omega))
  have hsz3 : w1.heap.size + 2 ≤ w3.heap.size := by subst hw3; simp
  obtain ⟨b3, hb3'⟩ : ∃ b3, b3 = w1.heap.size := ⟨_, rfl⟩
  obtain ⟨b4, hb4⟩ : ∃ b4, b4 = w1.heap.size + 1 := ⟨_, rfl⟩
  rw [← hb4] at Q4 ⊢
  rw [← hb3'] at Q3 ⊢
  have HR0 := Lib.hid Q0
  have HR1 := Lib.hid Q1
  have HR2 := Lib.hid Q2
  have HR3 := Lib.hid Q3
  have HR4 := Lib.hid Q4
  have HB3 := Lib.hid hB3
  have g0 : w.heap.size < b4 := by omega
  have g1 : w.heap.size + 1 < b4 := by omega
  have g2 : w.heap.size + 1 + 1 < b4 := by omega
  have g3 : b3 < b4 := by omega
  have g4 : b4 < w3.heap.size := by omega
  clear hw3 hb3 Q0 Q1 Q2 Q3 Q4 hB3 H0 H1 H2 HB hsz3 hsz hb3' hb4
  have HSt : Hid (St.of st = ⟨st.getD 0 0, st.getD 1 0, st.getD 2 0, st.getD 3 0, st.getD 4 0, st.getD 5 0, st.getD 6 0, st.getD 7 0⟩) := Lib.hid rfl
  have Hok := Lib.hid (of_ok st HST.out)
  have HSL : Hid (st = [st.getD 0 0, st.getD 1 0, st.getD 2 0, st.getD 3 0, st.getD 4 0, st.getD 5 0, st.getD 6 0, st.getD 7 0]) := Lib.hid (by
    have h := HS.out
    match st, h with
    | [_, _, _, _, _, _, _, _], _ => rfl)
  go_loopg [9] 64 (fun g v9 wr => ∃ i ra rb rc rd re rf rg rh : Nat, i + g = 64 ∧ v9 = .int .i64 (i : Int) ∧ Hid (rounds kk ws (St.of st) i = ⟨ra, rb, rc, rd, re, rf, rg, rh⟩) ∧ RowAt wr b4 38 (wd [ra, rb, rc, rd, re, rf, rg, rh]) ∧ Below b4 w3 wr)
  case atStart => exact ⟨0, _, _, _, _, _, _, _, _, rfl, rfl, Lib.hid HSt.out, by rw [← HSL.out]; exact HR4.out, Below.refl _ _⟩
  case round =>
    obtain ⟨i, ra, rb, rc, rd, re, rf, rg, rh, hi, rfl, HRR, R4, hbr⟩ := hrel
    have hok := rounds_ok kk ws Hok.out i
    rw [HRR.out] at hok
    obtain ⟨o1, o2, o3, o4, o5, o6, o7, o8⟩ := hok
    simp only at o1 o2 o3 o4 o5 o6 o7 o8
    have H4 := Lib.hid R4
    have HBR := Lib.hid hbr
    have hszr : w3.heap.size ≤ wr.heap.size := hbr.size
    by_cases h : i < 64
    · have HN : Hid (rounds kk ws (St.of st) (i + 1) = Sha.step ⟨ra, rb, rc, rd, re, rf, rg, rh⟩ (kk.getD i 0) (ws.getD i 0)) := Lib.hid (by rw [← HRR.out]; rfl)
      obtain ⟨go2, rfl⟩ : ∃ go2, gk = go2 + 1 := ⟨gk - 1, by omega⟩
      have HJ := Lib.hid (And.intro hi h)
      have kc := ((HR0.out.below hbr g0).cell i).trans (HFK.out i h)
      have wc := ((HR3.out.below hbr g3).cell i).trans (wd_at ws i (by have := HWL.out; rw [wd_size] at this; omega))
      generalize kk.getD i 0 = kv at *
      generalize ws.getD i 0 = wv at *
      have a0 := R4.cell 0
      have a1 := R4.cell 1
      have a2 := R4.cell 2
      have a4 := R4.cell 4
      have a5 := R4.cell 5
      have a6 := R4.cell 6
      have a7 := R4.cell 7
      rw [wd_at _ _ (by simp)] at a0 a1 a2 a4 a5 a6 a7
      simp only [List.getD_cons_zero, List.getD_cons_succ] at a0 a1 a2 a4 a5 a6 a7
      have r6 := fun w => refr_n 6 26 26 rfl rfl re o5 w
      have r11 := fun w => refr_n 11 21 21 rfl rfl re o5 w
      have r25 := fun w => refr_n 25 7 7 rfl rfl re o5 w
      have r2 := fun w => refr_n 2 30 30 rfl rfl ra o1 w
      have r13 := fun w => refr_n 13 19 19 rfl rfl ra o1 w
      have r22 := fun w => refr_n 22 10 10 rfl rfl ra o1 w
      have HQ := And.intro (Lib.hid r6) (And.intro (Lib.hid r11) (And.intro (Lib.hid r25) (And.intro (Lib.hid r2) (And.intro (Lib.hid r13) (Lib.hid r22)))))
      obtain ⟨ne, hne⟩ : ∃ ne, ne = 4294967295 - re := ⟨_, rfl⟩
      have hne1 : (4294967295 : Int) - (re : Int) = (ne : Int) := by omega
      have hneb : ne < 4294967296 := by omega
      have HNE := Lib.hid hne
      have hdt : decide ((i : Int) < 64) = true := by simp; omega
      have hi0 : (0 : Int) ≤ (i : Int) := by omega
      have hi6 : (i : Int) < 64 := by omega
      have vi : IntKind.i64.wrap (i : Int) = (i : Int) := IntWalk.i64_in _ (by omega)
      have k7 : ∀ tp d os out, (World.mk wr.heap tp d os out).cell? ⟨b4, 7, none⟩ = some (.int .u32 (rh : Int)) := fun _ _ _ _ => a7
      have kk1 : ∀ tp d os out, (World.mk wr.heap tp d os out).cell? ⟨w.heap.size, i, none⟩ = some (.int .u32 (kv : Int)) := fun _ _ _ _ => kc
      have kk2 : ∀ tp d os out, (World.mk wr.heap tp d os out).cell? ⟨b3, i, none⟩ = some (.int .u32 (wv : Int)) := fun _ _ _ _ => wc
      clear r6 r11 r25 r2 r13 r22 kc wc a7 R4 hbr hi h hne
      go_wp2
      refine wp_region_still_tail 22 (by kernel_rfl) (by kernel_rfl) ?_
      simp only [List.take_succ_cons, List.take_zero, List.drop_succ_cons, List.drop_zero]
      repeat still_step
      still_call ((HQ.1.out _).mono fun _ _ h => And.intro h.1 h.2.symm)
      repeat still_step
      still_call ((HQ.2.1.out _).mono fun _ _ h => And.intro h.1 h.2.symm)
      repeat still_step
      still_call ((HQ.2.2.1.out _).mono fun _ _ h => And.intro h.1 h.2.symm)
      repeat still_step
      refine wpStill_nil ?_
      change wpList _ _ _ _ _ wr.drew
      have hx1 : IntKind.u32.wrap (IntKind.u32.wrap (IntKind.u32.wrap (IntKind.u32.wrap ((rh : Int) + bits .xor .u32 (bits .xor .u32 (rotl 32 re 26 : Nat) (rotl 32 re 21 : Nat)) (rotl 32 re 7 : Nat)) + bits .xor .u32 (bits .and .u32 (re : Int) (rf : Int)) (bits .and .u32 (ne : Int) (rg : Int))) + (kv : Int)) + (wv : Int))
          = ((t1 ⟨ra, rb, rc, rd, re, rf, rg, rh⟩ kv wv : Nat) : Int) := by
        rw [HNE.out, b1_val re o5, ch_val re rf rg o5 o6 o7, wadd, wadd, wadd, wadd]; rfl
      rw [hx1]
      have HM : Hid (Sha.step ⟨ra, rb, rc, rd, re, rf, rg, rh⟩ kv wv = ⟨add (t1 ⟨ra, rb, rc, rd, re, rf, rg, rh⟩ kv wv) (t2 ⟨ra, rb, rc, rd, re, rf, rg, rh⟩), ra, rb, rc, add rd (t1 ⟨ra, rb, rc, rd, re, rf, rg, rh⟩ kv wv), re, rf, rg⟩) := Lib.hid rfl
      have hy := t2_val ra rb rc rd re rf rg rh o1 o2 o3
      clear hx1
      generalize t1 ⟨ra, rb, rc, rd, re, rf, rg, rh⟩ kv wv = X at *
      generalize t2 ⟨ra, rb, rc, rd, re, rf, rg, rh⟩ = Y at *
      have hw1 := wadd rd X
      have hw2 := wadd X Y
      have HWW := And.intro (Lib.hid hw1) (Lib.hid hw2)
      clear kk1 kk2 k7 a4 a5 a6 hw1 hw2
      go_wp2_with (first
        | (refine (HQ.2.2.2.1.out _).mono ?_; rintro e w' ⟨rfl, rfl⟩)
        | (refine (HQ.2.2.2.2.1.out _).mono ?_; rintro e w' ⟨rfl, rfl⟩)
        | (refine (HQ.2.2.2.2.2.out _).mono ?_; rintro e w' ⟨rfl, rfl⟩))
      have HL7 : Hid (sh [ra, rb, rc, rd, re, rf, rg, rh] 7 = [ra, rb, rc, rd, re, rf, rg, rh]) := Lib.hid rfl
      have HL0 : Hid (sh [ra, rb, rc, rd, re, rf, rg, rh] 0 = [ra, ra, rb, rc, rd, re, rf, rg]) := Lib.hid rfl
      clear hy a0 a1 a2
      generalize hLL : [ra, rb, rc, rd, re, rf, rg, rh] = L at *
      clear hLL
      go_loopg [16] 7 (fun g v16 wq => ∃ k : Nat, k = g ∧ k ≤ 7 ∧ v16 = .int .i64 (k : Int) ∧ RowAt wq b4 38 (wd (sh L k)) ∧ Below b4 w3 wq)
      case atStart => exact ⟨7, rfl, by omega, rfl, by rw [HL7.out]; exact H4.out.drew, HBR.out.drew⟩
      case round =>
        obtain ⟨k, hk, hk7, rfl, Rq, hbq⟩ := hrel
        have HRq := Lib.hid Rq
        have HBq := Lib.hid hbq
        by_cases hk0 : 0 < k
        · obtain ⟨p, hp⟩ : ∃ p, p = k - 1 := ⟨_, rfl⟩
          have hp1 : (k : Int) - 1 = (p : Int) := by omega
          have hpb : p < 8 := by omega
          have hst := sh_step L k hk0 hk7
          rw [← hp] at hst
          have cp := (Rq.cell p).trans (wd_at _ p (by rw [sh_length]; exact hpb))
          rw [sh_at L k p (by omega) hpb] at cp
          have ck := (Rq.cell k).trans (wd_at _ k (by rw [sh_length]; omega))
          have fk := Rq.frozen k
          have HST2 := Lib.hid hst
          have hkt : decide ((0 : Int) < (k : Int)) = true := by simp; omega
          have HKK := Lib.hid (And.intro hk (And.intro hp hk0))
          clear Rq hbq hst hk hp
          generalize (sh L k).getD k 0 = old at *
          generalize L.getD p 0 = nw at *
          go_wp2
          obtain ⟨hk, hp, hk0⟩ := HKK.out
          obtain ⟨g5, rfl⟩ : ∃ g5, gk = g5 + 1 := ⟨gk - 1, by omega⟩
          go_roundg g5
          case measure => omega
          case rel =>
            refine ⟨p, by omega, by omega, rfl, ?_, HBq.out.setCell (Nat.le_refl _) _⟩
            have h := HRq.out.setCell k (.int .u32 (nw : Int))
            rw [wd_set, HST2.out] at h
            exact h
        · obtain rfl : k = 0 := by omega
          clear hk hk7 hk0
          rw [HL0.out] at Rq
          have c4 := Rq.cell 4
          have c0 := Rq.cell 0
          rw [wd_at _ _ (by simp)] at c4 c0
          simp only [List.getD_cons_zero, List.getD_cons_succ] at c4 c0
          have f4 := Rq.frozen 4
          have c0s : ∀ v, (wr.setCell ⟨b4, 4, none⟩ v).cell? ⟨b4, 0, none⟩ = some (.int .u32 (ra : Int)) := fun v => by
            rw [(Rq.setCell 4 v).cell 0, Array.getElem?_setIfInBounds_ne (by decide), ← Rq.cell 0]; exact c0
          have f0s : ∀ v, (wr.setCell ⟨b4, 4, none⟩ v).frozen? ⟨b4, 0, none⟩ = false := fun v => (Rq.setCell 4 v).frozen 0
          have HRQ := Lib.hid Rq
          have hkt : decide ((0 : Int) < ((0 : Nat) : Int)) = false := by simp
          have hw1 := HWW.1.out
          have hw2 := HWW.2.out
          clear Rq hbq
          go_wp2
          go_roundg go2
          case measure => omega
          case rel =>
            obtain ⟨j1, j2⟩ := HJ.out
            refine ⟨i + 1, add X Y, ra, rb, rc, add rd X, re, rf, rg, by omega, by go_num, Lib.hid (HN.out.trans HM.out), ?_, (HBq.out.setCell (Nat.le_refl _) _).setCell (Nat.le_refl _) _⟩
            have hh := (HRQ.out.setCell 4 (.int .u32 (add rd X : Nat))).setCell 0 (.int .u32 (add X Y : Nat))
            rw [wd_set, wd_set] at hh
            exact hh
    · obtain rfl : i = 64 := by omega
      have hdt : decide (((64 : Nat) : Int) < 64) = false := by simp
      have HZ := Lib.hid (comp_of2 kk st (blockWords (nats (tl s))) HS.out ra rb rc rd re rf rg rh (by rw [HW.out]; exact HRR.out))
      clear o1 o2 o3 o4 o5 o6 o7 o8 R4 hbr h hi
      have hvl : [ra, rb, rc, rd, re, rf, rg, rh].length = 8 := rfl
      generalize hVV : [ra, rb, rc, rd, re, rf, rg, rh] = VL at *
      have HVL := Lib.hid hvl
      clear hvl hVV
      go_wp2
      go_loopg [17] 8 (fun g v17 wq => ∃ k : Nat, k + g = 8 ∧ v17 = .int .i64 (k : Int) ∧ RowAt wq b4 38 (wd (mixed VL st k)) ∧ Below b4 w3 wq)
      case atStart => exact ⟨0, rfl, rfl, H4.out, HBR.out⟩
      case round =>
        obtain ⟨k, hk, rfl, Rq, hbq⟩ := hrel
        have HRq := Lib.hid Rq
        have HBq := Lib.hid hbq
        have hml := mixed_length VL st k
        rw [HVL.out] at hml
        by_cases h : k < 8
        · obtain ⟨g5, rfl⟩ : ∃ g5, gk = g5 + 1 := ⟨gk - 1, by omega⟩
          have ck := (Rq.cell k).trans (wd_at _ k (by omega))
          rw [mixed_at VL st k k (Nat.le_refl _)] at ck
          have sk := ((HR1.out.below hbq g1).cell k).trans (wd_at st k (by rw [HS.out]; exact h))
          have fk := Rq.frozen k
          have HF : Hid (mixed VL st (k + 1) = (mixed VL st k).set k (add (VL.getD k 0) (st.getD k 0))) := Lib.hid rfl
          have HK := Lib.hid (And.intro hk h)
          generalize VL.getD k 0 = a at *
          generalize st.getD k 0 = b at *
          have hkt : decide ((k : Int) < 8) = true := by simp; omega
          have hv := wadd a b
          have n1 : (0 : Int) ≤ (k : Int) := by omega
          have n2 : (k : Int) < 8 := by omega
          have vk : IntKind.i64.wrap (k : Int) = (k : Int) := IntWalk.i64_in _ (by omega)
          have k1 : ∀ tp d os out, (World.mk wr.heap tp d os out).cell? ⟨b4, k, none⟩ = some (.int .u32 (a : Int)) := fun _ _ _ _ => ck
          have k2 : ∀ tp d os out, (World.mk wr.heap tp d os out).cell? ⟨w.heap.size + 1, k, none⟩ = some (.int .u32 (b : Int)) := fun _ _ _ _ => sk
          have k3 : ∀ tp d os out, (World.mk wr.heap tp d os out).frozen? ⟨b4, k, none⟩ = false := fun _ _ _ _ => fk
          clear Rq hbq hml hk h
          go_wp2
          refine wp_region_still_tail 9 (by kernel_rfl) (by kernel_rfl) ?_
          simp only [List.take_succ_cons, List.take_zero, List.drop_succ_cons, List.drop_zero]
          repeat still_step
          refine wpStill_nil ?_
          change wpList _ _ _ _ _ wr.drew
          go_wp2
          go_roundg g5
          case measure => omega
          case rel =>
            obtain ⟨j1, j2⟩ := HK.out
            refine ⟨k + 1, by omega, by go_num, ?_, HBq.out.drew.setCell (Nat.le_refl _) _⟩
            rw [HF.out, ← wd_set]
            exact HRq.out.drew.setCell k _
        · obtain rfl : k = 8 := by omega
          have hkt : decide (((8 : Nat) : Int) < 8) = false := by simp
          have hsz8 : (wd (mixed VL st 8)).size = 8 := by rw [wd_size]; exact hml
          have HS8 := Lib.hid hsz8
          have HR2q := Lib.hid (HR2.out.below hbq g2)
          clear Rq hbq hml hsz8
          go_wp2_with (first
            | refine wpList_load_row rfl 38 (.tmp 8) rfl b4 rfl 38 (wd (mixed VL st 8)) (0, 0) _ HRq.out Tryz.underlying38 rfl (by rw [HS8.out]; exact size8) ?_
            | refine wpList_store_row rfl 38 (.tmp 6) (.tmp 118) rfl (w.heap.size + 1 + 1) (wd (mixed VL st 8)) rfl rfl 38 _ HR2q.out (by rw [HS8.out]; exact size8) (by rw [HS8.out]; rfl) (wd_one _) ?_)
          have hR := HR2q.out.setRow (wd (mixed VL st 8))
          rw [HZ.out] at *
          refine bodyPost_ret (v := .agg (wd (comp kk st (blockWords (nats (tl s)))))) (results_cell_row rfl _ _ (w.heap.size + 1 + 1) 38 (wd (comp kk st (blockWords (nats (tl s))))) (0, 0) _ rfl hR Tryz.underlying38 rfl (by rw [wd_size, comp_length]; exact size8)) rfl ⟨rfl, ?_⟩
          exact below_setRow (HB3.out.trans (HBq.out.mono (by omega))) (by omega) _
end Go.Proofs.YtlifpplhinmajaaGreatDoor
