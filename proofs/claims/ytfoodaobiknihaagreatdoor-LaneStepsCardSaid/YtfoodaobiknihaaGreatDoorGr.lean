/- A statement that turns older memory; the document's first blocks. Conditions: those typed. -/
import Derived.Test.YtfoodaobiknihaaGreatDoorGen
import Derived.Test.YtfoodaobiknihaaGreatDoorGf
import Derived.Deep.LoopGhost
import Derived.Deep.CutBlock
import Derived.Deep.CutRange
import Derived.WalkMore
import Derived.Deep.RegionWith
namespace Go.Proofs.YtfoodaobiknihaaGreatDoor
set_option maxRecDepth 50000
open Go.RowKit
section
variable {P : Program} {ops : List Oper} {Q : Exit → Act → World → Prop} {a0 : Act} {w0 : World} {D E : Nat → Value → World → Prop} {n B : Nat}
end
open Go.RowKit
open Go.RowKit Bb Bl
def frS (z : List Nat) (k : Nat) : List Nat := tb fun j => if j < k then z.getD j 0 else 0
theorem frS_len (z : List Nat) (k : Nat) : (frS z k).length = 128 := tb_length _
theorem frS_zero (z : List Nat) : frS z 0 = zb := by rw [zb_tb]; exact tb_congr _ _ fun j _ => by simp
theorem frS_all {z : List Nat} (hz : z.length = 128) : frS z 128 = z := by
  unfold frS
  rw [tb_congr _ (fun k => z.getD k 0) fun j hj => if_pos hj]
  exact tb_self z hz
theorem frS_next (z : List Nat) (k : Nat) : (frS z k).set k (z.getD k 0) = frS z (k + 1) := by
  have h := tb_set (fun j => if j < k then z.getD j 0 else 0) (fun j => if j < k + 1 then z.getD j 0 else 0) k fun j _ hj => by
    by_cases h : j < k
    · rw [if_pos h, if_pos (by omega)]
    · rw [if_neg h, if_neg (by omega)]
  rw [if_pos (Nat.lt_succ_self k)] at h
  exact h
set_option maxHeartbeats 3200000 in
theorem rfrom_any (s : ByteArray) (h : s.size = 1024) (w : World) : Calls Tryz.prog 34 #[.string s] w fun e w' => e = .returned (.agg (wq (frB (nb s)))) ∧ Below w.heap.size w w' := by
  obtain ⟨N, hN⟩ : ∃ N, N = w.heap.size := ⟨_, rfl⟩
  obtain ⟨w1, e1⟩ : ∃ w1, w1 = (w.alloc (.cells (wq zb) 83)).alloc (.cells (wq zb) 83) := ⟨_, rfl⟩
  have b1 : Below w.heap.size w w1 := by rw [e1]; exact two_box _ _ _
  have r1 : RowAt w1 N 83 (wq zb) := by rw [e1, hN]; exact (RowAt.new w _ _).alloc _
  have r2 : RowAt w1 (N + 1) 83 (wq zb) := by
    rw [e1, hN]
    have := RowAt.new (w.alloc (.cells (wq zb) 83)) 83 (wq zb)
    rwa [World.size_alloc] at this
  have hs1 : w1.heap.size = N + 2 := by rw [e1, World.size_alloc, World.size_alloc, hN]
  obtain ⟨W1, c1, hcv, hbw, hbuf, hsw⟩ := bytes_of_text w1 s
  have C := words8_any (some ⟨w1.heap.size, 0, none⟩) c1 (nb s) 128 (by rw [nb_length, h]) W1 (hbuf.reads (by omega)) (by rw [nb_length, h]; decide) (nb_lt s)
  rw [nb_length, h, ← link8 128 (nb s) (nb_lt s)] at C
  rw [h] at hcv
  obtain ⟨z, hz2⟩ : ∃ z, z = frB (nb s) := ⟨_, rfl⟩
  rw [show wordsAt ups 8 128 (nb s) (8 * 128) = z from hz2.symm] at C
  rw [hs1] at C
  have hsW := hbw.size
  have HC := Lib.hid C
  have HO : Hid (okb z) := Lib.hid (by rw [hz2]; exact frB_ok (nb s) (nb_lt s))
  have hz := zero_b
  have HR1 := Lib.hid (RowAt.step r1 hbw)
  have HR2 := Lib.hid (RowAt.step r2 hbw)
  have HB1 := Lib.hid (below_step b1 hbw)
  have HZ := Lib.hid hz2
  have HN := Lib.hid hN
  have E1 := Lib.hid e1
  rw [← hz2]
  clear C hbuf hsw r1 r2 b1 e1 hN hz2 hbw
  go_enter Tryz.func34, Tryz.ntmps34
  go_upto_region 2 with fail
  rw [← E1.out, ← HN.out]
  clear E1
  go_wp2_with fail
  refine HC.out.mono ?_
  rintro e w3 ⟨v, rfl, hown, hb3⟩
  obtain ⟨A', c', rfl, hnl, hA, _⟩ := own_form hown
  obtain ⟨g, rfl, hg⟩ := hA (by decide)
  have hrd := Reads.of_own hown
  have HRD : Hid (∀ k, k < 128 → w3.cell? ⟨g, k, none⟩ = some (.int .u64 ((z.getD k 0 : Nat) : Int))) := Lib.hid fun k hk => by
    obtain ⟨b', off', e', _, hc'⟩ := hrd k (by rw [u64s_length, HO.out.1]; exact hk)
    cases e'
    rw [Nat.zero_add] at hc'
    rw [hc', u64_at, List.getD_eq_getElem?_getD, List.getElem?_eq_getElem (by rw [HO.out.1]; exact hk)]
    rfl
  have HR3 := Lib.hid (RowAt.step HR1.out hb3)
  have HR4 := Lib.hid (RowAt.step HR2.out hb3)
  have HB3 := Lib.hid (below_step HB1.out hb3)
  have hgN : N + 2 ≤ g := by have := hb3.size; omega
  clear hown hrd hb3 HR1 HR2 HB1 HC hnl hA hcv
  go_wp2
  go_loopw [6] (fun v6 wr => ∃ k : Nat, k ≤ 128 ∧ v6 = .int .i64 (k : Int) ∧ Hid (RowAt wr N 83 (wq zb)) ∧ Hid (RowAt wr (N + 1) 83 (wq (frS z k))) ∧ Hid (Below N w wr) ∧ Hid (∀ k, k < 128 → wr.cell? ⟨g, k, none⟩ = some (.int .u64 ((z.getD k 0 : Nat) : Int)))) (fun v6 _ => 128 - (intOf v6).toNat)
  case atStart => exact ⟨0, Nat.zero_le _, rfl, HR3, Lib.hid (by rw [frS_zero]; exact HR4.out), Lib.hid (by rw [HN.out]; exact HB3.out), HRD⟩
  case round =>
    obtain ⟨k, hk, rfl, HA, HB, HW, HD⟩ := hrel
    by_cases hk8 : k < 128
    · have hd1 : decide ((k : Int) < 128) = true := by simp; omega
      have hd2 : decide (k < 128) = true := by simp; omega
      have hk0 : (0 : Int) ≤ (k : Int) := by omega
      have hk1 : (k : Int) < 128 := by omega
      have kc := HD.out k hk8
      have kf := RowAt.frozen HB.out k
      have kb : wr.cell? ⟨N + 1, k, none⟩ = some (.int .u64 (((frS z k).getD k 0 : Nat) : Int)) := (RowAt.cell HB.out k).trans (wq_at _ k (by rw [frS_len]; exact hk8))
      have HS := Lib.hid (RowAt.setCell HB.out k (.int .u64 ((z.getD k 0 : Nat) : Int)))
      have HNX := Lib.hid (frS_next z k)
      have HX := Lib.hid (ok_at HO.out k)
      generalize hx : z.getD k 0 = x at *
      go_wp2
      go_roundw
      case rel => exact ⟨k + 1, by omega, by go_num, Lib.hid (RowAt.setOther HA.out _ (by simp) _), Lib.hid (by have h := HS.out; rw [wq_set, HNX.out] at h; exact h), Lib.hid (HW.out.setCell (by simp) _), Lib.hid fun j hj => by rw [World.cell?_setCell_other _ _ _ _ (by intro h; simp only [Addr.mk.injEq] at h; omega)]; exact HD.out j hj⟩
      case measure => simp [intOf]; omega
    · obtain rfl : k = 128 := by omega
      have kA := RowAt.load HB.out Tryz.underlying83 (by rw [wq_size, frS_len]; exact b_size)
      rw [frS_all HO.out.1] at kA
      have HST := Lib.hid (HA.out.store (C' := wq z) (by rw [wq_size, HO.out.1]; exact b_size) (by rw [wq_size, wq_size, HO.out.1]; exact zb_ok.1) (wq_one _))
      go_wp2_with (first
        | refine wpList_load_want rfl 83 _ rfl _ _ rfl kA ?_
        | refine wpList_store_of rfl _ _ _ rfl ⟨N, 0, none⟩ _ rfl rfl HST.out ?_)
      have hR := RowAt.setRow HA.out (wq z)
      refine bodyPost_ret (v := .agg (wq z)) (results_cell_row rfl _ _ N 83 _ (0, 0) _ rfl hR Tryz.underlying83 rfl (by rw [wq_size, HO.out.1]; exact b_size)) rfl ⟨by rw [HZ.out], ?_⟩
      rw [← HN.out]
      exact below_setRow HW.out (Nat.le_refl _) _
open Go.RowKit Bb Bl
theorem conv_u32 (k : Nat) (h : k < 4294967296) (w : World) : (convert 3 88 (.int .i64 (k : Int))).run Tryz.prog w = .ok (.int .u32 (k : Int)) w := by
  have e : IntKind.u32.wrap (k : Int) = (k : Int) := by rw [IntKind.wrap_u32]; omega
  simp [go_sem, e]
theorem of32_owns (k : Nat) (w : World) (h : k < 2 ^ 32) : Calls Tryz.prog 33 #[.int .u32 (k : Int)] w fun e w' => ∃ v, e = .returned v ∧ Owns (lead k) v w' ∧ Below w.heap.size w w' := by
  refine (of32_any k w h).mono ?_
  rintro e w' ⟨v, rfl, ho, hb⟩
  rw [lead_cs] at ho
  exact ⟨v, rfl, ⟨_, _, ho⟩, hb⟩
theorem s27_agg (w : World) : (isAgg 48).run Tryz.prog w = .ok true w := by
  unfold isAgg
  rw [Sem.run_bind, run_underlying Tryz.underlying48 w]
  rfl
theorem s27_size : (Tryz.prog.info? 48).map (·.size) = some 8 := by kernel_rfl
set_option maxHeartbeats 6400000 in
theorem rbegin_any (a t l m b c g z : Nat) (hl0 : 0 < l) (hl : l ≤ 1000) (hc2 : 2 ≤ c) (hc : c ≤ 4194304) (s : ByteArray) (hs : s.size ≤ 1000) (w : World) :
    Calls Tryz.prog 13 #[.agg (wq iv), spv a t l m b c g z, .string s] w fun e w' => ∃ v gs, e = .returned v ∧ DocAt w' w.heap.size v c gs (begTo s c (List.replicate (l * c) zb) l) ∧ gs.length = l ∧ Below w.heap.size w w' := by
  obtain ⟨A0, hA0⟩ : ∃ A0, A0 = w.heap.size := ⟨_, rfl⟩
  obtain ⟨w1, e1⟩ : ∃ w1, w1 = (w.alloc (.cells (wq iv) 54)).alloc (.cells (spc a t l m b c g z) 48) := ⟨_, rfl⟩
  have b1 : Below A0 w w1 := by rw [e1, hA0]; exact two_box _ _ _
  have r1 : RowAt w1 A0 54 (wq iv) := by rw [e1, hA0]; exact (RowAt.new w _ _).alloc _
  have r2 : RowAt w1 (A0 + 1) 48 (spc a t l m b c g z) := by
    rw [e1, hA0]
    have := RowAt.new (w.alloc (.cells (wq iv) 54)) 48 (spc a t l m b c g z)
    rwa [World.size_alloc] at this
  have hs1 : w1.heap.size = A0 + 2 := by rw [e1, World.size_alloc, World.size_alloc, hA0]
  have CE := Lib.hid (rempty_any a t l m b c g z hl hc w1)
  have HB1 := Lib.hid b1
  have HR1 := Lib.hid r1
  have HR2 := Lib.hid r2
  have E1 := Lib.hid e1
  have HA0 := Lib.hid hA0
  have HSs := Lib.hid hs
  have HS1 := Lib.hid hs1
  clear b1 r1 r2 e1 hA0 hs hs1
  go_enter Tryz.func13, Tryz.ntmps13
  go_upto_region 1 with fail
  rw [← E1.out, ← HA0.out]
  clear E1
  have kS : (loadVar 48 ⟨A0 + 1, 0, none⟩).run Tryz.prog w1 = .ok (spv a t l m b c g z) w1 := sub_load HR2.out s27_agg s27_size 0 (spc a t l m b c g z).toList rfl fun j v h => by simpa using h
  go_wp2_with (refine wpList_load_want rfl 48 _ rfl _ _ rfl kS ?_)
  refine CE.out.mono ?_
  rintro e w2 ⟨v, gs, rfl, hD, rfl, hb⟩
  rw [HS1.out] at hD
  obtain ⟨o, kk, rfl⟩ := hD.head hl0
  have HD0 := Lib.hid hD
  have HR1 := Lib.hid (RowAt.step HR1.out hb)
  have HR2 := Lib.hid (RowAt.step HR2.out hb)
  have HB2 := Lib.hid (HB1.out.trans (hb.mono (by rw [HS1.out]; omega)))
  have hs2 : A0 + 2 ≤ w2.heap.size := by have := hb.size; have := HS1.out; omega
  clear hD hb CE kS HB1
  go_wp2
  go_loopw [8] (fun v8 wr => ∃ i : Nat, i ≤ gs.length ∧ v8 = .int .i64 (i : Int) ∧ Hid (DocAt wr (A0 + 2) (.slice (some ⟨o, 0, none⟩) gs.length kk) c gs (begTo s c (List.replicate (gs.length * c) zb) i)) ∧ Hid (Below (A0 + 2) w2 wr)) (fun v8 _ => gs.length - (intOf v8).toNat)
  case atStart => exact ⟨0, Nat.zero_le _, rfl, HD0, Lib.hid (Below.refl _ _)⟩
  case round =>
    obtain ⟨i, hi, rfl, HD, HB⟩ := hrel
    have kl : wr.cell? ⟨A0 + 1, 2, none⟩ = some (.int .i64 (gs.length : Int)) := ((HR2.out.below HB.out (by omega)).cell 2).trans rfl
    by_cases hil : i < gs.length
    · have hd1 : decide ((i : Int) < (gs.length : Int)) = true := by simp; omega
      have hd2 : decide (i < gs.length) = true := by simp; omega
      have hi0 : (0 : Int) ≤ (i : Int) := by omega
      have hi1 : (i : Int) < (gs.length : Int) := by omega
      have hil1 : i ≤ 1000 := by omega
      have HI := Lib.hid hil
      have HE : Hid (begTo s c (List.replicate (gs.length * c) zb) (i + 1) = begIn s c (begTo s c (List.replicate (gs.length * c) zb) i) i 2) := Lib.hid rfl
      generalize begTo s c (List.replicate (gs.length * c) zb) i = M at *
      go_wp2
      go_loopw [9] (fun v9 wr => ∃ k : Nat, k ≤ 2 ∧ v9 = .int .i64 (k : Int) ∧ Hid (DocAt wr (A0 + 2) (.slice (some ⟨o, 0, none⟩) gs.length kk) c gs (begIn s c M i k)) ∧ Hid (Below (A0 + 2) w2 wr)) (fun v9 _ => 2 - (intOf v9).toNat)
      case atStart => exact ⟨0, Nat.zero_le _, rfl, HD, HB⟩
      case round =>
        obtain ⟨k, hk, rfl, HD3, HB3⟩ := hrel
        clear kl
        by_cases hk2 : k < 2
        · have hd3 : decide ((k : Int) < 2) = true := by simp; omega
          have hd4 : decide (k < 2) = true := by simp; omega
          go_wp2
          refine wp_region_text [Is (.int .i64 (k : Int)), Is (.int .u32 (k : Int)), Owns (lead k), Is (.string (tx (lead k))), Is (.int .i64 (i : Int)), Is (.int .u32 (i : Int)), Owns (lead i), Is (.string (tx (lead i))), Is (.string (tx (lead k) ++ tx (lead i))), Is (.string (tx (lead k) ++ tx (lead i)))] (by kernel_rfl) (by kernel_rfl) rfl ⟨stable_is _, stable_is _, stable_owns _, stable_is _, stable_is _, stable_is _, stable_owns _, stable_is _, stable_is _, stable_is _, trivial⟩ ⟨?_, ?_, ?_, ?_, ?_, ?_, ?_, ?_, ?_, ?_, trivial⟩ ?_
          · intro a w C
            exact part_on (wanted_free rfl _) (op_move (.inl rfl) (C.was 9 (by kernel_rfl)))
          · intro a w C
            exact part_on (wanted_free rfl _) (op_conv rfl (C.on (j := 0) (by kernel_rfl) rfl rfl) (conv_u32 k (by omega) w) rfl)
          · intro a w C
            exact part_on (wanted_free rfl _) (op_call1 rfl (reg_enters Tryz.func33 (by kernel_rfl) (by kernel_rfl)) (C.on (j := 1) (by kernel_rfl) rfl rfl) (of32_owns k w (by omega)))
          · intro a w C
            obtain ⟨B, n, ho⟩ : Owns _ _ _ := (C.on (j := 2) (by kernel_rfl) rfl rfl)
            exact part_on (wanted_free rfl _) (op_conv rfl rfl (conv_text w ho) rfl)
          · intro a w C
            exact part_on (wanted_free rfl _) (op_move (.inl rfl) (C.was 8 (by kernel_rfl)))
          · intro a w C
            exact part_on (wanted_free rfl _) (op_conv rfl (C.on (j := 4) (by kernel_rfl) rfl rfl) (conv_u32 i (by omega) w) rfl)
          · intro a w C
            exact part_on (wanted_free rfl _) (op_call1 rfl (reg_enters Tryz.func33 (by kernel_rfl) (by kernel_rfl)) (C.on (j := 5) (by kernel_rfl) rfl rfl) (of32_owns i w (by omega)))
          · intro a w C
            obtain ⟨B, n, ho⟩ : Owns _ _ _ := (C.on (j := 6) (by kernel_rfl) rfl rfl)
            exact part_on (wanted_free rfl _) (op_conv rfl rfl (conv_text w ho) rfl)
          · intro a w C
            exact part_on (wanted_free rfl _) (op_bin rfl (C.on (j := 3) (by kernel_rfl) rfl rfl) (C.on (j := 7) (by kernel_rfl) rfl rfl) rfl (by simp [go_sem, tx_size, lead_length]) rfl)
          · intro a w C
            exact part_on (wanted_free rfl _) (op_move (.inr rfl) (C.on (j := 8) (by kernel_rfl) rfl rfl))
          rintro wF hbF _ rfl _ rfl x25 hx25 _ rfl _ rfl _ rfl x29 hx29 _ rfl _ rfl _ rfl
          simp only [Fin, setAt, Exit.then, List.setIfInBounds_toArray, List.set_cons_succ, List.set_cons_zero]
          have hbD := HD3.out.step hbF
          have hbB := HB3.out.trans (hbF.mono (by have := HB3.out.size; omega))
          have HDF := Lib.hid hbD
          have HBF := Lib.hid hbB
          clear hbF hbD hbB HD3 HB3
          obtain ⟨U, hU⟩ : ∃ U, U = tx (lead k) ++ tx (lead i) := ⟨_, rfl⟩
          have htl : tl s = s.data.toList := rfl
          have hsl : (tl s).length ≤ 1000 := by rw [htl, Array.length_toList]; exact HSs.out
          have hUt : tl (s ++ U) = tl s ++ (lead k ++ lead i) := by rw [tl_app, hU, tl_app, tl_tx, tl_tx]
          have hUs : (s ++ U).size ≤ 9000 := by
            have h1 : (s ++ U).size = (tl (s ++ U)).length := by rw [← tx_size, tx_tl]
            rw [h1, hUt, List.length_append, List.length_append, lead_length, lead_length]
            omega
          have hfl : (tl s ++ (lead k ++ lead i)).length ≤ 100000 := by rw [List.length_append, List.length_append, lead_length, lead_length]; omega
          have CLg : Hid (∀ u, Calls Tryz.prog 35 #[.agg (wq iv), .int .i64 1024, .string (s ++ U)] u fun e w' => e = .returned (.string (tx (fS s i k))) ∧ Below u.heap.size u w') := Lib.hid fun u => by
            have h := rlong_any 1024 (by decide) (by decide) (s ++ U) hUs u
            rw [hUt] at h
            exact h
          have CFr : Hid (∀ u, Calls Tryz.prog 34 #[.string (tx (fS s i k))] u fun e w' => e = .returned (.agg (wq (fB s i k))) ∧ Below u.heap.size u w') := Lib.hid fun u => rfrom_any (tx (fS s i k)) (longL_tx 1024 (by decide) _ hfl) u
          have HSU : Hid (s.size + U.size ≤ 9223372036854775807) := Lib.hid (by
            have h1 : U.size = 8 := by rw [← tx_tl U, tx_size, hU, tl_app, tl_tx, tl_tx, List.length_append, lead_length, lead_length]
            have := HSs.out
            omega)
          have HX := Lib.hid (fB_ok s i k)
          have HNX : Hid (begIn s c M i (k + 1) = (begIn s c M i k).set (i * c + k) (fB s i k)) := Lib.hid rfl
          have HKc : Hid (k < c) := Lib.hid (by omega)
          rw [← hU]
          clear hU htl hsl hUt hUs hfl
          generalize tx (fS s i k) = T at *
          generalize fB s i k = x at *
          generalize hgi : gs.getD i 0 = gi at *
          have HGI := Lib.hid hgi
          clear hgi
          obtain ⟨W, hWd⟩ : ∃ W : Nat → World → Prop, W = fun j u => if j = 0 then Below wF.heap.size wF u else (DocAt u (A0 + 2) (.slice (some ⟨o, 0, none⟩) gs.length kk) c gs (begIn s c M i (k + 1)) ∧ Below (A0 + 2) w2 u) := ⟨_, rfl⟩
          have hsF : A0 + 2 ≤ wF.heap.size := by have := HBF.out.size; omega
          have HWS : Hid (∀ k w w', W k w → Below w.heap.size w w' → W k w') := Lib.hid fun j u u' hu hb => by
            subst hWd
            by_cases hj : j = 0
            · simp only [if_pos hj] at hu ⊢; exact below_step hu hb
            · simp only [if_neg hj] at hu ⊢; exact ⟨hu.1.step hb, hu.2.trans (hb.mono (by have := hu.2.size; omega))⟩
          have HW0 : Hid (W 0 wF) := Lib.hid (by subst hWd; exact Below.refl _ _)
          have HF : Hid (∀ u, W 0 u → (loadVar 91 ⟨o, i, none⟩).run Tryz.prog u = .ok (.slice (some ⟨gi, 0, none⟩) c c) u ∧ (loadVar 54 ⟨A0, 0, none⟩).run Tryz.prog u = .ok (.agg (wq iv)) u) := Lib.hid fun u hu => by
            subst hWd
            have hr := (HDF.out.step hu).row HI.out
            rw [HGI.out] at hr
            exact ⟨by simp [hr, go_sem], RowAt.load (RowAt.step (HR1.out.below HBF.out (by omega)) hu) Tryz.underlying54 (by kernel_rfl)⟩
          have HT : Hid (∀ u, W 0 u → ∃ w3, (storeVar 83 ⟨gi, k * 128, none⟩ (.agg (wq x))).run Tryz.prog u = .ok () w3 ∧ W 1 w3) := Lib.hid fun u hu => by
            subst hWd
            obtain ⟨u2, hs, hd, hk⟩ := (HDF.out.step hu).store HI.out HKc.out HX.out
            rw [HGI.out] at hs hk
            rw [← HNX.out] at hd
            have hge : A0 + 2 ≤ gi := by rw [← HGI.out]; exact HDF.out.ge _ (getD_mem HI.out)
            exact ⟨u2, hs, hd, (HBF.out.trans (hu.mono hsF)).trans (hk.below (by have := hu.size; omega) fun x hx => by omega)⟩
          have HW1 : Hid (∀ u, W 1 u → DocAt u (A0 + 2) (.slice (some ⟨o, 0, none⟩) gs.length kk) c gs (begIn s c M i (k + 1)) ∧ Below (A0 + 2) w2 u) := Lib.hid fun u hu => by subst hWd; exact hu
          clear hWd HX HNX hsF HDF HBF
          go_wp2
          refine wp_region_seq [12] [.slice (some ⟨o, 0, none⟩) gs.length kk, .int .i64 (i : Int), .pointer (some ⟨o, i, none⟩), .slice (some ⟨gi, 0, none⟩) c c, .int .i64 (k : Int), .agg (wq iv), .string s, .string U, .string (s ++ U), .string T, .agg (wq x), .pointer (some ⟨gi, k * 128, none⟩), undef] W (by kernel_rfl) (by kernel_rfl) rfl (HWS.out 0 _ _ HW0.out (Below.refl _ _).drew) ⟨?_, ?_, ?_, ?_, ?_, ?_, ?_, ?_, ?_, ?_, ?_, ?_, ?_, trivial⟩ ?_
          · exact seq_head (by kernel_rfl) (HWS.out 0) fun a w C hW => op_move (.inl rfl) (C.was 7 (by kernel_rfl))
          · exact seq_head (by kernel_rfl) (HWS.out 0) fun a w C hW => op_move (.inl rfl) (C.was 8 (by kernel_rfl))
          · exact seq_head (by kernel_rfl) (HWS.out 0) fun a w C hW => op_value (ixg_run rfl (C.on (j := 0) (by kernel_rfl) rfl rfl) (C.on (j := 1) (by kernel_rfl) rfl rfl) HI.out) rfl
          · exact seq_head (by kernel_rfl) (HWS.out 0) fun a w C hW => op_value (load_run rfl (C.on (j := 2) (by kernel_rfl) rfl rfl) (HF.out w hW).1) rfl
          · exact seq_head (by kernel_rfl) (HWS.out 0) fun a w C hW => op_move (.inl rfl) (C.was 9 (by kernel_rfl))
          · exact seq_head (by kernel_rfl) (HWS.out 0) fun a w C hW => op_value (load_run rfl (C.was 3 (by kernel_rfl)) (HF.out w hW).2) rfl
          · exact seq_head (by kernel_rfl) (HWS.out 0) fun a w C hW => op_move (.inl rfl) (C.was 2 (by kernel_rfl))
          · exact seq_head (by kernel_rfl) (HWS.out 0) fun a w C hW => op_move (.inl rfl) (C.was 10 (by kernel_rfl))
          · exact seq_head (by kernel_rfl) (HWS.out 0) fun a w C hW => op_bin rfl (C.on (j := 6) (by kernel_rfl) rfl rfl) (C.on (j := 7) (by kernel_rfl) rfl rfl) rfl (by simp [go_sem, HSU.out]) rfl
          · exact seq_head (by kernel_rfl) (HWS.out 0) fun a w C hW => op_call3 rfl (reg_enters Tryz.func35 (by kernel_rfl) (by kernel_rfl)) (C.on (j := 5) (by kernel_rfl) rfl rfl) rfl (C.on (j := 8) (by kernel_rfl) rfl rfl) (calls_is (CLg.out w))
          · exact seq_head (by kernel_rfl) (HWS.out 0) fun a w C hW => op_call1 rfl (reg_enters Tryz.func34 (by kernel_rfl) (by kernel_rfl)) (C.on (j := 9) (by kernel_rfl) rfl rfl) (calls_is (CFr.out w))
          · exact seq_head (by kernel_rfl) (HWS.out 0) fun a w C hW => op_value (ixr_run rfl (C.on (j := 3) (by kernel_rfl) rfl rfl) (C.on (j := 4) (by kernel_rfl) rfl rfl) HKc.out) rfl
          · exact seq_turn 0 (by kernel_rfl) fun a w C hW => by
                obtain ⟨w2, hs, hn⟩ := HT.out w hW
                exact sto_does rfl (C.on (j := 11) (by kernel_rfl) rfl rfl) (C.on (j := 10) (by kernel_rfl) rfl rfl) hs hn
          intro w3 hw
          obtain ⟨D3, B3⟩ := HW1.out w3 hw
          have HD4 := Lib.hid D3
          have HB4 := Lib.hid B3
          clear hw HWS HW0 HF HT HW1 B3 D3
          simp only [setAll, setAt, List.setIfInBounds_toArray, List.set_cons_succ, List.set_cons_zero]
          go_wp2
          go_roundw
          case rel => exact ⟨k + 1, by omega, by go_num, HD4, HB4⟩
          case measure => simp [intOf]; omega
        · obtain rfl : k = 2 := by omega
          go_wp2
          go_roundw
          case rel => exact ⟨i + 1, by omega, by go_num, Lib.hid (by rw [HE.out]; exact HD3.out), HB3⟩
          case measure => simp [intOf]; omega
    · obtain rfl : i = gs.length := by omega
      have hd1 : decide ((gs.length : Int) < (gs.length : Int)) = false := by simp
      go_wp2
      refine bodyPost_ret (results_tmp rfl _ _ _) rfl ⟨_, gs, rfl, ?_, rfl, ?_⟩
      · rw [← HA0.out]
        exact HD.out.weak (by omega)
      · rw [← HA0.out]
        exact HB2.out.trans (HB.out.mono (by omega))
open Go.RowKit Bb Bl
end Go.Proofs.YtfoodaobiknihaaGreatDoor
