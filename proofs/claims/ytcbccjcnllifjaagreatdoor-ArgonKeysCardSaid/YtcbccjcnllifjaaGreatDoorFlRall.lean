/- The document's All: all blocks filled, by its contract. Conditions: those typed. -/
import Derived.Test.YtcbccjcnllifjaaGreatDoorFlOne
namespace Go.Proofs.YtcbccjcnllifjaaGreatDoor
set_option maxRecDepth 50000
open Go.RowKit Bb Bn
theorem rspf_all {w : World} {b k : Nat} {ev : Operand → Value} {x : Operand} {o : Oper} (hop : o.op = .fieldAddr 44 x k) (hk : k < 8) (hx : ev x = .pointer (some ⟨b, 0, none⟩)) : (execOp ev o).run Tryz.prog w = .ok (.value (.pointer (some ⟨b, k, none⟩))) w := by
  rcases (show k = 0 ∨ k = 1 ∨ k = 2 ∨ k = 3 ∨ k = 4 ∨ k = 5 ∨ k = 6 ∨ k = 7 by omega) with rfl | rfl | rfl | rfl | rfl | rfl | rfl | rfl
  all_goals
    simp [execOp, hop, hx, go_sem]
theorem allTo_turn {a t l b c g : Nat} (L : List (List Nat)) (p s : Nat) (hs : s < 4) : allTo a t l b c g L (4 * p + s + 1) = turnTo a t l b c g (allTo a t l b c g L (4 * p + s)) p s l := by
  show turnTo a t l b c g (allTo a t l b c g L (4 * p + s)) ((4 * p + s) / 4) ((4 * p + s) % 4) l = _
  rw [show (4 * p + s) / 4 = p by omega, show (4 * p + s) % 4 = s by omega]
theorem rfirst27 (p s F0 : Nat) (h : fiN p s = F0) (w : World) : Calls Tryz.prog 59 #[.int .i64 (p : Int), .int .i64 (s : Int)] w fun e w' => e = .returned (.int .i64 (F0 : Int)) ∧ w = w' := by
  by_cases hp : p = 0
  · subst hp
    by_cases hs : s = 0
    · subst hs
      obtain rfl : F0 = 2 := h.symm
      go_enter Tryz.func59, Tryz.ntmps59
      go_wp2
      go_ret
      exact ⟨rfl, rfl⟩
    · obtain rfl : F0 = 0 := by rw [← h, fiN, if_neg (by omega)]
      have h2 : ((s : Int) == 0) = false := by simp; omega
      have h3 : ¬ (s : Int) = 0 := by omega
      go_enter Tryz.func59, Tryz.ntmps59
      go_wp2
      go_ret
      exact ⟨rfl, rfl⟩
  · obtain rfl : F0 = 0 := by rw [← h, fiN, if_neg (by omega)]
    have h2 : ((p : Int) == 0) = false := by simp; omega
    have h3 : ¬ (p : Int) = 0 := by omega
    go_enter Tryz.func59, Tryz.ntmps59
    go_wp2
    go_ret
    exact ⟨rfl, rfl⟩
set_option maxHeartbeats 25600000 in
theorem rall_any {a t l m b c g z N : Nat} {w : World} {v : Value} {gs : List Nat} {L : List (List Nat)} (S : Sh a t l b c g) (hD : DocAt w N v c gs L) (hgl : gs.length = l) (hN : N ≤ w.heap.size) :
    Calls Tryz.prog 35 #[spv a t l m b c g z, v] w fun e w' => e = .returned v ∧ DocAt w' N v c gs (allTo a t l b c g L (4 * t)) ∧ Below N w w' := by
  have htm := S.tm
  have hl1 := S.l1
  have hlm := S.lm
  have hgm : g ≤ 400 := by have := S.cg; have := S.cm; omega
  have hg2 := S.g2
  obtain ⟨o, kk, rfl⟩ := hD.head (by omega)
  have HGL := Lib.hid hgl
  rw [hgl] at hD ⊢
  obtain ⟨S2, hS2⟩ : ∃ S2, w.heap.size = S2 := ⟨_, rfl⟩
  obtain ⟨w1, e1⟩ : ∃ w1, w1 = w.alloc (.cells (spc a t l m b c g z) 44) := ⟨_, rfl⟩
  have b1 : Below w.heap.size w w1 := by rw [e1]; exact one_box _ _
  have HD1 := Lib.hid (hD.step b1)
  have HR1 : Hid (RowAt w1 S2 44 (spc a t l m b c g z)) := Lib.hid (by rw [e1, ← hS2]; exact RowAt.new _ _ _)
  have HB1 : Hid (Below N w w1) := Lib.hid (b1.mono hN)
  have HNW := Lib.hid hN
  have E1 := Lib.hid e1
  have HLl : Hid (L.length = l * c) := Lib.hid (by rw [hD.len, hgl])
  clear hD hgl hN b1 e1
  go_enter Tryz.func35, Tryz.ntmps35
  go_upto_region 1 with fail
  rw [← E1.out]
  clear E1 hS2
  go_wp2
  go_loopw [5] (fun v5 wr => ∃ p : Nat, p ≤ t ∧ v5 = .int .i64 (p : Int) ∧ Hid (DocAt wr N (.slice (some ⟨o, 0, none⟩) l kk) c gs (allTo a t l b c g L (4 * p))) ∧ Hid (RowAt wr S2 44 (spc a t l m b c g z)) ∧ Hid (Below N w wr)) (fun v5 _ => t - (intOf v5).toNat)
  case atStart => exact ⟨0, Nat.zero_le _, rfl, HD1, HR1, HB1⟩
  case round =>
    obtain ⟨p, hp, rfl, HDp, HRp, HBp⟩ := hrel
    have k1 : wr.cell? ⟨S2, 1, none⟩ = some (.int .i64 (t : Int)) := (HRp.out.cell 1).trans rfl
    by_cases hpt : p < t
    · have hd : decide ((p : Int) < (t : Int)) = true := by simp; omega
      have hd2 : decide (p < t) = true := by simp; omega
      go_wp2
      go_loopw [6] (fun v6 wr => ∃ s : Nat, s ≤ 4 ∧ v6 = .int .i64 (s : Int) ∧ Hid (DocAt wr N (.slice (some ⟨o, 0, none⟩) l kk) c gs (allTo a t l b c g L (4 * p + s))) ∧ Hid (RowAt wr S2 44 (spc a t l m b c g z)) ∧ Hid (Below N w wr)) (fun v6 _ => 4 - (intOf v6).toNat)
      case atStart => exact ⟨0, Nat.zero_le _, rfl, HDp, HRp, HBp⟩
      case round =>
        clear HDp HRp HBp k1
        obtain ⟨s, hs, rfl, HDs, HRs, HBs⟩ := hrel
        have k2 : wr.cell? ⟨S2, 2, none⟩ = some (.int .i64 (l : Int)) := (HRs.out.cell 2).trans rfl
        by_cases hs4 : s < 4
        · have hd3 : decide ((s : Int) < 4) = true := by simp; omega
          have hd4 : decide (s < 4) = true := by simp; omega
          obtain ⟨L1, hL1⟩ : ∃ L1, allTo a t l b c g L (4 * p + s) = L1 := ⟨_, rfl⟩
          rw [hL1] at HDs
          have HL1 := Lib.hid hL1
          clear hL1
          go_wp2
          go_loopw [7] (fun v7 wr => ∃ k : Nat, k ≤ l ∧ v7 = .int .i64 (k : Int) ∧ Hid (DocAt wr N (.slice (some ⟨o, 0, none⟩) l kk) c gs (turnTo a t l b c g L1 p s k)) ∧ Hid (RowAt wr S2 44 (spc a t l m b c g z)) ∧ Hid (Below N w wr)) (fun v7 _ => l - (intOf v7).toNat)
          case atStart => exact ⟨0, Nat.zero_le _, rfl, HDs, HRs, HBs⟩
          case round =>
            clear HDs HRs HBs k2
            obtain ⟨k, hk, rfl, HDk, HRk, HBk⟩ := hrel
            have k3 : wr.cell? ⟨S2, 2, none⟩ = some (.int .i64 (l : Int)) := (HRk.out.cell 2).trans rfl
            by_cases hkl : k < l
            · have hd5 : decide ((k : Int) < (l : Int)) = true := by simp; omega
              have hd6 : decide (k < l) = true := by simp; omega
              obtain ⟨F0, hF0⟩ : ∃ F0, fiN p s = F0 := ⟨_, rfl⟩
              have hF2 : F0 ≤ g := by have := fiN_le p s; omega
              have CF := Lib.hid fun w => rfirst27 p s F0 hF0 w
              have HF0 := Lib.hid hF0
              obtain ⟨L2, hL2⟩ : ∃ L2, turnTo a t l b c g L1 p s k = L2 := ⟨_, rfl⟩
              rw [hL2] at HDk
              have HL2 := Lib.hid hL2
              clear hL2 hF0
              go_wp2_with fail
              refine (CF.out _).mono ?_
              rintro e wq0 ⟨rfl, rfl⟩
              clear CF k3
              go_wp2
              go_loopw [8] (fun v8 wr => ∃ j : Nat, F0 + j ≤ g ∧ v8 = .int .i64 ((F0 + j : Nat) : Int) ∧ Hid (DocAt wr N (.slice (some ⟨o, 0, none⟩) l kk) c gs (segTo a t l b c g L2 p s k F0 j)) ∧ Hid (RowAt wr S2 44 (spc a t l m b c g z)) ∧ Hid (Below N w wr)) (fun v8 _ => g - (intOf v8).toNat)
              case atStart => exact ⟨0, hF2, rfl, HDk, HRk, HBk⟩
              case round =>
                clear HDk HRk HBk
                obtain ⟨j, hj, rfl, HDj, HRj, HBj⟩ := hrel
                have k6 : wr.cell? ⟨S2, 6, none⟩ = some (.int .i64 (g : Int)) := (HRj.out.cell 6).trans rfl
                obtain ⟨i, hi⟩ : ∃ i, F0 + j = i := ⟨_, rfl⟩
                rw [hi] at hj ⊢
                have HI := Lib.hid hi
                by_cases hlt : i < g
                · have hd7 : decide ((i : Int) < (g : Int)) = true := by simp; omega
                  have hd8 : decide (i < g) = true := by simp; omega
                  have R : Fl t l c g p s k i := ⟨hpt, by omega, hkl, by rw [HF0.out]; omega, hlt⟩
                  have hcol := R.col S
                  have hsgm : s * g ≤ 3 * g := Nat.mul_le_mul_right _ (by omega)
                  obtain ⟨sg, hsg⟩ : ∃ sg, s * g = sg := ⟨_, rfl⟩
                  obtain ⟨x0, hx0⟩ : ∃ x0, sg + i = x0 := ⟨_, rfl⟩
                  rw [hsg] at hsgm
                  rw [hsg, hx0] at hcol
                  obtain ⟨L3, hL3⟩ : ∃ L3, segTo a t l b c g L2 p s k F0 j = L3 := ⟨_, rfl⟩
                  rw [hL3] at HDj
                  have hL3l : L3.length = l * c := by rw [← hL3, segTo_len, ← HL2.out, turnTo_len, ← HL1.out, allTo_len]; exact HLl.out
                  obtain ⟨nb0, hnb⟩ : ∃ nb0, newB a t l b c g L3 p s k i = nb0 := ⟨_, rfl⟩
                  have hnbo : okb nb0 := by rw [← hnb]; exact newB_ok S R hL3l HDj.out.ok
                  obtain ⟨gk, hgk⟩ : ∃ gk, gs.getD k 0 = gk := ⟨_, rfl⟩
                  have hgsl := HGL.out
                  have hkg : k < gs.length := by omega
                  have HSN : Hid (L3.set (k * c + x0) nb0 = segTo a t l b c g L2 p s k F0 (j + 1)) := Lib.hid (by
                    rw [← hx0, ← hsg, ← hnb, ← hL3, ← hi]; rfl)
                  have q1 : (s : Int) * (g : Int) = (sg : Int) := by rw [← hsg]; simp
                  have q2 : (sg : Int) + (i : Int) = (x0 : Int) := by omega
                  have q1w : IntKind.i64.wrap (sg : Int) = (sg : Int) := by rw [IntKind.wrap_i64]; omega
                  have q2w : IntKind.i64.wrap (x0 : Int) = (x0 : Int) := by rw [IntKind.wrap_i64]; have := S.cm; omega
                  have hNw : N ≤ wr.heap.size := Nat.le_trans HNW.out HBj.out.size
                  obtain ⟨F, hF⟩ : ∃ F : World → Prop, F = fun u => DocAt u N (.slice (some ⟨o, 0, none⟩) l kk) c gs (segTo a t l b c g L2 p s k F0 (j + 1)) ∧ RowAt u S2 44 (spc a t l m b c g z) ∧ Below N w u := ⟨_, rfl⟩
                  have HFS : Hid (∀ u u', F u → Below u.heap.size u u' → F u') := Lib.hid fun u u' hu hb => by
                    subst hF
                    exact ⟨hu.1.step hb, RowAt.step hu.2.1 hb, hu.2.2.trans (hb.mono (Nat.le_trans HNW.out hu.2.2.size))⟩
                  have HFE : Hid (∀ u, F u → DocAt u N (.slice (some ⟨o, 0, none⟩) l kk) c gs (segTo a t l b c g L2 p s k F0 (j + 1)) ∧ RowAt u S2 44 (spc a t l m b c g z) ∧ Below N w u) := Lib.hid fun u hu => by subst hF; exact hu
                  have HQ : Hid (∀ u, Below wr.heap.size wr u → (loadVar 77 ⟨o, k, none⟩).run Tryz.prog u = .ok (.slice (some ⟨gk, 0, none⟩) c c) u ∧ u.cell? ⟨S2, 6, none⟩ = some (.int .i64 (g : Int)) ∧ (loadVar 44 ⟨S2, 0, none⟩).run Tryz.prog u = .ok (spv a t l m b c g z) u ∧
                      Calls Tryz.prog 60 #[spv a t l m b c g z, .slice (some ⟨o, 0, none⟩) l kk, .int .i64 (p : Int), .int .i64 (s : Int), .int .i64 (k : Int), .int .i64 (i : Int)] u (fun e w' => ∃ v, e = .returned v ∧ Is (.agg (wq nb0)) v w' ∧ Below u.heap.size u w') ∧
                      ∃ w7, (storeVar 111 ⟨gk, x0 * 128, none⟩ (.agg (wq nb0))).run Tryz.prog u = .ok () w7 ∧ F w7 ∧ Below N wr w7 ∧ u.heap.size ≤ w7.heap.size) := Lib.hid fun u hu => by
                    have hd := HDj.out.step hu
                    have hr := RowAt.step HRj.out hu
                    have h1 := doc_row hd hkg
                    rw [hgk] at h1
                    refine ⟨h1, (hr.cell 6).trans rfl, rsp_loadN hr, ?_, ?_⟩
                    · have h2 := rone_any (m := m) (z := z) S R hd hgsl
                      rw [hnb] at h2
                      exact calls_is h2
                    · obtain ⟨w7, hs7, hd7, hk7⟩ := hd.store hkg hcol hnbo
                      rw [hgk] at hs7 hk7
                      rw [HSN.out] at hd7
                      have hge : N ≤ gk := by rw [← hgk]; exact hd.ge _ (getD_mem hkg)
                      have hb7 : Below N wr w7 := (hu.mono hNw).trans (hk7.below (Nat.le_trans hNw hu.size) fun x hx => by omega)
                      refine ⟨w7, hs7, ?_, hb7, hk7.size⟩
                      subst hF
                      refine ⟨hd7, RowAt.kept hr hk7 fun e => ?_, HBj.out.trans hb7⟩
                      have hbk := hd.blk k hkg
                      rw [hgk] at hbk
                      exact RowAt.unlike hr hbk (by rfl) e
                  have HKL := Lib.hid hkl
                  have HX0 := Lib.hid hcol
                  clear hF hnbo hnb hgk hkg hL3l hL3 hgsl hsg hx0 HDj HRj HBj R hcol
                  go_upto_region 13 with fail
                  refine wp_region_stage (N) [18] [] [[0], [0], [0], [0], [0], [0], [0], [0], [0], [0], [0], [0], [0], [0], [0], [0], [0], [0], []] [[Is (.slice (some ⟨o, 0, none⟩) l kk), Is (.int .i64 (k : Int)), Is (.pointer (some ⟨o, k, none⟩)), Is (.slice (some ⟨gk, 0, none⟩) c c), Is (.int .i64 (s : Int)), Is (.pointer (some ⟨S2, 6, none⟩)), Is (.int .i64 (g : Int)), Is (.int .i64 (sg : Int)), Is (.int .i64 (i : Int)), Is (.int .i64 (x0 : Int)), Is (spv a t l m b c g z), Is (.slice (some ⟨o, 0, none⟩) l kk), Is (.int .i64 (p : Int)), Is (.int .i64 (s : Int)), Is (.int .i64 (k : Int)), Is (.int .i64 (i : Int)), Is (.agg (wq nb0)), Is (.pointer (some ⟨gk, x0 * 128, none⟩)), Free], [Is (.slice (some ⟨o, 0, none⟩) l kk), Is (.int .i64 (k : Int)), Is (.pointer (some ⟨o, k, none⟩)), Is (.slice (some ⟨gk, 0, none⟩) c c), Is (.int .i64 (s : Int)), Is (.pointer (some ⟨S2, 6, none⟩)), Is (.int .i64 (g : Int)), Is (.int .i64 (sg : Int)), Is (.int .i64 (i : Int)), Is (.int .i64 (x0 : Int)), Is (spv a t l m b c g z), Is (.slice (some ⟨o, 0, none⟩) l kk), Is (.int .i64 (p : Int)), Is (.int .i64 (s : Int)), Is (.int .i64 (k : Int)), Is (.int .i64 (i : Int)), Is (.agg (wq nb0)), IsF (.pointer (some ⟨gk, x0 * 128, none⟩)) F, Free]] [Is (.slice (some ⟨o, 0, none⟩) l kk), Is (.int .i64 (k : Int)), Is (.pointer (some ⟨o, k, none⟩)), Is (.slice (some ⟨gk, 0, none⟩) c c), Is (.int .i64 (s : Int)), Is (.pointer (some ⟨S2, 6, none⟩)), Is (.int .i64 (g : Int)), Is (.int .i64 (sg : Int)), Is (.int .i64 (i : Int)), Is (.int .i64 (x0 : Int)), Is (spv a t l m b c g z), Is (.slice (some ⟨o, 0, none⟩) l kk), Is (.int .i64 (p : Int)), Is (.int .i64 (s : Int)), Is (.int .i64 (k : Int)), Is (.int .i64 (i : Int)), Is (.agg (wq nb0)), IsF (.pointer (some ⟨gk, x0 * 128, none⟩)) F, Free] hNw (by kernel_rfl) (by kernel_rfl) rfl rfl ⟨⟨stable_is _, stable_is _, stable_is _, stable_is _, stable_is _, stable_is _, stable_is _, stable_is _, stable_is _, stable_is _, stable_is _, stable_is _, stable_is _, stable_is _, stable_is _, stable_is _, stable_is _, stable_is _, stable_free, trivial⟩, ⟨stable_is _, stable_is _, stable_is _, stable_is _, stable_is _, stable_is _, stable_is _, stable_is _, stable_is _, stable_is _, stable_is _, stable_is _, stable_is _, stable_is _, stable_is _, stable_is _, stable_is _, stable_isf _ HFS.out, stable_free, trivial⟩, trivial⟩ (by intro n hn o ho hd w; simp only [List.mem_cons, List.not_mem_nil, or_false] at hn; subst hn; first | trivial | (cases ho; cases hd)) rfl ⟨?p0, ?p1, ?p2, ?p3, ?p4, ?p5, ?p6, ?p7, ?p8, ?p9, ?p10, ?p11, ?p12, ?p13, ?p14, ?p15, ?p16, ?p17, fun h => absurd (by simp) h, trivial⟩ ⟨?t0, trivial⟩ (by decide) ?fin
                  case p0 =>
                    intro _ k hk; obtain rfl := List.mem_singleton.1 hk; intro a w C Z
                    exact partS_on (wanted_free rfl _) (op_move (.inl rfl) (C.was 1 (by kernel_rfl)))
                  case p1 =>
                    intro _ k hk; obtain rfl := List.mem_singleton.1 hk; intro a w C Z
                    exact partS_on (wanted_free rfl _) (op_move (.inl rfl) (C.was 7 (by kernel_rfl)))
                  case p2 =>
                    intro _ k hk; obtain rfl := List.mem_singleton.1 hk; intro a w C Z
                    exact partS_on (wanted_free rfl _) (op_value (ixg_run rfl (C.on (j := 0) (by kernel_rfl) rfl rfl) (C.on (j := 1) (by kernel_rfl) rfl rfl) HKL.out) rfl)
                  case p3 =>
                    intro _ k hk; obtain rfl := List.mem_singleton.1 hk; intro a w C Z
                    exact partS_on (wanted_free rfl _) (op_value (load_run rfl (C.on (j := 2) (by kernel_rfl) rfl rfl) (HQ.out w C.below).1) rfl)
                  case p4 =>
                    intro _ k hk; obtain rfl := List.mem_singleton.1 hk; intro a w C Z
                    exact partS_on (wanted_free rfl _) (op_move (.inl rfl) (C.was 6 (by kernel_rfl)))
                  case p5 =>
                    intro _ k hk; obtain rfl := List.mem_singleton.1 hk; intro a w C Z
                    exact partS_on (wanted_free rfl _) (op_value (rspf_all (k := 6) rfl (by decide) (C.was 2 (by kernel_rfl))) rfl)
                  case p6 =>
                    intro _ k hk; obtain rfl := List.mem_singleton.1 hk; intro a w C Z
                    exact partS_on (wanted_free rfl _) (op_value (int_run rfl (C.on (j := 5) (by kernel_rfl) rfl rfl) (HQ.out w C.below).2.1) rfl)
                  case p7 =>
                    intro _ k hk; obtain rfl := List.mem_singleton.1 hk; intro a w C Z
                    exact partS_on (wanted_free rfl _) (op_bin rfl (C.on (j := 4) (by kernel_rfl) rfl rfl) (C.on (j := 6) (by kernel_rfl) rfl rfl) rfl (by simp [go_sem, q1, q1w]) rfl)
                  case p8 =>
                    intro _ k hk; obtain rfl := List.mem_singleton.1 hk; intro a w C Z
                    exact partS_on (wanted_free rfl _) (op_move (.inl rfl) (C.was 8 (by kernel_rfl)))
                  case p9 =>
                    intro _ k hk; obtain rfl := List.mem_singleton.1 hk; intro a w C Z
                    exact partS_on (wanted_free rfl _) (op_bin rfl (C.on (j := 7) (by kernel_rfl) rfl rfl) (C.on (j := 8) (by kernel_rfl) rfl rfl) rfl (by simp [go_sem, q2, q2w]) rfl)
                  case p10 =>
                    intro _ k hk; obtain rfl := List.mem_singleton.1 hk; intro a w C Z
                    exact partS_on (wanted_free rfl _) (op_value (load_run rfl (C.was 2 (by kernel_rfl)) (HQ.out w C.below).2.2.1) rfl)
                  case p11 =>
                    intro _ k hk; obtain rfl := List.mem_singleton.1 hk; intro a w C Z
                    exact partS_on (wanted_free rfl _) (op_move (.inl rfl) (C.was 1 (by kernel_rfl)))
                  case p12 =>
                    intro _ k hk; obtain rfl := List.mem_singleton.1 hk; intro a w C Z
                    exact partS_on (wanted_free rfl _) (op_move (.inl rfl) (C.was 5 (by kernel_rfl)))
                  case p13 =>
                    intro _ k hk; obtain rfl := List.mem_singleton.1 hk; intro a w C Z
                    exact partS_on (wanted_free rfl _) (op_move (.inl rfl) (C.was 6 (by kernel_rfl)))
                  case p14 =>
                    intro _ k hk; obtain rfl := List.mem_singleton.1 hk; intro a w C Z
                    exact partS_on (wanted_free rfl _) (op_move (.inl rfl) (C.was 7 (by kernel_rfl)))
                  case p15 =>
                    intro _ k hk; obtain rfl := List.mem_singleton.1 hk; intro a w C Z
                    exact partS_on (wanted_free rfl _) (op_move (.inl rfl) (C.was 8 (by kernel_rfl)))
                  case p16 =>
                    intro _ k hk; obtain rfl := List.mem_singleton.1 hk; intro a w C Z
                    exact partS_on (wanted_free rfl _) (op_call6 rfl (reg_enters Tryz.func60 (by kernel_rfl) (by kernel_rfl)) (C.on (j := 10) (by kernel_rfl) rfl rfl) (C.on (j := 11) (by kernel_rfl) rfl rfl) (C.on (j := 12) (by kernel_rfl) rfl rfl) (C.on (j := 13) (by kernel_rfl) rfl rfl) (C.on (j := 14) (by kernel_rfl) rfl rfl) (C.on (j := 15) (by kernel_rfl) rfl rfl) (HQ.out w C.below).2.2.2.1)
                  case p17 =>
                    intro _ k hk; obtain rfl := List.mem_singleton.1 hk; intro a w C Z
                    exact partS_on (wanted_free rfl _) (op_value (ixr_run rfl (C.on (j := 3) (by kernel_rfl) rfl rfl) (C.on (j := 9) (by kernel_rfl) rfl rfl) HX0.out) rfl)
                  case t0 =>
                    intro o ho a w C A
                    cases ho
                    have cb : Below wr.heap.size wr w := C.below
                    obtain ⟨w7, hst, hF7, hb7, hz7⟩ := (HQ.out w cb).2.2.2.2
                    refine ⟨wanted_free rfl _, stage_store rfl (C.on (j := 17) (by kernel_rfl) rfl rfl) (C.on (j := 16) (by kernel_rfl) rfl rfl) hst trivial hb7 hz7 ?_⟩
                    · intro i o2 d hi hd hne hnw h
                      have hil := (List.getElem?_eq_some_iff.1 hi).1
                      replace hil : i < 19 := hil
                      obtain rfl | rfl | rfl | rfl | rfl | rfl | rfl | rfl | rfl | rfl | rfl | rfl | rfl | rfl | rfl | rfl | rfl | rfl | rfl : i = 0 ∨ i = 1 ∨ i = 2 ∨ i = 3 ∨ i = 4 ∨ i = 5 ∨ i = 6 ∨ i = 7 ∨ i = 8 ∨ i = 9 ∨ i = 10 ∨ i = 11 ∨ i = 12 ∨ i = 13 ∨ i = 14 ∨ i = 15 ∨ i = 16 ∨ i = 17 ∨ i = 18 := by omega
                      · exact h
                      · exact h
                      · exact h
                      · exact h
                      · exact h
                      · exact h
                      · exact h
                      · exact h
                      · exact h
                      · exact h
                      · exact h
                      · exact h
                      · exact h
                      · exact h
                      · exact h
                      · exact h
                      · exact h
                      · exact ⟨h, hF7⟩
                      · exact absurd rfl hne
                  case fin =>
                    rintro w8 _ _ rfl _ rfl _ rfl _ rfl _ rfl _ rfl _ rfl _ rfl _ rfl _ rfl _ rfl _ rfl _ rfl _ rfl _ rfl _ rfl _ rfl _ ⟨rfl, hFF⟩ _ _
                    simp only [Fin, setAt, List.setIfInBounds_toArray, List.set_cons_succ, List.set_cons_zero]
                    obtain ⟨hD8, hR8, hB8⟩ := HFE.out _ hFF
                    have HD8 := Lib.hid hD8
                    have HR8 := Lib.hid hR8
                    have HB8 := Lib.hid hB8
                    have hij : i + 1 = F0 + (j + 1) := by have := HI.out; omega
                    have HIJ := Lib.hid hij
                    clear hD8 hR8 hB8 HFE HFS HQ hFF hij q1 q2 q1w q2w
                    go_wp2
                    go_roundw
                    case rel => exact ⟨j + 1, by have := HIJ.out; omega, by rw [← HIJ.out]; go_num, HD8, HR8, HB8⟩
                    case measure =>
                      have := HI.out
                      simp [intOf]; omega
                · obtain rfl : i = g := by omega
                  have hd7 : decide ((i : Int) < (i : Int)) = false := by simp
                  have HSG : Hid (segTo a t l b c i L2 p s k F0 j = turnTo a t l b c i L1 p s (k + 1)) := Lib.hid (by
                    have e : i - fiN p s = j := by rw [HF0.out]; have := HI.out; omega
                    show _ = segL a t l b c i (turnTo a t l b c i L1 p s k) p s k
                    unfold segL
                    rw [e, HF0.out, HL2.out])
                  rw [HSG.out] at HDj
                  go_wp2
                  go_roundw
                  case rel => exact ⟨k + 1, by omega, by go_num, HDj, HRj, HBj⟩
                  case measure => simp [intOf]; omega
            · obtain rfl : l = k := by omega
              have hd5 : decide ((l : Int) < (l : Int)) = false := by simp
              rw [← HL1.out, ← allTo_turn L p s hs4] at HDk
              go_wp2
              go_roundw
              case rel => exact ⟨s + 1, by omega, by go_num, HDk, HRk, HBk⟩
              case measure => simp [intOf]; omega
        · obtain rfl : s = 4 := by omega
          have hd3 : decide ((4 : Int) < 4) = false := by simp
          go_wp2
          go_roundw
          case rel => exact ⟨p + 1, by omega, by go_num, HDs, HRs, HBs⟩
          case measure => simp [intOf]; omega
    · obtain rfl : t = p := by omega
      have hd : decide ((t : Int) < (t : Int)) = false := by simp
      go_wp2
      refine bodyPost_ret (results_tmp rfl _ _ _) rfl ⟨rfl, HDp.out, HBp.out⟩
end Go.Proofs.YtcbccjcnllifjaaGreatDoor
