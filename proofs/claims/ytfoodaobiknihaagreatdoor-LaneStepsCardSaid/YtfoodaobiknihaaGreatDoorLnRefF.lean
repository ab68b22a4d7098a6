/- Step of the document's lane where a block is filled, by its contract. Conditions: those typed. -/
import Derived.Test.YtfoodaobiknihaaGreatDoorLnR
namespace Go.Proofs.YtfoodaobiknihaaGreatDoor
set_option maxRecDepth 50000
open Go.RowKit Bb Bn
set_option maxHeartbeats 25600000 in
theorem rstep_fill {a t l m b c g z p s k i N : Nat} {w : World} {v : Value} {gs : List Nat} {L : List (List Nat)} (S : Sh a t l b c g) (R : Fl t l c g p s k i) (hD : DocAt w N v c gs L) (hgl : gs.length = l) (hN : N ≤ w.heap.size) :
    Calls Tryz.prog 16 #[spv a t l m b c g z, v, .int .i64 (k : Int), rlv p s i true false false] w fun e w' => e = .returned (.tuple #[v, rlv p s (i + 1 : Nat) false false false, .int .i64 2, .int .i64 0]) ∧ DocAt w' N v c gs (stepL a t l b c g L p s k i) ∧ Kept (fun j => j = gs.getD k 0) w w' := by
  have hcol := R.col S
  have hcm := S.cm
  have hlm := S.lm
  have hkl := R.kl
  have hig := R.hi
  have hgm : g ≤ 400 := by have := S.cg; omega
  have hs3 := R.s3
  have hsgm : s * g ≤ 3 * g := Nat.mul_le_mul_right _ hs3
  have hLl : L.length = l * c := by rw [hD.len, hgl]
  obtain ⟨o, kk, rfl⟩ := hD.head (by omega)
  rw [hgl] at hD ⊢
  obtain ⟨sg, hsg⟩ : ∃ sg, s * g = sg := ⟨_, rfl⟩
  obtain ⟨x0, hx0⟩ : ∃ x0, sg + i = x0 := ⟨_, rfl⟩
  rw [hsg] at hsgm
  rw [hsg, hx0] at hcol
  obtain ⟨nb0, hnb⟩ : ∃ nb0, newB a t l b c g L p s k i = nb0 := ⟨_, rfl⟩
  have hnbo : okb nb0 := by rw [← hnb]; exact newB_ok S R hLl hD.ok
  obtain ⟨gk, hgk⟩ : ∃ gk, gs.getD k 0 = gk := ⟨_, rfl⟩
  have hkg : k < gs.length := by omega
  have HSN : Hid (L.set (k * c + x0) nb0 = stepL a t l b c g L p s k i) := Lib.hid (by rw [← hx0, ← hsg, ← hnb]; rfl)
  have q1 : (s : Int) * (g : Int) = (sg : Int) := by rw [← hsg]; simp
  have q2 : (sg : Int) + (i : Int) = (x0 : Int) := by omega
  have q1w : IntKind.i64.wrap (sg : Int) = (sg : Int) := by rw [IntKind.wrap_i64]; omega
  have q2w : IntKind.i64.wrap (x0 : Int) = (x0 : Int) := by rw [IntKind.wrap_i64]; omega
  have HI : Hid (IntKind.i64.wrap ((i : Int) + 1) = ((i + 1 : Nat) : Int)) := Lib.hid (by rw [IntKind.wrap_i64]; omega)
  have d1 : decide ((g : Int) ≤ (i : Int)) = false := by simp; omega
  have d2 : decide (g ≤ i) = false := by simp; omega
  obtain ⟨w1, e1⟩ : ∃ w1, w1 = ((w.alloc (.cells (spc a t l m b c g z) 48)).alloc (.cells (rlc p s i true false false) 57)).alloc (.cells (rlc 0 0 0 false false false) 57) := ⟨_, rfl⟩
  have b1 : Below w.heap.size w w1 := by rw [e1]; exact (two_box _ _ _).alloc (by simp only [World.size_alloc]; omega) _
  have hSh : RowAt w1 w.heap.size 48 (spc a t l m b c g z) := by rw [e1]; exact ((RowAt.new w _ _).alloc _).alloc _
  have hX : RowAt w1 (w.heap.size + 1) 57 (rlc p s i true false false) := by
    rw [e1]
    have h := RowAt.new (w.alloc (.cells (spc a t l m b c g z) 48)) 57 (rlc p s i true false false)
    rw [World.size_alloc] at h
    exact h.alloc _
  have hZ : RowAt w1 (w.heap.size + 1 + 1) 57 (rlc 0 0 0 false false false) := by
    rw [e1]
    have h := RowAt.new ((w.alloc (.cells (spc a t l m b c g z) 48)).alloc (.cells (rlc p s i true false false) 57)) 57 (rlc 0 0 0 false false false)
    rwa [World.size_alloc, World.size_alloc] at h
  have k2 : w1.cell? ⟨w.heap.size + 1, 2, none⟩ = some (.int .i64 (i : Int)) := rl_cell hX 2 rfl
  have k3 : w1.cell? ⟨w.heap.size + 1, 3, none⟩ = some (.bool true) := rl_cell hX 3 rfl
  have k4 : w1.cell? ⟨w.heap.size + 1, 4, none⟩ = some (.bool false) := rl_cell hX 4 rfl
  have k5 : w1.cell? ⟨w.heap.size + 1, 5, none⟩ = some (.bool false) := rl_cell hX 5 rfl
  have kg : w1.cell? ⟨w.heap.size, 6, none⟩ = some (.int .i64 (g : Int)) := (RowAt.cell hSh 6).trans rfl
  have HNW : Hid (N ≤ w1.heap.size) := Lib.hid (Nat.le_trans hN b1.size)
  have HNT : Hid (N ≤ w.heap.size) := Lib.hid hN
  have hD1 := hD.step b1
  obtain ⟨F, hF⟩ : ∃ F : World → Prop, F = fun u => DocAt u N (.slice (some ⟨o, 0, none⟩) l kk) c gs (stepL a t l b c g L p s k i) ∧ RowAt u (w.heap.size + 1) 57 (rlc p s i true false false) ∧ RowAt u (w.heap.size + 1 + 1) 57 (rlc 0 0 0 false false false) ∧ Kept (fun j => j = gk) w u := ⟨_, rfl⟩
  have HFS0 : Hid (∀ u u', F u → Below u.heap.size u u' → F u') := Lib.hid fun u u' hu hb => by
    subst hF
    exact ⟨hu.1.step hb, RowAt.step hu.2.1 hb, RowAt.step hu.2.2.1 hb, hu.2.2.2.trans (Kept.of_below (M := fun _ => False) hb) fun _ _ h => h.elim⟩
  have HFE0 : Hid (∀ u, F u → DocAt u N (.slice (some ⟨o, 0, none⟩) l kk) c gs (stepL a t l b c g L p s k i) ∧ RowAt u (w.heap.size + 1) 57 (rlc p s i true false false) ∧ RowAt u (w.heap.size + 1 + 1) 57 (rlc 0 0 0 false false false) ∧ Kept (fun j => j = gk) w u) := Lib.hid fun u hu => by subst hF; exact hu
  have HQ : Hid (∀ u, Below w1.heap.size w1 u → (loadVar 91 ⟨o, k, none⟩).run Tryz.prog u = .ok (.slice (some ⟨gk, 0, none⟩) c c) u ∧ RowAt u w.heap.size 48 (spc a t l m b c g z) ∧ RowAt u (w.heap.size + 1) 57 (rlc p s i true false false) ∧
      Calls Tryz.prog 37 #[spv a t l m b c g z, .slice (some ⟨o, 0, none⟩) l kk, .int .i64 (p : Int), .int .i64 (s : Int), .int .i64 (k : Int), .int .i64 (i : Int)] u (fun e w' => ∃ v, e = .returned v ∧ Is (.agg (wq nb0)) v w' ∧ Below u.heap.size u w') ∧
      ∃ w7, (storeVar 83 ⟨gk, x0 * 128, none⟩ (.agg (wq nb0))).run Tryz.prog u = .ok () w7 ∧ F w7 ∧ Below N w1 w7 ∧ u.heap.size ≤ w7.heap.size) := Lib.hid fun u hu => by
    have hd := hD1.step hu
    have hr := RowAt.step hX hu
    have hzr := RowAt.step hZ hu
    have h1 := doc_row hd hkg
    rw [hgk] at h1
    refine ⟨h1, RowAt.step hSh hu, hr, ?_, ?_⟩
    · have h2 := rone_any (m := m) (z := z) S R hd hgl
      rw [hnb] at h2
      exact calls_is h2
    · obtain ⟨w7, hs7, hd7, hk7⟩ := hd.store hkg hcol hnbo
      rw [hgk] at hs7 hk7
      rw [HSN.out] at hd7
      have hge : N ≤ gk := by rw [← hgk]; exact hd.ge _ (getD_mem hkg)
      have hb7 : Below N w1 w7 := (hu.mono HNW.out).trans (hk7.below (Nat.le_trans HNW.out hu.size) fun x hx => by omega)
      refine ⟨w7, hs7, ?_, hb7, hk7.size⟩
      have hbk := hd.blk k hkg
      rw [hgk] at hbk
      subst hF
      exact ⟨hd7, RowAt.kept hr hk7 (RowAt.unlike hr hbk (by rfl)), RowAt.kept hzr hk7 (RowAt.unlike hzr hbk (by rfl)), ((Kept.of_below (M := fun j => j = gk) b1).trans (Kept.of_below (M := fun j => j = gk) hu) fun _ _ h => h).trans hk7 fun _ _ h => h⟩
  have HKL : Hid (k < l) := Lib.hid hkl
  have HGK : Hid (gs.getD k 0 = gk) := Lib.hid hgk
  have HX0 : Hid (x0 < c) := Lib.hid hcol
  clear hF hnbo hnb hgk hkg hLl hsg hx0 hD hD1 S R hcol hgl HSN hN
  have HB1 := Lib.hid b1
  have HTS1 : Hid (w.heap.size + 1 + 1 < w1.heap.size) := Lib.hid (RowAt.lt hZ)
  have HSh := Lib.hid hSh
  have HX1 := Lib.hid hX
  have HZ1 := Lib.hid hZ
  have E1 := Lib.hid e1
  clear b1 hSh hX hZ e1
  go_enter Tryz.func16, Tryz.ntmps16
  go_upto_region 1 with fail
  rw [← E1.out]
  clear E1
  generalize hT2 : w.heap.size + 1 + 1 = T2 at *
  generalize hT1 : w.heap.size + 1 = T1 at *
  generalize hT0 : w.heap.size = T0 at *
  have HTT : Hid (w.heap.size = T0 ∧ T1 = T0 + 1 ∧ T2 = T0 + 1 + 1) := Lib.hid ⟨hT0, by omega, by omega⟩
  clear hT0 hT1 hT2
  go_upto_region 11 with fail
  clear k2 k3 k4 k5 kg
  refine wp_region_stage (N) [23] [] [[0], [0], [0], [0], [0], [0], [0], [0], [0], [0], [0], [0], [0], [0], [0], [0], [0], [0], [0], [0], [0], [0], [0], []] [[Is (.slice (some ⟨o, 0, none⟩) l kk), Is (.int .i64 (k : Int)), Is (.pointer (some ⟨o, k, none⟩)), Is (.slice (some ⟨gk, 0, none⟩) c c), Is (.pointer (some ⟨T1, 1, none⟩)), Is (.int .i64 (s : Int)), Is (.pointer (some ⟨T0, 6, none⟩)), Is (.int .i64 (g : Int)), Is (.int .i64 (sg : Int)), Is (.pointer (some ⟨T1, 2, none⟩)), Is (.int .i64 (i : Int)), Is (.int .i64 (x0 : Int)), Is (spv a t l m b c g z), Is (.slice (some ⟨o, 0, none⟩) l kk), Is (.pointer (some ⟨T1, 0, none⟩)), Is (.int .i64 (p : Int)), Is (.pointer (some ⟨T1, 1, none⟩)), Is (.int .i64 (s : Int)), Is (.int .i64 (k : Int)), Is (.pointer (some ⟨T1, 2, none⟩)), Is (.int .i64 (i : Int)), Is (.agg (wq nb0)), Is (.pointer (some ⟨gk, x0 * 128, none⟩)), Free], [Is (.slice (some ⟨o, 0, none⟩) l kk), Is (.int .i64 (k : Int)), Is (.pointer (some ⟨o, k, none⟩)), Is (.slice (some ⟨gk, 0, none⟩) c c), Is (.pointer (some ⟨T1, 1, none⟩)), Is (.int .i64 (s : Int)), Is (.pointer (some ⟨T0, 6, none⟩)), Is (.int .i64 (g : Int)), Is (.int .i64 (sg : Int)), Is (.pointer (some ⟨T1, 2, none⟩)), Is (.int .i64 (i : Int)), Is (.int .i64 (x0 : Int)), Is (spv a t l m b c g z), Is (.slice (some ⟨o, 0, none⟩) l kk), Is (.pointer (some ⟨T1, 0, none⟩)), Is (.int .i64 (p : Int)), Is (.pointer (some ⟨T1, 1, none⟩)), Is (.int .i64 (s : Int)), Is (.int .i64 (k : Int)), Is (.pointer (some ⟨T1, 2, none⟩)), Is (.int .i64 (i : Int)), Is (.agg (wq nb0)), IsF (.pointer (some ⟨gk, x0 * 128, none⟩)) F, Free]] [Is (.slice (some ⟨o, 0, none⟩) l kk), Is (.int .i64 (k : Int)), Is (.pointer (some ⟨o, k, none⟩)), Is (.slice (some ⟨gk, 0, none⟩) c c), Is (.pointer (some ⟨T1, 1, none⟩)), Is (.int .i64 (s : Int)), Is (.pointer (some ⟨T0, 6, none⟩)), Is (.int .i64 (g : Int)), Is (.int .i64 (sg : Int)), Is (.pointer (some ⟨T1, 2, none⟩)), Is (.int .i64 (i : Int)), Is (.int .i64 (x0 : Int)), Is (spv a t l m b c g z), Is (.slice (some ⟨o, 0, none⟩) l kk), Is (.pointer (some ⟨T1, 0, none⟩)), Is (.int .i64 (p : Int)), Is (.pointer (some ⟨T1, 1, none⟩)), Is (.int .i64 (s : Int)), Is (.int .i64 (k : Int)), Is (.pointer (some ⟨T1, 2, none⟩)), Is (.int .i64 (i : Int)), Is (.agg (wq nb0)), IsF (.pointer (some ⟨gk, x0 * 128, none⟩)) F, Free] HNW.out (by kernel_rfl) (by kernel_rfl) rfl rfl ⟨⟨stable_is _, stable_is _, stable_is _, stable_is _, stable_is _, stable_is _, stable_is _, stable_is _, stable_is _, stable_is _, stable_is _, stable_is _, stable_is _, stable_is _, stable_is _, stable_is _, stable_is _, stable_is _, stable_is _, stable_is _, stable_is _, stable_is _, stable_is _, stable_free, trivial⟩, ⟨stable_is _, stable_is _, stable_is _, stable_is _, stable_is _, stable_is _, stable_is _, stable_is _, stable_is _, stable_is _, stable_is _, stable_is _, stable_is _, stable_is _, stable_is _, stable_is _, stable_is _, stable_is _, stable_is _, stable_is _, stable_is _, stable_is _, stable_isf _ HFS0.out, stable_free, trivial⟩, trivial⟩ (by intro n hn o ho hd w; simp only [List.mem_cons, List.not_mem_nil, or_false] at hn; subst hn; first | trivial | (cases ho; cases hd)) rfl ⟨?p0, ?p1, ?p2, ?p3, ?p4, ?p5, ?p6, ?p7, ?p8, ?p9, ?p10, ?p11, ?p12, ?p13, ?p14, ?p15, ?p16, ?p17, ?p18, ?p19, ?p20, ?p21, ?p22, fun h => absurd (by simp) h, trivial⟩ ⟨?t0, trivial⟩ (by decide) ?fin
  case p0 =>
    intro _ k hk; obtain rfl := List.mem_singleton.1 hk; intro a w C Z
    exact partS_on (wanted_free rfl _) (op_move (.inl rfl) (C.was 1 (by kernel_rfl)))
  case p1 =>
    intro _ k hk; obtain rfl := List.mem_singleton.1 hk; intro a w C Z
    exact partS_on (wanted_free rfl _) (op_move (.inl rfl) (C.was 2 (by kernel_rfl)))
  case p2 =>
    intro _ k hk; obtain rfl := List.mem_singleton.1 hk; intro a w C Z
    exact partS_on (wanted_free rfl _) (op_value (ixg_run rfl (C.on (j := 0) (by kernel_rfl) rfl rfl) (C.on (j := 1) (by kernel_rfl) rfl rfl) HKL.out) rfl)
  case p3 =>
    intro _ k hk; obtain rfl := List.mem_singleton.1 hk; intro a w C Z
    exact partS_on (wanted_free rfl _) (op_value (load_run rfl (C.on (j := 2) (by kernel_rfl) rfl rfl) (HQ.out w C.below).1) rfl)
  case p4 =>
    intro _ k hk; obtain rfl := List.mem_singleton.1 hk; intro a w C Z
    exact partS_on (wanted_free rfl _) (op_value (rlf_run (k := 1) rfl (by decide) (C.was 7 (by kernel_rfl))) rfl)
  case p5 =>
    intro _ k hk; obtain rfl := List.mem_singleton.1 hk; intro a w C Z
    exact partS_on (wanted_free rfl _) (op_value (int_run rfl (C.on (j := 4) (by kernel_rfl) rfl rfl) (rl_cell (HQ.out w C.below).2.2.1 1 rfl)) rfl)
  case p6 =>
    intro _ k hk; obtain rfl := List.mem_singleton.1 hk; intro a w C Z
    exact partS_on (wanted_free rfl _) (op_value (rspf_all (k := 6) rfl (by decide) (C.was 4 (by kernel_rfl))) rfl)
  case p7 =>
    intro _ k hk; obtain rfl := List.mem_singleton.1 hk; intro a w C Z
    exact partS_on (wanted_free rfl _) (op_value (int_run rfl (C.on (j := 6) (by kernel_rfl) rfl rfl) ((RowAt.cell (HQ.out w C.below).2.1 6).trans rfl)) rfl)
  case p8 =>
    intro _ k hk; obtain rfl := List.mem_singleton.1 hk; intro a w C Z
    exact partS_on (wanted_free rfl _) (op_bin rfl (C.on (j := 5) (by kernel_rfl) rfl rfl) (C.on (j := 7) (by kernel_rfl) rfl rfl) rfl (by simp [go_sem, q1, q1w]) rfl)
  case p9 =>
    intro _ k hk; obtain rfl := List.mem_singleton.1 hk; intro a w C Z
    exact partS_on (wanted_free rfl _) (op_value (rlf_run (k := 2) rfl (by decide) (C.was 7 (by kernel_rfl))) rfl)
  case p10 =>
    intro _ k hk; obtain rfl := List.mem_singleton.1 hk; intro a w C Z
    exact partS_on (wanted_free rfl _) (op_value (int_run rfl (C.on (j := 9) (by kernel_rfl) rfl rfl) (rl_cell (HQ.out w C.below).2.2.1 2 rfl)) rfl)
  case p11 =>
    intro _ k hk; obtain rfl := List.mem_singleton.1 hk; intro a w C Z
    exact partS_on (wanted_free rfl _) (op_bin rfl (C.on (j := 8) (by kernel_rfl) rfl rfl) (C.on (j := 10) (by kernel_rfl) rfl rfl) rfl (by simp [go_sem, q2, q2w]) rfl)
  case p12 =>
    intro _ k hk; obtain rfl := List.mem_singleton.1 hk; intro a w C Z
    exact partS_on (wanted_free rfl _) (op_value (load_run rfl (C.was 4 (by kernel_rfl)) (rsp_loadN (HQ.out w C.below).2.1)) rfl)
  case p13 =>
    intro _ k hk; obtain rfl := List.mem_singleton.1 hk; intro a w C Z
    exact partS_on (wanted_free rfl _) (op_move (.inl rfl) (C.was 1 (by kernel_rfl)))
  case p14 =>
    intro _ k hk; obtain rfl := List.mem_singleton.1 hk; intro a w C Z
    exact partS_on (wanted_free rfl _) (op_value (rlf_run (k := 0) rfl (by decide) (C.was 7 (by kernel_rfl))) rfl)
  case p15 =>
    intro _ k hk; obtain rfl := List.mem_singleton.1 hk; intro a w C Z
    exact partS_on (wanted_free rfl _) (op_value (int_run rfl (C.on (j := 14) (by kernel_rfl) rfl rfl) (rl_cell (HQ.out w C.below).2.2.1 0 rfl)) rfl)
  case p16 =>
    intro _ k hk; obtain rfl := List.mem_singleton.1 hk; intro a w C Z
    exact partS_on (wanted_free rfl _) (op_value (rlf_run (k := 1) rfl (by decide) (C.was 7 (by kernel_rfl))) rfl)
  case p17 =>
    intro _ k hk; obtain rfl := List.mem_singleton.1 hk; intro a w C Z
    exact partS_on (wanted_free rfl _) (op_value (int_run rfl (C.on (j := 16) (by kernel_rfl) rfl rfl) (rl_cell (HQ.out w C.below).2.2.1 1 rfl)) rfl)
  case p18 =>
    intro _ k hk; obtain rfl := List.mem_singleton.1 hk; intro a w C Z
    exact partS_on (wanted_free rfl _) (op_move (.inl rfl) (C.was 2 (by kernel_rfl)))
  case p19 =>
    intro _ k hk; obtain rfl := List.mem_singleton.1 hk; intro a w C Z
    exact partS_on (wanted_free rfl _) (op_value (rlf_run (k := 2) rfl (by decide) (C.was 7 (by kernel_rfl))) rfl)
  case p20 =>
    intro _ k hk; obtain rfl := List.mem_singleton.1 hk; intro a w C Z
    exact partS_on (wanted_free rfl _) (op_value (int_run rfl (C.on (j := 19) (by kernel_rfl) rfl rfl) (rl_cell (HQ.out w C.below).2.2.1 2 rfl)) rfl)
  case p21 =>
    intro _ k hk; obtain rfl := List.mem_singleton.1 hk; intro a w C Z
    exact partS_on (wanted_free rfl _) (op_call6 rfl (reg_enters Tryz.func37 (by kernel_rfl) (by kernel_rfl)) (C.on (j := 12) (by kernel_rfl) rfl rfl) (C.on (j := 13) (by kernel_rfl) rfl rfl) (C.on (j := 15) (by kernel_rfl) rfl rfl) (C.on (j := 17) (by kernel_rfl) rfl rfl) (C.on (j := 18) (by kernel_rfl) rfl rfl) (C.on (j := 20) (by kernel_rfl) rfl rfl) (HQ.out w C.below).2.2.2.1)
  case p22 =>
    intro _ k hk; obtain rfl := List.mem_singleton.1 hk; intro a w C Z
    exact partS_on (wanted_free rfl _) (op_value (ixr_run rfl (C.on (j := 3) (by kernel_rfl) rfl rfl) (C.on (j := 11) (by kernel_rfl) rfl rfl) HX0.out) rfl)
  case t0 =>
    intro o ho a w C A
    cases ho
    have cb : Below w1.heap.size w1 w := C.below
    obtain ⟨w7, hst, hF7, hb7, hz7⟩ := (HQ.out w cb).2.2.2.2
    refine ⟨wanted_free rfl _, stage_store rfl (C.on (j := 22) (by kernel_rfl) rfl rfl) (C.on (j := 21) (by kernel_rfl) rfl rfl) hst trivial hb7 hz7 ?_⟩
    · intro i o2 d hi hd hne hnw h
      have hil := (List.getElem?_eq_some_iff.1 hi).1
      replace hil : i < 24 := hil
      obtain rfl | rfl | rfl | rfl | rfl | rfl | rfl | rfl | rfl | rfl | rfl | rfl | rfl | rfl | rfl | rfl | rfl | rfl | rfl | rfl | rfl | rfl | rfl | rfl : i = 0 ∨ i = 1 ∨ i = 2 ∨ i = 3 ∨ i = 4 ∨ i = 5 ∨ i = 6 ∨ i = 7 ∨ i = 8 ∨ i = 9 ∨ i = 10 ∨ i = 11 ∨ i = 12 ∨ i = 13 ∨ i = 14 ∨ i = 15 ∨ i = 16 ∨ i = 17 ∨ i = 18 ∨ i = 19 ∨ i = 20 ∨ i = 21 ∨ i = 22 ∨ i = 23 := by omega
      · exact h
      · exact h
      · exact h
      · exact h
      · exact h
      · exact h
      · exact h
      · exact h
      · exact h
      · exact h
      · exact h
      · exact h
      · exact h
      · exact h
      · exact h
      · exact h
      · exact h
      · exact h
      · exact h
      · exact h
      · exact h
      · exact h
      · exact ⟨h, hF7⟩
      · exact absurd rfl hne
  case fin =>
    rintro w3 _ _ rfl _ rfl _ rfl _ rfl _ rfl _ rfl _ rfl _ rfl _ rfl _ rfl _ rfl _ rfl _ rfl _ rfl _ rfl _ rfl _ rfl _ rfl _ rfl _ rfl _ rfl _ rfl _ ⟨rfl, hFF0⟩ _ _
    simp only [Fin, setAt, Exit.then, List.setIfInBounds_toArray, List.set_cons_succ, List.set_cons_zero]
    obtain ⟨hD3, hX3, hZ3, hB3⟩ := HFE0.out _ hFF0
    obtain ⟨w4, hs4, hx4, hk4⟩ := rl_setH hX3 false
    obtain ⟨w5, hs5, hx5, hk5⟩ := rl_setI hx4 ((i + 1 : Nat) : Int)
    have hk45 : Kept (fun j => j = T1) w3 w5 := hk4.trans hk5 fun _ _ h => h
    have HTn := HTT.out
    have hnT : N ≤ T0 := HNT.out
    have hnw : N ≤ w.heap.size := by omega
    have HZ5 := Lib.hid (RowAt.kept hZ3 hk45 (by omega))
    have hd35 : DocAt w5 N (.slice (some ⟨o, 0, none⟩) l kk) c gs (stepL a t l b c g L p s k i) := ⟨own_kept hD3.own hk45 fun y hv hm => by subst hm; exact own_unlike hD3.own hX3 (by rfl) hv, hD3.ge, hD3.nd, fun y hy => RowAt.kept (hD3.blk y hy) hk45 (RowAt.unlike (hD3.blk y hy) hX3 (by rfl)), hD3.ok, hD3.len⟩
    have HD5 := Lib.hid hd35
    have HB5 : Hid (Kept (fun j => j = gk) w w5) := Lib.hid (hB3.trans hk45 fun y hy e => by omega)
    have HX5 := Lib.hid hx5
    have HS4 := Lib.hid hs4
    have HS5 := Lib.hid hs5
    have k2 : w4.cell? ⟨T1, 2, none⟩ = some (.int .i64 (i : Int)) := rl_cell hx4 2 rfl
    have hI := HI.out
    have HT5 : Hid (T1 < w5.heap.size) := Lib.hid (RowAt.lt hx5)
    clear HFS0 HFE0 HQ hFF0 hnw hD3 hX3 hZ3 hB3 hs4 hx4 hk4 hs5 hx5 hk5 hk45 hd35 q1 q2 q1w q2w F HTn hnT
    go_upto_region 14 with (first
      | refine wpList_store_of rfl _ _ _ rfl ⟨T1, 3, none⟩ _ rfl rfl HS4.out ?_
      | refine wpList_store_of rfl _ _ _ rfl ⟨T1, 2, none⟩ _ rfl rfl HS5.out ?_)
    clear k2 HS4 HS5
    simp only [Act.put]
    have HRow := HX5
    have HZero := HZ5
    have HTS : Hid (T0 ≤ w5.heap.size ∧ T0 ≤ T2) := Lib.hid ⟨by have := HT5.out; have := HTT.out; omega, by have := HTT.out; omega⟩
    
    have HR : Hid (∀ u, Below w5.heap.size w5 u → RowAt u T1 57 (rlc p s (i + 1 : Nat) false false false) ∧ RowAt u T2 57 (rlc 0 0 0 false false false)) := Lib.hid fun u hu => ⟨RowAt.step HRow.out hu, RowAt.step HZero.out hu⟩
    obtain ⟨F, hF⟩ : ∃ F : World → Prop, F = fun u => RowAt u T2 57 (rlc p s (i + 1 : Nat) false false false) ∧ Kept (fun j => j = T2) w5 u := ⟨_, rfl⟩
    have HFS : Hid (∀ u u', F u → Below u.heap.size u u' → F u') := Lib.hid fun u u' hu hb => by
      subst hF
      exact ⟨RowAt.step hu.1 hb, hu.2.trans (Kept.of_below (M := fun _ => False) hb) fun _ _ h => h.elim⟩
    have HFE : Hid (∀ u, F u → RowAt u T2 57 (rlc p s (i + 1 : Nat) false false false) ∧ Kept (fun j => j = T2) w5 u) := Lib.hid fun u hu => by subst hF; exact hu
    have HF : Hid (∀ u, Below w5.heap.size w5 u → F (u.setRow T2 (rlc p s (i + 1 : Nat) false false false))) := Lib.hid fun u hu => by
      subst hF
      exact ⟨RowAt.setRow (HR.out u hu).2 _, (Kept.of_below (M := fun j => j = T2) hu).trans (kept_row _ _ _) fun _ _ h => h⟩
    clear hF HRow HZero
    refine wp_region_stage (T0) [3] [] [[0], [0], [0], [], [1], [1]] [[Is (.slice (some ⟨o, 0, none⟩) l kk), Is (rlv p s (i + 1 : Nat) false false false), Is (.slice (some ⟨o, 0, none⟩) l kk), Free, Is (.int .i64 2), Is (.int .i64 0)], [Is (.slice (some ⟨o, 0, none⟩) l kk), IsF (rlv p s (i + 1 : Nat) false false false) F, Is (.slice (some ⟨o, 0, none⟩) l kk), Free, Is (.int .i64 2), Is (.int .i64 0)]] [Is (.slice (some ⟨o, 0, none⟩) l kk), IsF (rlv p s (i + 1 : Nat) false false false) F, Is (.slice (some ⟨o, 0, none⟩) l kk), Free, Is (.int .i64 2), Is (.int .i64 0)] HTS.out.1 (by kernel_rfl) (by kernel_rfl) rfl rfl ⟨⟨stable_is _, stable_is _, stable_is _, stable_free, stable_is _, stable_is _, trivial⟩, ⟨stable_is _, stable_isf _ HFS.out, stable_is _, stable_free, stable_is _, stable_is _, trivial⟩, trivial⟩ (by intro n hn o ho hd w; simp only [List.mem_cons, List.not_mem_nil, or_false] at hn; subst hn; first | trivial | (cases ho; cases hd)) rfl ⟨?p0, ?p1, ?p2, fun h => absurd (by simp) h, ?p4, ?p5, trivial⟩ ⟨?t0, trivial⟩ (by decide) ?fin
    case p0 =>
      intro _ k hk; obtain rfl := List.mem_singleton.1 hk; intro a w C Z
      exact partS_on (wanted_free rfl _) (op_move (.inl rfl) (C.was 1 (by kernel_rfl)))
    case p1 =>
      intro _ k hk; obtain rfl := List.mem_singleton.1 hk; intro a w C Z
      exact partS_on (wanted_free rfl _) (op_value (load_run rfl (C.was 7 (by kernel_rfl)) (rl_load (HR.out w C.below).1)) rfl)
    case p2 =>
      intro _ k hk; obtain rfl := List.mem_singleton.1 hk; intro a w C Z
      exact partS_on (wanted_free rfl _) (op_move (.inr rfl) (C.on (j := 0) (by kernel_rfl) rfl rfl))
    case p4 =>
      intro _ k hk; obtain rfl := List.mem_singleton.1 hk; intro a w C Z
      exact partS_on (wanted_free rfl _) (op_move (.inr rfl) rfl)
    case p5 =>
      intro _ k hk; obtain rfl := List.mem_singleton.1 hk; intro a w C Z
      exact partS_on (wanted_free rfl _) (op_move (.inr rfl) rfl)
    case t0 =>
      intro o ho a w C A
      cases ho
      have hr := (HR.out w C.below).2
      refine ⟨wanted_free rfl _, stage_store rfl (C.was 9 (by kernel_rfl)) (C.on (j := 1) (by kernel_rfl) rfl rfl) (rl_store hr) trivial (below_setRow (C.below.mono HTS.out.1) HTS.out.2 _) (Nat.le_of_eq (setRow_size _ _ _).symm) ?_⟩
      · intro i o2 d hi hd hne hnw h
        have hil := (List.getElem?_eq_some_iff.1 hi).1
        replace hil : i < 6 := hil
        obtain rfl | rfl | rfl | rfl | rfl | rfl : i = 0 ∨ i = 1 ∨ i = 2 ∨ i = 3 ∨ i = 4 ∨ i = 5 := by omega
        · exact h
        · exact ⟨h, HF.out w C.below⟩
        · exact h
        · exact absurd rfl hne
        · exact absurd hnw (by rw [show waits _ 4 3 = true from by kernel_rfl]; decide)
        · exact absurd hnw (by rw [show waits _ 5 3 = true from by kernel_rfl]; decide)
    case fin =>
      rintro wF hbF _ rfl _ ⟨rfl, hFF⟩ _ rfl _ _ _ rfl _ rfl
      simp only [Fin, setAt, Exit.then, List.setIfInBounds_toArray, List.set_cons_succ, List.set_cons_zero]
      obtain ⟨h1, h2⟩ := HFE.out _ hFF
      go_wp2
      refine bodyPost_ret (results_ref rfl _ (p := 9) rfl h1 Tryz.underlying57 rfl rl_size) rfl ⟨rfl, ?_, ?_⟩
      · have hT := HTT.out
        have hD5 := HD5.out
        have hnT := HNT.out
        exact hD5.other h2 HZ5.out
      · have hT := HTT.out
        rw [HGK.out]
        exact HB5.out.trans h2 fun y hy e => by omega
end Go.Proofs.YtfoodaobiknihaaGreatDoor
