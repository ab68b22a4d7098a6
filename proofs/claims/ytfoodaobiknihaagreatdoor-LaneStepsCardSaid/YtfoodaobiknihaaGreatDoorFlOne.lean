/- The document's One: a block filled, by its contract. Conditions: those typed. -/
import Derived.Test.YtfoodaobiknihaaGreatDoorFlS
import Derived.Test.YtfoodaobiknihaaGreatDoorPc
namespace Go.Proofs.YtfoodaobiknihaaGreatDoor
set_option maxRecDepth 50000
open Go.RowKit Bb Bn
theorem xB_one {b : List Nat} (h : okb b) : xB [b] = b := by
  unfold xB
  rw [show xw [b] = fun k => b.getD k 0 from funext fun k => by simp [xw]]
  exact tb_self b h.1
theorem blk_new {w : World} {ev : Operand → Value} {o : Oper} (hop : o.op = .alloc 83) : (execOp ev o).run Tryz.prog w = .ok (.value (.pointer (some ⟨w.heap.size, 0, none⟩))) (w.alloc (.cells (wq zb) 83)) := by
  rw [← show Tryz.zeroCells83 = wq zb by kernel_rfl]
  simp [execOp, hop, go_sem]
theorem blk_store {w : World} {b : Nat} {x y : List Nat} (h : RowAt w b 83 (wq x)) (hx : y.length = 128) (hy : x.length = 128 := by first | exact zb_ok.1 | assumption) : (storeVar 83 ⟨b, 0, none⟩ (.agg (wq y))).run Tryz.prog w = .ok () (w.setRow b (wq y)) :=
  h.store (C' := wq y) (by rw [wq_size, hx]; exact b_size) (by rw [wq_size, wq_size, hx, hy]) (wq_one _)
theorem doc_load {w : World} {N c : Nat} {v : Value} {gs : List Nat} {L : List (List Nat)} (h : DocAt w N v c gs L) {i y : Nat} (hi : i < gs.length) (hy : y < c) : (loadVar 83 ⟨gs.getD i 0, y * 128, none⟩).run Tryz.prog w = .ok (.agg (wq (L.getD (i * c + y) []))) w := by
  have hl := lane_length h.len hi
  have hx := (h.blk i hi).load (lane_ok h.ok) y (by omega)
  rwa [lane_at hy] at hx
theorem doc_cell {w : World} {N c : Nat} {v : Value} {gs : List Nat} {L : List (List Nat)} (h : DocAt w N v c gs L) {i y : Nat} (hi : i < gs.length) (hy : y < c) : w.cell? ⟨gs.getD i 0, y * 128, none⟩ = some (.int .u64 (((L.getD (i * c + y) []).getD 0 0 : Nat) : Int)) := by
  have hl := lane_length h.len hi
  have hx := (h.blk i hi).at_ (lane_ok h.ok) y (by omega) 0 (by decide)
  rwa [lane_at hy] at hx
theorem doc_row {w : World} {N o n k c : Nat} {gs : List Nat} {L : List (List Nat)} (h : DocAt w N (.slice (some ⟨o, 0, none⟩) n k) c gs L) {i : Nat} (hi : i < gs.length) : (loadVar 91 ⟨o, i, none⟩).run Tryz.prog w = .ok (.slice (some ⟨gs.getD i 0, 0, none⟩) c c) w := by
  have hr := h.row hi
  simp [hr, go_sem]
theorem rof_word {a t l b c g p s k i : Nat} (S : Sh a t l b c g) (R : Fl t l c g p s k i) (m z W : Nat) (hW : W < 18446744073709551616) (w : World) :
    Calls Tryz.prog 59 #[spv a t l m b c g z, .int .i64 (p : Int), .int .i64 (s : Int), .int .i64 (k : Int), .int .i64 (i : Int), .int .u32 ((W % 4294967296 : Nat) : Int), .int .u32 ((W / 4294967296 : Nat) : Int)] w fun e w' => e = .returned (.tuple #[.int .i64 (ofL l p s k W : Int), .int .i64 (ofC l c g p s k i W : Int)]) ∧ Below w.heap.size w w' := by
  have C := chosen_of S R W
  have R' := R.ref S
  have hcm := S.cm
  have hcount := C.count
  obtain ⟨A, hA⟩ : ∃ A, ofA l c g p s k i W = A := ⟨_, rfl⟩
  have h1 := C.a1
  have h2 := C.ac
  rw [hA] at hcount h1 h2
  have hpi : piN A (W % 4294967296) < A := pi_lt h1
  refine rof_walk a t l m b c g z p s k i (W % 4294967296) (W / 4294967296) (ofL l p s k W) A (piN A (W % 4294967296)) (ofC l c g p s k i W) (decide (ofL l p s k W = k)) S.l1 (by omega) (Nat.mod_lt _ (by decide)) h1 (by omega) rfl rfl rfl (coL c g p s i (decide (ofL l p s k W = k))) (co_count _ A hcount) ?_ (fun w => R'.cols S.cm _ A hcount (fun hp hs => .inl (by unfold ofL lnN; rw [if_pos ⟨hp, hs⟩]; simp)) a b m z w) w
  rw [R'.column _ A _ hcount hpi]
  unfold ofC
  rw [hA]
set_option maxHeartbeats 12800000 in
theorem rone_any {a t l m b c g z p s k i N : Nat} {w : World} {v : Value} {gs : List Nat} {L : List (List Nat)} (S : Sh a t l b c g) (R : Fl t l c g p s k i) (hD : DocAt w N v c gs L) (hgl : gs.length = l) :
    Calls Tryz.prog 37 #[spv a t l m b c g z, v, .int .i64 (p : Int), .int .i64 (s : Int), .int .i64 (k : Int), .int .i64 (i : Int)] w fun e w' => e = .returned (.agg (wq (newB a t l b c g L p s k i))) ∧ Below w.heap.size w w' := by
  have hLl : L.length = l * c := by rw [hD.len, hgl]
  have hcol := R.col S
  have hcm := S.cm
  have hgm : g ≤ 400 := by have := S.cg; omega
  have hkl := R.kl
  have hs3 := R.s3
  have hlm := S.lm
  have hig := R.hi
  have hg2 := S.g2
  obtain ⟨o, kk, rfl⟩ := hD.head (by omega)
  rw [hgl] at hD ⊢
  have hsgm : s * g ≤ 3 * g := Nat.mul_le_mul_right _ hs3
  obtain ⟨sg, hsg⟩ : ∃ sg, s * g = sg := ⟨_, rfl⟩
  obtain ⟨x0, hx0⟩ : ∃ x0, sg + i = x0 := ⟨_, rfl⟩
  rw [hsg] at hsgm
  rw [hsg, hx0] at hcol
  obtain ⟨y0, hy0⟩ : ∃ y0, bfN c x0 = y0 := ⟨_, rfl⟩
  have hy0c : y0 < c := by rw [← hy0]; exact bfN_lt hcol
  obtain ⟨W, hW⟩ : ∃ W, numW a t b c g L p s k i = W := ⟨_, rfl⟩
  have hW64 : W < 18446744073709551616 := by rw [← hW]; exact numW_lt S R hLl hD.ok
  have hch := chosen_of S R W
  obtain ⟨r0, hr0⟩ : ∃ r0, ofL l p s k W = r0 := ⟨_, rfl⟩
  obtain ⟨c0, hc0⟩ : ∃ c0, ofC l c g p s k i W = c0 := ⟨_, rfl⟩
  have hrl := hch.lane
  have hcc := hch.col
  have COf := Lib.hid fun w => rof_word S R m z W hW64 w
  rw [hr0] at hrl
  rw [hc0] at hcc
  rw [hr0, hc0] at COf
  obtain ⟨J, hJ⟩ : ∃ J, W % 4294967296 = J := ⟨_, rfl⟩
  obtain ⟨K, hK⟩ : ∃ K, W / 4294967296 = K := ⟨_, rfl⟩
  rw [hJ, hK] at COf
  obtain ⟨gk, hgk⟩ : ∃ gk, gs.getD k 0 = gk := ⟨_, rfl⟩
  obtain ⟨gr, hgr⟩ : ∃ gr, gs.getD r0 0 = gr := ⟨_, rfl⟩
  obtain ⟨xb, hxb⟩ : ∃ xb, L.getD (k * c + y0) [] = xb := ⟨_, rfl⟩
  obtain ⟨yb, hyb⟩ : ∃ yb, L.getD (r0 * c + c0) [] = yb := ⟨_, rfl⟩
  obtain ⟨ob0, hob⟩ : ∃ ob0, L.getD (k * c + x0) [] = ob0 := ⟨_, rfl⟩
  have hxo : okb xb := by rw [← hxb]; exact block_ok hD.ok _ (by rw [hLl]; exact place_lt S hkl hy0c)
  have hyo : okb yb := by rw [← hyb]; exact block_ok hD.ok _ (by rw [hLl]; exact place_lt S hrl hcc)
  have HOO : Hid (okb ob0) := Lib.hid (by rw [← hob]; exact block_ok hD.ok _ (by rw [hLl]; exact place_lt S hkl hcol))
  obtain ⟨mx, hmx⟩ : ∃ mx, mix xb yb = mx := ⟨_, rfl⟩
  have HMO : Hid (okb mx) := Lib.hid (by rw [← hmx]; exact mix_ok hxo hyo)
  have CMx : Hid (∀ w, Calls Tryz.prog 60 #[.agg (wq xb), .agg (wq yb)] w fun e w' => e = .returned (.agg (wq mx)) ∧ Below w.heap.size w w') := Lib.hid fun w => by rw [← hmx]; exact rmix_any hxo hyo w
  have HN0 : Hid (newB a t l b c g L p s k i = xB (mx :: if p = 0 then [] else [ob0])) := Lib.hid (by unfold newB newW; rw [hW, hr0, hc0, hsg, hx0, hy0, hxb, hyb, hob, hmx])
  have HKL := Lib.hid hkl
  have HRL := Lib.hid hrl
  have HY0 := Lib.hid hy0c
  have HC0 := Lib.hid hcc
  have HX0 := Lib.hid hcol
  have HDD : Hid (∀ u, Below w.heap.size w u → (loadVar 91 ⟨o, k, none⟩).run Tryz.prog u = .ok (.slice (some ⟨gk, 0, none⟩) c c) u ∧ (loadVar 83 ⟨gk, y0 * 128, none⟩).run Tryz.prog u = .ok (.agg (wq xb)) u ∧ (loadVar 91 ⟨o, r0, none⟩).run Tryz.prog u = .ok (.slice (some ⟨gr, 0, none⟩) c c) u ∧ (loadVar 83 ⟨gr, c0 * 128, none⟩).run Tryz.prog u = .ok (.agg (wq yb)) u ∧ (loadVar 83 ⟨gk, x0 * 128, none⟩).run Tryz.prog u = .ok (.agg (wq ob0)) u ∧
      u.cell? ⟨o, k, none⟩ = some (.slice (some ⟨gk, 0, none⟩) c c) ∧ u.cell? ⟨gk, y0 * 128, none⟩ = some (.int .u64 ((xb.getD 0 0 : Nat) : Int))) := Lib.hid fun u hu => by
    have hd := hD.step hu
    have hk' : k < gs.length := by omega
    have hr' : r0 < gs.length := by omega
    have e1 := doc_row hd hk'
    have e2 := doc_load hd hk' hy0c
    have e3 := doc_row hd hr'
    have e4 := doc_load hd hr' hcc
    have e5 := doc_load hd hk' hcol
    have e6 := hd.row hk'
    have e7 := doc_cell hd hk' hy0c
    rw [hgk] at e1 e2 e5 e6 e7
    rw [hgr] at e3 e4
    rw [hxb] at e2 e7
    rw [hyb] at e4
    rw [hob] at e5
    exact ⟨e1, e2, e3, e4, e5, e6, e7⟩
  have CFr := Lib.hid fun w => rfree_any S.ha t l m b c g z (p : Int) (s : Int) w
  have hab : a ≤ 4294967295 := by rcases S.ha with h | h | h <;> omega
  have CWd := Lib.hid fun w => rword_any a t l m b c g z hab (p : Int) (s : Int) (k : Int) i (i / 128) (i % 128) (by omega) rfl rfl w
  have hWf : freeB a p s = true → (addL p k s b t ((a : Int) - 1) (((i / 128 : Nat) : Int) + 1)).getD (i % 128) 0 = W := fun hf => by
    rw [← hW]; unfold numW; rw [if_pos hf, Int.natCast_add]; rfl
  have hWn : freeB a p s = false → xb.getD 0 0 = W := fun hf => by
    rw [← hW]; unfold numW; rw [hf, hsg, hx0, hy0, hxb]; rfl
  have q1 : (s : Int) * (g : Int) = (sg : Int) := by rw [← hsg]; simp
  have q2 : (sg : Int) + (i : Int) = (x0 : Int) := by omega
  obtain ⟨xc, hxc⟩ : ∃ xc, x0 + c - 1 = xc := ⟨_, rfl⟩
  obtain ⟨xd, hxd⟩ : ∃ xd, x0 + c = xd := ⟨_, rfl⟩
  have q3 : (x0 : Int) + (c : Int) = (xd : Int) := by omega
  have q4 : (xd : Int) - 1 = (xc : Int) := by omega
  have q5 : (xc : Int) % (c : Int) = (y0 : Int) := by
    have h := bfN_mod hcol
    rw [hxc, hy0] at h
    rw [← h]; simp
  have q6 : Int.tmod (xc : Int) (c : Int) = (y0 : Int) := by rw [Int.tmod_eq_emod_of_nonneg (by omega)]; exact q5
  have q7 : ¬ (c : Int) = 0 := by omega
  have q7b : ((c : Int) == 0) = false := by simp; omega
  have q7c : ¬ c = 0 := by omega
  have q8 : (W : Int) % 4294967296 = (J : Int) := by omega
  have q9 : (W : Int) / 4294967296 = (K : Int) := by omega
  have q10 : Int.tmod (W : Int) 4294967296 = (J : Int) := by rw [Int.tmod_eq_emod_of_nonneg (by omega)]; exact q8
  have q11 : Int.tdiv (W : Int) 4294967296 = (K : Int) := by rw [Int.tdiv_eq_ediv_of_nonneg (by omega)]; exact q9
  have q12 : IntKind.u32.wrap (J : Int) = (J : Int) := by rw [IntKind.wrap_u32]; omega
  have q13 : IntKind.u32.wrap (K : Int) = (K : Int) := by rw [IntKind.wrap_u32]; omega
  have q14 : IntKind.u64.wrap (J : Int) = (J : Int) := by rw [IntKind.wrap_u64]; omega
  have q15 : IntKind.u64.wrap (K : Int) = (K : Int) := by rw [IntKind.wrap_u64]; omega
  have hk0 : (0 : Int) ≤ (k : Int) := by omega
  have hk1 : (k : Int) < (l : Int) := by omega
  have hy1 : (0 : Int) ≤ (y0 : Int) := by omega
  have hy2 : (y0 : Int) < (c : Int) := by omega
  have hx0b : x0 ≤ 400 := by omega
  have hxdb : xd ≤ 800 := by omega
  have hxcb : xc ≤ 800 := by omega
  have hsgb : sg ≤ 1200 := by omega
  obtain ⟨w1, e1⟩ : ∃ w1, w1 = (w.alloc (.cells (spc a t l m b c g z) 48)).alloc (.cells (wq zb) 83) := ⟨_, rfl⟩
  have b1 : Below w.heap.size w w1 := by rw [e1]; exact two_box _ _ _
  have HS1 : Hid (RowAt w1 w.heap.size 48 (spc a t l m b c g z)) := Lib.hid (by rw [e1]; exact (RowAt.new _ _ _).alloc _)
  have HR1 : Hid (RowAt w1 (w.heap.size + 1) 83 (wq zb)) := Lib.hid (by
    rw [e1]
    have h := RowAt.new (w.alloc (.cells (spc a t l m b c g z) 48)) 83 (wq zb)
    rwa [World.size_alloc] at h)
  have k6 : w1.cell? ⟨w.heap.size, 6, none⟩ = some (.int .i64 (g : Int)) := (HS1.out.cell 6).trans rfl
  have k5 : w1.cell? ⟨w.heap.size, 5, none⟩ = some (.int .i64 (c : Int)) := (HS1.out.cell 5).trans rfl
  have k8 := (HDD.out w1 b1).2.2.2.2.2.1
  have k9 := (HDD.out w1 b1).2.2.2.2.2.2
  obtain ⟨W0, hW0⟩ : ∃ W0, xb.getD 0 0 = W0 := ⟨_, rfl⟩
  rw [hW0] at k9 hWn
  have hz := zero_b
  have HB1 := Lib.hid b1
  have E1 := Lib.hid e1
  have HWF := Lib.hid (And.intro hWf hWn)
  clear hD hLl hcol hs3 hig hsgm hsg hx0 hy0 hW hch hr0 hc0 hrl hcc hJ hK hgk hgr hxb hyb hob hxo hyo hmx hWf hWn hxc hxd b1 e1 hW0 hy0c hgl
  go_enter Tryz.func37, Tryz.ntmps37
  go_upto_region 1 with fail
  rw [← E1.out]
  clear E1
  generalize hS6 : w.heap.size = S6 at *
  have HS6 := Lib.hid hS6
  clear hS6
  go_upto_region 4 with (first
    | refine wpList_value_want rfl _ (ixg_run rfl rfl rfl HKL.out) ?_
    | refine wpList_value_want rfl _ (ixr_run rfl rfl rfl HY0.out) ?_)
  clear k5 k6 k8 k9 hk0 hk1 hy1 hy2 q1 q2 q3 q4 q5 q6 q7 q7b q7c
  go_wp2_with (refine wpList_load_want rfl 48 _ rfl _ _ rfl (rsp_loadN HS1.out) ?_)
  refine (CFr.out _).mono ?_
  rintro e w2 ⟨rfl, hb⟩
  have HS2 := Lib.hid (RowAt.step HS1.out hb)
  have HR2 := Lib.hid (RowAt.step HR1.out hb)
  have HB2 := Lib.hid (HB1.out.trans (hb.mono (HS6.out ▸ HB1.out.size)))
  clear HS1 HR1 HB1 hb CFr
  go_upto_if 44 with fail
  go_cut [15] from 44 (fun v15 wx => v15 = .int .u64 (W : Int) ∧ Hid (Below w2.heap.size w2 wx))
  case first =>
    cases hfr : freeB a p s with
    | true =>
      have hW2 := HWF.out.1 hfr
      have CW := Lib.hid CWd.out
      rw [hW2] at CW
      go_wp2_with (refine wpList_load_want rfl 48 _ rfl _ _ rfl (rsp_loadN HS2.out) ?_)
      refine (CW.out _).mono ?_
      rintro e w3 ⟨rfl, hb⟩
      have HB3 := Lib.hid hb
      clear hb CW
      go_wp2
      go_meet
      case rel => exact ⟨rfl, HB3⟩
    | false =>
      have hW2 := HWF.out.2 hfr
      subst hW2
      go_wp2
      go_meet
      case rel => exact ⟨rfl, Lib.hid (Below.refl _ _)⟩
  case rest =>
    obtain ⟨rfl, HBc⟩ := hcut
    have HS3 := Lib.hid (RowAt.step HS2.out HBc.out)
    have HR3 := Lib.hid (RowAt.step HR2.out HBc.out)
    have HB3 := Lib.hid (HB2.out.trans (HBc.out.mono (HS6.out ▸ HB2.out.size)))
    clear HS2 HR2 HB2 HBc HWF CWd
    go_wp2_with (refine wpList_load_want rfl 48 _ rfl _ _ rfl (rsp_loadN HS3.out) ?_)
    refine (COf.out _).mono ?_
    rintro e w5 ⟨rfl, hb⟩
    have HR5 := Lib.hid (RowAt.step HR3.out hb)
    have HB5 := Lib.hid (HB3.out.trans (hb.mono (HS6.out ▸ HB3.out.size)))
    have HQ : Hid (∀ u, Below w5.heap.size w5 u → (loadVar 91 ⟨o, k, none⟩).run Tryz.prog u = .ok (.slice (some ⟨gk, 0, none⟩) c c) u ∧ (loadVar 83 ⟨gk, y0 * 128, none⟩).run Tryz.prog u = .ok (.agg (wq xb)) u ∧ (loadVar 91 ⟨o, r0, none⟩).run Tryz.prog u = .ok (.slice (some ⟨gr, 0, none⟩) c c) u ∧ (loadVar 83 ⟨gr, c0 * 128, none⟩).run Tryz.prog u = .ok (.agg (wq yb)) u) := Lib.hid fun u hu => by
      have h := HDD.out u (HB5.out.trans (hu.mono (HS6.out ▸ HB5.out.size)))
      exact ⟨h.1, h.2.1, h.2.2.1, h.2.2.2.1⟩
    clear HS3 HR3 HB3 COf hb q8 q9 q10 q11 q12 q13 q14 q15 hxdb hxcb
    go_upto_region 7 with fail
    refine wp_region_stage (w5.heap.size) [16] [15] [[0], [0], [0], [0], [0], [0], [0], [0], [0], [0], [0], [0], [0], [0], [0], [0], []] [[Is (.slice (some ⟨o, 0, none⟩) l kk), Is (.int .i64 (k : Int)), Is (.pointer (some ⟨o, k, none⟩)), Is (.slice (some ⟨gk, 0, none⟩) c c), Is (.int .i64 (y0 : Int)), Is (.pointer (some ⟨gk, y0 * 128, none⟩)), Is (.agg (wq xb)), Is (.slice (some ⟨o, 0, none⟩) l kk), Is (.int .i64 (r0 : Int)), Is (.pointer (some ⟨o, r0, none⟩)), Is (.slice (some ⟨gr, 0, none⟩) c c), Is (.int .i64 (c0 : Int)), Is (.pointer (some ⟨gr, c0 * 128, none⟩)), Is (.agg (wq yb)), Is (.agg (wq mx)), NewAt w5.heap.size 83 (wq zb), Free], [Is (.slice (some ⟨o, 0, none⟩) l kk), Is (.int .i64 (k : Int)), Is (.pointer (some ⟨o, k, none⟩)), Is (.slice (some ⟨gk, 0, none⟩) c c), Is (.int .i64 (y0 : Int)), Is (.pointer (some ⟨gk, y0 * 128, none⟩)), Is (.agg (wq xb)), Is (.slice (some ⟨o, 0, none⟩) l kk), Is (.int .i64 (r0 : Int)), Is (.pointer (some ⟨o, r0, none⟩)), Is (.slice (some ⟨gr, 0, none⟩) c c), Is (.int .i64 (c0 : Int)), Is (.pointer (some ⟨gr, c0 * 128, none⟩)), Is (.agg (wq yb)), Is (.agg (wq mx)), NewAt w5.heap.size 83 (wq mx), Free]] [Is (.slice (some ⟨o, 0, none⟩) l kk), Is (.int .i64 (k : Int)), Is (.pointer (some ⟨o, k, none⟩)), Is (.slice (some ⟨gk, 0, none⟩) c c), Is (.int .i64 (y0 : Int)), Is (.pointer (some ⟨gk, y0 * 128, none⟩)), Is (.agg (wq xb)), Is (.slice (some ⟨o, 0, none⟩) l kk), Is (.int .i64 (r0 : Int)), Is (.pointer (some ⟨o, r0, none⟩)), Is (.slice (some ⟨gr, 0, none⟩) c c), Is (.int .i64 (c0 : Int)), Is (.pointer (some ⟨gr, c0 * 128, none⟩)), Is (.agg (wq yb)), Is (.agg (wq mx)), NewAt w5.heap.size 83 (wq mx), Free] (Nat.le_refl _) (by kernel_rfl) (by kernel_rfl) rfl rfl ⟨⟨stable_is _, stable_is _, stable_is _, stable_is _, stable_is _, stable_is _, stable_is _, stable_is _, stable_is _, stable_is _, stable_is _, stable_is _, stable_is _, stable_is _, stable_is _, stable_newat _ _ _, stable_free, trivial⟩, ⟨stable_is _, stable_is _, stable_is _, stable_is _, stable_is _, stable_is _, stable_is _, stable_is _, stable_is _, stable_is _, stable_is _, stable_is _, stable_is _, stable_is _, stable_is _, stable_newat _ _ _, stable_free, trivial⟩, trivial⟩ (by intro n hn o ho hd w; simp only [List.mem_cons, List.not_mem_nil, or_false] at hn; subst hn; first | trivial | (cases ho; cases hd)) rfl ⟨?p0, ?p1, ?p2, ?p3, ?p4, ?p5, ?p6, ?p7, ?p8, ?p9, ?p10, ?p11, ?p12, ?p13, ?p14, ?p15, fun h => absurd (by simp) h, trivial⟩ ⟨?t0, trivial⟩ (by decide) ?fin
    case p0 =>
      intro _ k hk; obtain rfl := List.mem_singleton.1 hk; intro a w C Z
      exact partS_on (wanted_free rfl _) (op_move (.inl rfl) (C.was 1 (by kernel_rfl)))
    case p1 =>
      intro _ k hk; obtain rfl := List.mem_singleton.1 hk; intro a w C Z
      exact partS_on (wanted_free rfl _) (op_move (.inl rfl) (C.was 4 (by kernel_rfl)))
    case p2 =>
      intro _ k hk; obtain rfl := List.mem_singleton.1 hk; intro a w C Z
      exact partS_on (wanted_free rfl _) (op_value (ixg_run rfl (C.on (j := 0) (by kernel_rfl) rfl rfl) (C.on (j := 1) (by kernel_rfl) rfl rfl) HKL.out) rfl)
    case p3 =>
      intro _ k hk; obtain rfl := List.mem_singleton.1 hk; intro a w C Z
      exact partS_on (wanted_free rfl _) (op_value (load_run rfl (C.on (j := 2) (by kernel_rfl) rfl rfl) (HQ.out w C.below).1) rfl)
    case p4 =>
      intro _ k hk; obtain rfl := List.mem_singleton.1 hk; intro a w C Z
      exact partS_on (wanted_free rfl _) (op_move (.inl rfl) (C.was 14 (by kernel_rfl)))
    case p5 =>
      intro _ k hk; obtain rfl := List.mem_singleton.1 hk; intro a w C Z
      exact partS_on (wanted_free rfl _) (op_value (ixr_run rfl (C.on (j := 3) (by kernel_rfl) rfl rfl) (C.on (j := 4) (by kernel_rfl) rfl rfl) HY0.out) rfl)
    case p6 =>
      intro _ k hk; obtain rfl := List.mem_singleton.1 hk; intro a w C Z
      exact partS_on (wanted_free rfl _) (op_value (load_run rfl (C.on (j := 5) (by kernel_rfl) rfl rfl) (HQ.out w C.below).2.1) rfl)
    case p7 =>
      intro _ k hk; obtain rfl := List.mem_singleton.1 hk; intro a w C Z
      exact partS_on (wanted_free rfl _) (op_move (.inl rfl) (C.was 1 (by kernel_rfl)))
    case p8 =>
      intro _ k hk; obtain rfl := List.mem_singleton.1 hk; intro a w C Z
      exact partS_on (wanted_free rfl _) (op_move (.inl rfl) (C.was 16 (by kernel_rfl)))
    case p9 =>
      intro _ k hk; obtain rfl := List.mem_singleton.1 hk; intro a w C Z
      exact partS_on (wanted_free rfl _) (op_value (ixg_run rfl (C.on (j := 7) (by kernel_rfl) rfl rfl) (C.on (j := 8) (by kernel_rfl) rfl rfl) HRL.out) rfl)
    case p10 =>
      intro _ k hk; obtain rfl := List.mem_singleton.1 hk; intro a w C Z
      exact partS_on (wanted_free rfl _) (op_value (load_run rfl (C.on (j := 9) (by kernel_rfl) rfl rfl) (HQ.out w C.below).2.2.1) rfl)
    case p11 =>
      intro _ k hk; obtain rfl := List.mem_singleton.1 hk; intro a w C Z
      exact partS_on (wanted_free rfl _) (op_move (.inl rfl) (C.was 17 (by kernel_rfl)))
    case p12 =>
      intro _ k hk; obtain rfl := List.mem_singleton.1 hk; intro a w C Z
      exact partS_on (wanted_free rfl _) (op_value (ixr_run rfl (C.on (j := 10) (by kernel_rfl) rfl rfl) (C.on (j := 11) (by kernel_rfl) rfl rfl) HC0.out) rfl)
    case p13 =>
      intro _ k hk; obtain rfl := List.mem_singleton.1 hk; intro a w C Z
      exact partS_on (wanted_free rfl _) (op_value (load_run rfl (C.on (j := 12) (by kernel_rfl) rfl rfl) (HQ.out w C.below).2.2.2) rfl)
    case p14 =>
      intro _ k hk; obtain rfl := List.mem_singleton.1 hk; intro a w C Z
      exact partS_on (wanted_free rfl _) (op_call2 rfl (reg_enters Tryz.func60 (by kernel_rfl) (by kernel_rfl)) (C.on (j := 6) (by kernel_rfl) rfl rfl) (C.on (j := 13) (by kernel_rfl) rfl rfl) (calls_is (CMx.out w)))
    case p15 =>
      intro _ k hk; obtain rfl := List.mem_singleton.1 hk; intro a w C Z
      exact partS_new (wanted_free rfl _) (op_fresh (blk_new rfl) ⟨_, rfl, C.below.size, RowAt.new _ _ _⟩)
    case t0 =>
      intro o ho a w C A
      cases ho
      obtain ⟨b1, e1, h1, hR⟩ := (C.on (j := 15) (by kernel_rfl) rfl rfl)
      refine ⟨wanted_free rfl _, stage_store rfl e1 (C.on (j := 14) (by kernel_rfl) rfl rfl) (blk_store hR HMO.out.1) trivial (below_setRow C.below h1 _) (Nat.le_of_eq (setRow_size _ _ _).symm) ?_⟩
      · intro i o2 d hi hd hne hnw h
        have hil := (List.getElem?_eq_some_iff.1 hi).1
        replace hil : i < 17 := hil
        obtain rfl | rfl | rfl | rfl | rfl | rfl | rfl | rfl | rfl | rfl | rfl | rfl | rfl | rfl | rfl | rfl | rfl : i = 0 ∨ i = 1 ∨ i = 2 ∨ i = 3 ∨ i = 4 ∨ i = 5 ∨ i = 6 ∨ i = 7 ∨ i = 8 ∨ i = 9 ∨ i = 10 ∨ i = 11 ∨ i = 12 ∨ i = 13 ∨ i = 14 ∨ i = 15 ∨ i = 16 := by omega
        · exact h
        · exact h
        · exact h
        · exact h
        · exact h
        · exact h
        · exact h
        · exact h
        · exact h
        · exact h
        · exact h
        · exact h
        · exact h
        · exact h
        · exact h
        · cases hi; cases hd; exact ⟨b1, e1, h1, hR.setRow _⟩
        · exact absurd rfl hne
    case fin =>
      rintro w6 hbF _ rfl _ rfl _ rfl _ rfl _ rfl _ rfl _ rfl _ rfl _ rfl _ rfl _ rfl _ rfl _ rfl _ rfl _ rfl _ ⟨S18, rfl, hS18, hR18⟩ _ _
      simp only [Fin, setAt, Exit.then, List.setIfInBounds_toArray, List.set_cons_succ, List.set_cons_zero]
      have HR6 := Lib.hid (RowAt.step HR5.out hbF)
      have HB6 := Lib.hid (HB5.out.trans (hbF.mono (HS6.out ▸ HB5.out.size)))
      have H18 := Lib.hid hR18
      have hlt5 := HR5.out.lt
      have h18w := hR18.lt
      clear hbF HR5 HB5 hR18 HQ CMx
      by_cases hp : p = 0
      · subst hp
        rw [if_pos rfl, xB_one HMO.out] at HN0
        have HST := Lib.hid (blk_store (y := mx) HR6.out HMO.out.1)
        have hsz : (wq mx).size = 128 := by rw [wq_size]; exact HMO.out.1
        go_wp2_with (first
          | refine wpList_value_want rfl _ (bload_run rfl rfl H18.out hsz) ?_
          | refine wpList_store_of rfl _ _ _ rfl ⟨S6 + 1, 0, none⟩ _ rfl rfl HST.out ?_)
        have hR := RowAt.setRow HR6.out (wq mx)
        refine bodyPost_ret (v := .agg (wq mx)) (results_cell_row rfl _ _ (S6 + 1) 83 (wq mx) (0, 0) _ rfl hR Tryz.underlying83 rfl (by rw [hsz]; exact b_size)) rfl ⟨by rw [HN0.out], ?_⟩
        exact HS6.out.symm ▸ (below_setRow HB6.out (Nat.le_succ S6) (wq mx))
      · have hp2 : decide ((0 : Int) < (p : Int)) = true := by simp; omega
        have hp3 : decide (0 < p) = true := by simp; omega
        rw [if_neg hp] at HN0
        have HTO : Hid (∀ b ∈ [mx, ob0], okb b) := Lib.hid fun b hb => by
          simp only [List.mem_cons, List.not_mem_nil, or_false] at hb
          rcases hb with rfl | rfl
          · exact HMO.out
          · exact HOO.out
        obtain ⟨nb0, hnb⟩ : ∃ nb0, xB [mx, ob0] = nb0 := ⟨_, rfl⟩
        have HNB := Lib.hid hnb
        have HNO : Hid (okb nb0) := Lib.hid (by rw [← hnb]; exact xB_ok _ HTO.out)
        obtain ⟨F, hF⟩ : ∃ F : World → Prop, F = fun u => RowAt u S18 83 (wq nb0) ∧ Kept (fun j => j = S18) w6 u := ⟨_, rfl⟩
        have HFS : Hid (∀ u u', F u → Below u.heap.size u u' → F u') := Lib.hid fun u u' hu hb => by
          subst hF
          exact ⟨RowAt.step hu.1 hb, hu.2.trans (Kept.of_below (M := fun _ => False) hb) fun _ _ h => h.elim⟩
        have HFE : Hid (∀ u, F u → RowAt u S18 83 (wq nb0) ∧ Kept (fun j => j = S18) w6 u) := Lib.hid fun u hu => by subst hF; exact hu
        have hs18 : S18 ≤ w6.heap.size := by omega
        have HQ2 : Hid (∀ u, Below w6.heap.size w6 u → (loadVar 83 ⟨S18, 0, none⟩).run Tryz.prog u = .ok (.agg (wq mx)) u ∧ (loadVar 91 ⟨o, k, none⟩).run Tryz.prog u = .ok (.slice (some ⟨gk, 0, none⟩) c c) u ∧ (loadVar 83 ⟨gk, x0 * 128, none⟩).run Tryz.prog u = .ok (.agg (wq ob0)) u ∧
            ∃ w7, (storeVar 83 ⟨S18, 0, none⟩ (.agg (wq nb0))).run Tryz.prog u = .ok () w7 ∧ F w7 ∧ Below S18 w6 w7 ∧ u.heap.size ≤ w7.heap.size) := Lib.hid fun u hu => by
          have h := HDD.out u (HB6.out.trans (hu.mono (HS6.out ▸ HB6.out.size)))
          have hRu := RowAt.step H18.out hu
          refine ⟨RowAt.load hRu Tryz.underlying83 (by rw [wq_size, HMO.out.1]; exact b_size), h.1, h.2.2.2.2.1, u.setRow S18 (wq nb0), blk_store hRu HNO.out.1 HMO.out.1, ?_, ?_, Nat.le_of_eq (setRow_size _ _ _).symm⟩
          · subst hF
            exact ⟨hRu.setRow _, (Kept.of_below (M := fun j => j = S18) hu).trans (kept_row _ _ _) fun _ _ h => h⟩
          · exact below_setRow (hu.mono hs18) (Nat.le_refl _) _
        clear hF hnb
        go_upto_region 9 with fail
        refine wp_region_stage (S18) [10] [] [[0], [0], [0], [0], [0], [0], [0], [0], [0], [0], []] [[Is (.agg (wq mx)), Is (.slice (some ⟨o, 0, none⟩) l kk), Is (.int .i64 (k : Int)), Is (.pointer (some ⟨o, k, none⟩)), Is (.slice (some ⟨gk, 0, none⟩) c c), Is (.int .i64 (x0 : Int)), Is (.pointer (some ⟨gk, x0 * 128, none⟩)), Is (.agg (wq ob0)), RdB [mx, ob0], Is (.agg (wq nb0)), Free], [IsF (.agg (wq mx)) F, Is (.slice (some ⟨o, 0, none⟩) l kk), Is (.int .i64 (k : Int)), Is (.pointer (some ⟨o, k, none⟩)), Is (.slice (some ⟨gk, 0, none⟩) c c), Is (.int .i64 (x0 : Int)), Is (.pointer (some ⟨gk, x0 * 128, none⟩)), Is (.agg (wq ob0)), Free, Is (.agg (wq nb0)), Free]] [IsF (.agg (wq mx)) F, Is (.slice (some ⟨o, 0, none⟩) l kk), Is (.int .i64 (k : Int)), Is (.pointer (some ⟨o, k, none⟩)), Is (.slice (some ⟨gk, 0, none⟩) c c), Is (.int .i64 (x0 : Int)), Is (.pointer (some ⟨gk, x0 * 128, none⟩)), Is (.agg (wq ob0)), Free, Is (.agg (wq nb0)), Free] hs18 (by kernel_rfl) (by kernel_rfl) rfl rfl ⟨⟨stable_is _, stable_is _, stable_is _, stable_is _, stable_is _, stable_is _, stable_is _, stable_is _, stable_rdb _, stable_is _, stable_free, trivial⟩, ⟨stable_isf _ HFS.out, stable_is _, stable_is _, stable_is _, stable_is _, stable_is _, stable_is _, stable_is _, stable_free, stable_is _, stable_free, trivial⟩, trivial⟩ (by intro n hn o ho hd w; simp only [List.mem_cons, List.not_mem_nil, or_false] at hn; subst hn; first | trivial | (cases ho; cases hd)) rfl ⟨?p0, ?p1, ?p2, ?p3, ?p4, ?p5, ?p6, ?p7, ?p8, ?p9, fun h => absurd (by simp) h, trivial⟩ ⟨?t0, trivial⟩ (by decide) ?fin
        case p0 =>
          intro _ k hk; obtain rfl := List.mem_singleton.1 hk; intro a w C Z
          exact partS_on (wanted_free rfl _) (op_value (load_run rfl (C.was 18 (by kernel_rfl)) (HQ2.out w C.below).1) rfl)
        case p1 =>
          intro _ k hk; obtain rfl := List.mem_singleton.1 hk; intro a w C Z
          exact partS_on (wanted_free rfl _) (op_move (.inl rfl) (C.was 1 (by kernel_rfl)))
        case p2 =>
          intro _ k hk; obtain rfl := List.mem_singleton.1 hk; intro a w C Z
          exact partS_on (wanted_free rfl _) (op_move (.inl rfl) (C.was 4 (by kernel_rfl)))
        case p3 =>
          intro _ k hk; obtain rfl := List.mem_singleton.1 hk; intro a w C Z
          exact partS_on (wanted_free rfl _) (op_value (ixg_run rfl (C.on (j := 1) (by kernel_rfl) rfl rfl) (C.on (j := 2) (by kernel_rfl) rfl rfl) HKL.out) rfl)
        case p4 =>
          intro _ k hk; obtain rfl := List.mem_singleton.1 hk; intro a w C Z
          exact partS_on (wanted_free rfl _) (op_value (load_run rfl (C.on (j := 3) (by kernel_rfl) rfl rfl) (HQ2.out w C.below).2.1) rfl)
        case p5 =>
          intro _ k hk; obtain rfl := List.mem_singleton.1 hk; intro a w C Z
          exact partS_on (wanted_free rfl _) (op_move (.inl rfl) (C.was 13 (by kernel_rfl)))
        case p6 =>
          intro _ k hk; obtain rfl := List.mem_singleton.1 hk; intro a w C Z
          exact partS_on (wanted_free rfl _) (op_value (ixr_run rfl (C.on (j := 4) (by kernel_rfl) rfl rfl) (C.on (j := 5) (by kernel_rfl) rfl rfl) HX0.out) rfl)
        case p7 =>
          intro _ k hk; obtain rfl := List.mem_singleton.1 hk; intro a w C Z
          exact partS_on (wanted_free rfl _) (op_value (load_run rfl (C.on (j := 6) (by kernel_rfl) rfl rfl) (HQ2.out w C.below).2.2.1) rfl)
        case p8 =>
          intro _ k hk; obtain rfl := List.mem_singleton.1 hk; intro a w C Z
          exact partS_on (wanted_free rfl _) (op_made (build_two_runN HMO.out.1 HOO.out.1 rfl (C.on (j := 0) (by kernel_rfl) rfl rfl) (C.on (j := 7) (by kernel_rfl) rfl rfl)) (two_rd (RowAt.new _ _ _)) (one_box _ _))
        case p9 =>
          intro _ k hk; obtain rfl := List.mem_singleton.1 hk; intro a w C Z
          exact partS_on (wanted_free rfl _) (op_call1 rfl (reg_enters Tryz.func61 (by kernel_rfl) (by kernel_rfl)) rfl (by have h := rxor_rd HTO.out (by simp) (C.on (j := 8) (by kernel_rfl) rfl rfl); rw [HNB.out] at h; exact h))
        case t0 =>
          intro o ho a w C A
          cases ho
          have cb : Below w6.heap.size w6 w := C.below
          obtain ⟨w7, hst, hF7, hb7, hz7⟩ := (HQ2.out w cb).2.2.2
          refine ⟨wanted_free rfl _, stage_store rfl (C.was 18 (by kernel_rfl)) (C.on (j := 9) (by kernel_rfl) rfl rfl) hst trivial hb7 hz7 ?_⟩
          · intro i o2 d hi hd hne hnw h
            have hil := (List.getElem?_eq_some_iff.1 hi).1
            replace hil : i < 11 := hil
            obtain rfl | rfl | rfl | rfl | rfl | rfl | rfl | rfl | rfl | rfl | rfl : i = 0 ∨ i = 1 ∨ i = 2 ∨ i = 3 ∨ i = 4 ∨ i = 5 ∨ i = 6 ∨ i = 7 ∨ i = 8 ∨ i = 9 ∨ i = 10 := by omega
            · exact ⟨h, hF7⟩
            · exact h
            · exact h
            · exact h
            · exact h
            · exact h
            · exact h
            · exact h
            · trivial
            · exact h
            · exact absurd rfl hne
        case fin =>
          rintro w8 _ _ ⟨rfl, hFF⟩ _ rfl _ rfl _ rfl _ rfl _ rfl _ rfl _ rfl x91 _ _ rfl _ _
          simp only [Fin, setAt, Exit.then, List.setIfInBounds_toArray, List.set_cons_succ, List.set_cons_zero]
          obtain ⟨hR8, hK8⟩ := HFE.out _ hFF
          have H8 := Lib.hid hR8
          have HR8 := Lib.hid (HR6.out.kept hK8 (by have := HS6.out; omega))
          have HB8 := Lib.hid (HB6.out.trans (hK8.below (B := S6) (by have := HB6.out.size; have := HS6.out; omega) fun x hx => by have := HS6.out; omega))
          have HST := Lib.hid (blk_store (y := nb0) HR8.out HNO.out.1)
          have hsz : (wq nb0).size = 128 := by rw [wq_size]; exact HNO.out.1
          clear hR8 hK8 HFE HFS HQ2 hFF HR6 HB6 H18
          go_wp2_with (first
            | refine wpList_value_want rfl _ (bload_run rfl rfl H8.out hsz) ?_
            | refine wpList_store_of rfl _ _ _ rfl ⟨S6 + 1, 0, none⟩ _ rfl rfl HST.out ?_)
          have hR := RowAt.setRow HR8.out (wq nb0)
          refine bodyPost_ret (v := .agg (wq nb0)) (results_cell_row rfl _ _ (S6 + 1) 83 (wq nb0) (0, 0) _ rfl hR Tryz.underlying83 rfl (by rw [hsz]; exact b_size)) rfl ⟨by rw [HN0.out, HNB.out], ?_⟩
          exact HS6.out.symm ▸ (below_setRow HB8.out (Nat.le_succ S6) (wq nb0))
end Go.Proofs.YtfoodaobiknihaaGreatDoor
