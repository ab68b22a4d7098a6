/- Segment of package fill: a lane's blocks of a turn are filled, by its contract. Conditions: those typed. -/
import Derived.Test.YtcbccjcnllifjaaGreatDoorFlY
namespace Go.Proofs.YtcbccjcnllifjaaGreatDoor
set_option maxRecDepth 50000
open Go.RowKit Bb Bn
def SrcP (N a t l m b c g z p s k : Nat) : Value → World → Prop := fun v w => ∃ x, v = .pointer (some ⟨x, 0, none⟩) ∧ N ≤ x ∧ Src w x a t l m b c g z p s k
theorem stable_srcp (N a t l m b c g z p s k : Nat) : Stable (SrcP N a t l m b c g z p s k) := fun _ _ _ ⟨x, e, h, h2⟩ hb => ⟨x, e, h, h2.step hb⟩
theorem srcp_new (N a t l m b c g z p s k : Nat) (w : World) (hN : N ≤ w.heap.size) : Calls Tryz.prog 87 #[spv a t l m b c g z, tuv p s, .int .i64 (k : Int)] w fun e w' => ∃ v, e = .returned v ∧ SrcP N a t l m b c g z p s k v w' ∧ Below w.heap.size w w' := by
  refine (srnew_any a t l m b c g z p s k w).mono ?_
  rintro e w' ⟨x, rfl, hx, hs, hb⟩
  exact ⟨_, rfl, ⟨x, rfl, by omega, 0, zb, hs, by simp [zb], .inl rfl⟩, hb⟩
theorem step_agg (w : World) : (isAgg 160).run Tryz.prog w = .ok true w := by
  unfold isAgg
  rw [Sem.run_bind, run_underlying Tryz.underlying160 w]
  rfl
theorem stpc_load {w : World} {d : Nat} {k x k' y r c : Int} (h : RowAt w d 160 (stpc k x k' y r c)) : (loadVar 160 ⟨d, 0, none⟩).run Tryz.prog w = .ok (stpv k x k' y r c) w :=
  sub_load h step_agg step_size 0 (stpc k x k' y r c).toList rfl fun j v h => by simpa using h
theorem GrRow.segment {w : World} {q p a t l m b c g z : Nat} (H : GrRow w q p a t l m b c g z) : w.cell? ⟨q, 7, none⟩ = some (.int .i64 (g : Int)) := (RowAt.cell H 7).trans rfl
theorem TAt.kept2 {w w' : World} (h : TAt w) {B : Nat} (hB : TabN B) (hk : Below B w w') : TAt w' := h.below hk hB.1 hB.2
theorem segTo_ok {a t l b c g p s k : Nat} {L : List (List Nat)} (S : Sh a t l b c g) (hp : p < t) (hs : s ≤ 3) (hk : k < l) (hL : L.length = l * c) (h : ∀ x ∈ L, okb x) : ∀ n, fiN p s + n ≤ g → ∀ x ∈ segTo a t l b c g L p s k (fiN p s) n, okb x
  | 0, _ => h
  | n + 1, hn => stepL_ok S (R := ⟨hp, hs, hk, by omega, by omega⟩) (by rw [segTo_len]; exact hL) (segTo_ok S hp hs hk hL h n (by omega))
set_option maxHeartbeats 12800000 in
theorem segment_any {a t l m b c g z p s k q pc h G : Nat} {L : List (List Nat)} {w : World} (S : Sh a t l b c g) (hp : p < t) (hs : s ≤ 3) (hk : k < l) (hG : GrAt w q pc h G a t l m b c g z L) (hL : L.length = l * c) {N0 : Nat} (hT : TAt w) (hN : TabN N0) (hx : N0 ≤ G) :
    Calls Tryz.prog 55 #[.pointer (some ⟨q, 0, none⟩), tuv p s, .int .i64 (k : Int)] w fun e w' => e = .returned (.int .i64 0) ∧ GrAt w' q pc h G a t l m b c g z (segL a t l b c g L p s k) ∧ Kept (fun j => j = G) w w' := by
  have hGw : G < w.heap.size := hG.live.blk.lt
  have hg2 := S.g2
  have hcm := S.cm
  have hgm : g ≤ 400 := by have := S.cg; omega
  have hlm := S.lm
  obtain ⟨F0, hF0⟩ : ∃ F0, fiN p s = F0 := ⟨_, rfl⟩
  have hF2 : F0 ≤ g := by have := fiN_le p s; omega
  have CFi : Hid (∀ w, Calls Tryz.prog 88 #[spv a t l m b c g z, .int .i64 (p : Int), .int .i64 (s : Int)] w fun e w' => ∃ v, e = .returned v ∧ Is (.int .i64 (F0 : Int)) v w' ∧ Below w.heap.size w w') := Lib.hid fun w => first_is a t l m b c g z p s F0 (by rw [fiN_is, hF0]) w
  obtain ⟨w1, e1⟩ : ∃ w1, w1 = w.alloc (.cells (tuc p s) 104) := ⟨_, rfl⟩
  have b1 : Below w.heap.size w w1 := by rw [e1]; exact one_box _ _
  have HGT : GT q pc h G a t l m b c g z L w.heap.size p s w1 := ⟨hG.step b1, by rw [e1]; exact RowAt.new _ _ _⟩
  have HX : Hid (∀ u, Below w1.heap.size w1 u → GT q pc h G a t l m b c g z L w.heap.size p s u) := Lib.hid fun u hu => HGT.step hu
  have CNw := Lib.hid fun u (hu : w1.heap.size ≤ u.heap.size) => srcp_new w1.heap.size a t l m b c g z p s k u hu
  have HTA : Hid (∀ u, Below N0 w u → TAt u) := Lib.hid fun u hu => hT.kept2 hN hu
  have HGW := Lib.hid hGw
  have HB := Lib.hid b1
  have E1 := Lib.hid e1
  have HL := Lib.hid hL
  have HOK : Hid (∀ n, fiN p s + n ≤ g → ∀ x ∈ segTo a t l b c g L p s k (fiN p s) n, okb x) := Lib.hid (segTo_ok S hp hs hk hL hG.live.ok)
  rw [hF0] at HOK
  have HF0 := Lib.hid hF0
  clear b1 e1 hG hT HGT hL hF0 hGw
  go_enter Tryz.func55, Tryz.ntmps55
  go_upto_region 3 with fail
  rw [← E1.out]
  clear E1
  generalize hT0 : w.heap.size = T0 at *
  have HT0 := Lib.hid hT0
  clear hT0
  refine wp_region_text [Is (.pointer (some ⟨q, 0, none⟩)), Is (.pointer (some ⟨q, 0, none⟩)), Is (.pointer (some ⟨q, 1, none⟩)), Is (spv a t l m b c g z), Is (tuv p s), Is (.int .i64 (k : Int)), SrcP w1.heap.size a t l m b c g z p s k, SrcP w1.heap.size a t l m b c g z p s k] (by kernel_rfl) (by kernel_rfl) rfl ⟨stable_is _, stable_is _, stable_is _, stable_is _, stable_is _, stable_is _, stable_srcp _ _ _ _ _ _ _ _ _ _ _ _, stable_srcp _ _ _ _ _ _ _ _ _ _ _ _, trivial⟩ ⟨?_, ?_, ?_, ?_, ?_, ?_, ?_, ?_, trivial⟩ ?_
  · intro a w C
    exact part_on (wanted_free rfl _) (op_move (.inl rfl) (C.was 0 (by kernel_rfl)))
  · intro a w C
    exact part_on (wanted_free rfl _) (op_value (nil_run rfl (C.on (j := 0) (by kernel_rfl) rfl rfl)) rfl)
  · intro a w C
    exact part_on (wanted_free rfl _) (op_value (grf_run (k := 1) rfl (by decide) (C.on (j := 1) (by kernel_rfl) rfl rfl)) rfl)
  · intro a w C
    exact part_on (wanted_free rfl _) (op_value (load_run rfl (C.on (j := 2) (by kernel_rfl) rfl rfl) (HX.out w C.below).gr.row.shape) rfl)
  · intro a w C
    exact part_on (wanted_free rfl _) (op_value (load_run rfl (C.was 4 (by kernel_rfl)) (HX.out w C.below).tu) rfl)
  · intro a w C
    exact part_on (wanted_free rfl _) (op_move (.inl rfl) (C.was 2 (by kernel_rfl)))
  · intro a w C
    exact part_on (wanted_free rfl _) (op_call3 rfl (reg_enters Tryz.func87 (by kernel_rfl) (by kernel_rfl)) (C.on (j := 3) (by kernel_rfl) rfl rfl) (C.on (j := 4) (by kernel_rfl) rfl rfl) (C.on (j := 5) (by kernel_rfl) rfl rfl) (CNw.out w C.below.size))
  · intro a w C
    exact part_on (wanted_free rfl _) (op_move (.inr rfl) (C.on (j := 6) (by kernel_rfl) rfl rfl))
  rintro w2 hbF _ rfl _ rfl _ rfl _ rfl _ rfl _ rfl x20 hx20 x7 hx7
  simp only [Fin, setAt, Exit.then, List.setIfInBounds_toArray, List.set_cons_succ, List.set_cons_zero]
  clear hx20
  obtain ⟨x, rfl, hxw, hSr⟩ := hx7
  have HB2 : Hid (Below w.heap.size w w2) := Lib.hid (HT0.out ▸ (HB.out.trans (hbF.mono (HT0.out ▸ HB.out.size))))
  have HX2 : Hid (∀ u, Below w2.heap.size w2 u → GT q pc h G a t l m b c g z L T0 p s u) := Lib.hid fun u hu => (HX.out w2 hbF).step hu
  have HSr2 := Lib.hid hSr
  have HXW : Hid (w.heap.size + 1 ≤ x) := Lib.hid (by
    have h1 := HB.out.size
    have h2 := (HX.out w1 (Below.refl _ _)).row.lt
    have h3 := HT0.out
    omega)
  clear hbF HX HB hSr CNw
  go_upto_region 4 with fail
  refine wp_region_text [Is (.pointer (some ⟨q, 0, none⟩)), Is (.pointer (some ⟨q, 0, none⟩)), Is (.pointer (some ⟨q, 1, none⟩)), Is (spv a t l m b c g z), Is (.pointer (some ⟨T0, 0, none⟩)), Is (.int .i64 (p : Int)), Is (.pointer (some ⟨T0, 1, none⟩)), Is (.int .i64 (s : Int)), Is (.int .i64 (F0 : Int)), Is (.int .i64 (F0 : Int))] (by kernel_rfl) (by kernel_rfl) rfl ⟨stable_is _, stable_is _, stable_is _, stable_is _, stable_is _, stable_is _, stable_is _, stable_is _, stable_is _, stable_is _, trivial⟩ ⟨?_, ?_, ?_, ?_, ?_, ?_, ?_, ?_, ?_, ?_, trivial⟩ ?_
  · intro a w C
    exact part_on (wanted_free rfl _) (op_move (.inl rfl) (C.was 0 (by kernel_rfl)))
  · intro a w C
    exact part_on (wanted_free rfl _) (op_value (nil_run rfl (C.on (j := 0) (by kernel_rfl) rfl rfl)) rfl)
  · intro a w C
    exact part_on (wanted_free rfl _) (op_value (grf_run (k := 1) rfl (by decide) (C.on (j := 1) (by kernel_rfl) rfl rfl)) rfl)
  · intro a w C
    exact part_on (wanted_free rfl _) (op_value (load_run rfl (C.on (j := 2) (by kernel_rfl) rfl rfl) (HX2.out w C.below).gr.row.shape) rfl)
  · intro a w C
    exact part_on (wanted_free rfl _) (op_value (tuf_run (k := 0) rfl (by decide) (C.was 4 (by kernel_rfl))) rfl)
  · intro a w C
    exact part_on (wanted_free rfl _) (op_value (int_run rfl (C.on (j := 4) (by kernel_rfl) rfl rfl) (tu_cells (HX2.out w C.below).row).1) rfl)
  · intro a w C
    exact part_on (wanted_free rfl _) (op_value (tuf_run (k := 1) rfl (by decide) (C.was 4 (by kernel_rfl))) rfl)
  · intro a w C
    exact part_on (wanted_free rfl _) (op_value (int_run rfl (C.on (j := 6) (by kernel_rfl) rfl rfl) (tu_cells (HX2.out w C.below).row).2) rfl)
  · intro a w C
    exact part_on (wanted_free rfl _) (op_call3 rfl (reg_enters Tryz.func88 (by kernel_rfl) (by kernel_rfl)) (C.on (j := 3) (by kernel_rfl) rfl rfl) (C.on (j := 5) (by kernel_rfl) rfl rfl) (C.on (j := 7) (by kernel_rfl) rfl rfl) (CFi.out w))
  · intro a w C
    exact part_on (wanted_free rfl _) (op_move (.inr rfl) (C.on (j := 8) (by kernel_rfl) rfl rfl))
  rintro w3 hbF _ rfl _ rfl _ rfl _ rfl _ rfl _ rfl _ rfl _ rfl _ rfl _ rfl
  simp only [Fin, setAt, Exit.then, List.setIfInBounds_toArray, List.set_cons_succ, List.set_cons_zero]
  have HB3 : Hid (Below w.heap.size w w3) := Lib.hid (HB2.out.trans (hbF.mono HB2.out.size))
  have HX3 := Lib.hid (HX2.out w3 hbF)
  have HSr3 := Lib.hid (HSr2.out.step hbF)
  clear hbF HX2 HB2 HSr2 CFi
  go_wp2
  go_loopw [8] (fun v8 wr => ∃ j : Nat, F0 + j ≤ g ∧ v8 = .int .i64 ((F0 + j : Nat) : Int) ∧ Hid (GT q pc h G a t l m b c g z (segTo a t l b c g L p s k F0 j) T0 p s wr) ∧ Hid (Src wr x a t l m b c g z p s k) ∧ Hid (Kept (fun y => y = G ∨ y = x) w wr)) (fun v8 _ => g - (intOf v8).toNat)
  case atStart => exact ⟨0, hF2, rfl, HX3, HSr3, Lib.hid (Kept.of_below HB3.out)⟩
  case round =>
    obtain ⟨j, hj, rfl, HGr, HSo, HK⟩ := hrel
    obtain ⟨i, hi⟩ : ∃ i, F0 + j = i := ⟨_, rfl⟩
    rw [hi] at hj ⊢
    have HI := Lib.hid hi
    have k7 := HGr.out.gr.row.segment
    by_cases hlt : i < g
    · have hd : decide ((i : Int) < (g : Int)) = true := by simp; omega
      have hd2 : decide (i < g) = true := by simp; omega
      have R : Fl t l c g p s k i := ⟨hp, hs, hk, by rw [HF0.out]; omega, hlt⟩
      have HR := Lib.hid R
      obtain ⟨L', hL'⟩ : ∃ L', segTo a t l b c g L p s k F0 j = L' := ⟨_, rfl⟩
      have HL' := Lib.hid hL'
      have hLl : L'.length = l * c := by rw [← hL', segTo_len]; exact HL.out
      have HLl := Lib.hid hLl
      rw [hL'] at HGr
      obtain ⟨W, hW⟩ : ∃ W, numW a t b c g L' p s k i = W := ⟨_, rfl⟩
      have hs0 : w.heap.size ≤ wr.heap.size := HK.out.size
      have HBN : Hid (Below N0 w wr) := Lib.hid (HK.out.below (by have := HGW.out; have := HT0.out; omega) fun y hy => by have := HXW.out; have := HGW.out; have := HT0.out; omega)
      have HC := Lib.hid (look_any S R HGr.out.gr hLl HSo.out (HTA.out wr HBN.out) hN (show N0 ≤ x by have := HXW.out; have := HGW.out; have := HT0.out; omega) W hW)
      have hch := chosen_of S R W
      obtain ⟨r0, hr0⟩ : ∃ r0, ofL l p s k W = r0 := ⟨_, rfl⟩
      obtain ⟨c0, hc0⟩ : ∃ c0, ofC l c g p s k i W = c0 := ⟨_, rfl⟩
      obtain ⟨x0, hx0⟩ : ∃ x0, s * g + i = x0 := ⟨_, rfl⟩
      obtain ⟨y0, hy0⟩ : ∃ y0, bfN c x0 = y0 := ⟨_, rfl⟩
      have h1 := hch.lane
      have h2 := hch.col
      have h3 := R.col S
      rw [hr0] at h1
      rw [hc0] at h2
      rw [hx0] at h3
      have h4 : y0 < c := by rw [← hy0]; exact bfN_lt h3
      rw [hr0, hc0, hx0, hy0] at HC
      have HNB : Hid (xB (mix (L'.getD (k * c + y0) []) (L'.getD (r0 * c + c0) []) :: if p = 0 then [] else [L'.getD (k * c + x0) []]) = newB a t l b c g L' p s k i) := Lib.hid (by unfold newB newW; rw [hW, hr0, hc0, hx0, hy0])
      have HST : Hid (L'.set (k * c + x0) (newB a t l b c g L' p s k i) = segTo a t l b c g L p s k F0 (j + 1)) := Lib.hid (by
        rw [← hx0, ← hL', ← hi]; rfl)
      clear hch hL' hW hr0 hc0 hx0 hy0 hLl hi
      go_upto_region 7 with fail
      go_wp2_with (refine wpList_load_want rfl 104 _ rfl _ _ rfl (HGr.out.tu) ?_)
      refine HC.out.mono ?_
      rintro e w4 ⟨rfl, hS4, hk4⟩
      obtain ⟨n0, v0, hrow, _⟩ := HSo.out
      have hG4 := HGr.out.gr.far hk4 hrow rfl rfl rfl
      have hT4 := HGr.out.row.kept hk4 (by have := HXW.out; have := HT0.out; omega)
      have hK4 : Kept (fun y => y = G ∨ y = x) w w4 := HK.out.trans hk4 fun y _ h => .inr h
      obtain ⟨w5, e5⟩ : ∃ w5, w5 = w4.alloc (.cells (stpc k x0 k y0 r0 c0) 160) := ⟨_, rfl⟩
      have b5 : Below w4.heap.size w4 w5 := by rw [e5]; exact one_box _ _
      have HST5 : Hid (RowAt w5 w4.heap.size 160 (stpc k x0 k y0 r0 c0)) := Lib.hid (by rw [e5]; exact RowAt.new _ _ _)
      have HG5 : Hid (GT q pc h G a t l m b c g z L' T0 p s w5) := Lib.hid ⟨hG4.step b5, hT4.step b5⟩
      have HS5 := Lib.hid (hS4.step b5)
      have HK5 : Hid (Kept (fun y => y = G ∨ y = x) w w5) := Lib.hid (hK4.trans (Kept.of_below (M := fun _ => False) b5) fun _ _ h => h.elim)
      have HB5 : Hid (Below N0 w w5) := Lib.hid (HK5.out.below (by have := HGW.out; have := HT0.out; omega) fun y hy => by have := HXW.out; have := HGW.out; have := HT0.out; omega)
      have E5 := Lib.hid e5
      clear hrow hG4 hT4 hK4 b5 e5 hS4 hk4 HGr HSo HK HBN HC k7
      go_upto_region 10 with fail
      rw [← E5.out]
      clear E5
      generalize w4.heap.size = S9 at *
      have HF := Lib.hid (fill_any HG5.out.gr hlm (by omega) HLl.out (HTA.out w5 HB5.out) p s k x0 k y0 r0 c0 hk h3 hk h4 h1 h2 _ HNB.out)
      rw [HST.out] at HF
      go_wp2_with (first
        | refine wpList_load_want rfl 104 _ rfl _ _ rfl (HG5.out.tu) ?_
        | refine wpList_load_want rfl 160 _ rfl _ _ rfl (stpc_load HST5.out) ?_)
      refine HF.out.mono ?_
      rintro e w6 ⟨rfl, hG6, hk6⟩
      have HG6 : Hid (GT q pc h G a t l m b c g z (segTo a t l b c g L p s k F0 (j + 1)) T0 p s w6) := Lib.hid ⟨hG6, HG5.out.row.kept hk6 (RowAt.unlike HG5.out.row HG5.out.gr.live.blk (by rfl))⟩
      have HS6 := Lib.hid (HS5.out.kept hk6 (by have := HXW.out; have := HGW.out; have := HT0.out; omega))
      have HK6 : Hid (Kept (fun y => y = G ∨ y = x) w w6) := Lib.hid (HK5.out.trans hk6 fun y _ h => .inl h)
      have hij : i + 1 = F0 + (j + 1) := by have := HI.out; omega
      have HIJ := Lib.hid hij
      clear hG6 hk6 HG5 HS5 HK5 HST5 HF HB5 hij
      go_wp2
      go_roundw
      case rel => exact ⟨j + 1, by have := HIJ.out; omega, by rw [← HIJ.out]; go_num, HG6, HS6, HK6⟩
      case measure =>
        have := HI.out
        simp [intOf]; omega
    · obtain rfl : i = g := by omega
      have hd : decide ((i : Int) < (i : Int)) = false := by simp
      go_wp2
      refine bodyPost_ret (results_tmp rfl _ _ _) rfl ⟨rfl, ?_, ?_⟩
      · have e : i - fiN p s = j := by rw [HF0.out]; have := HI.out; omega
        unfold segL
        rw [e, HF0.out]
        exact HGr.out.gr
      · exact HK.out.mono fun y hy h => by
          rcases h with h | h
          · exact h
          · have := HXW.out; omega
end Go.Proofs.YtcbccjcnllifjaaGreatDoor
