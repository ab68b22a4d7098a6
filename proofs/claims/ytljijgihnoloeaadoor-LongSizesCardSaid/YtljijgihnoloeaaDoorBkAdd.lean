/- Add of package blake by its contract: a Hash to which more bytes come. Conditions: those typed. -/
import Derived.Test.YtljijgihnoloeaaDoorBkHash
namespace Go.Proofs.YtljijgihnoloeaaDoor
set_option maxRecDepth 50000
open Go.RowKit Bl

theorem rest_any {F n t : Nat} {lz : Bool} {v : Value} (w : World) (h : FeedRow w F n lz v t) {B : Nat} (m : Nat) (l : List UInt8) (ho : w.ownsRow B 5 1 v m (cs l)) (hm : m ≤ 1000000000) : Calls Tryd.prog 32 #[.pointer (some ⟨F, 0, none⟩)] w fun e w' => ∃ v', e = .returned v' ∧ w'.ownsRow w.heap.size 5 1 v' m (cs l) ∧ Below w.heap.size w w' := by
  obtain ⟨x0, x1, x2, x3, x4, x5⟩ := h.at_
  have C := Lib.hid (clone_any v m l w ho hm)
  clear ho h
  go_enter Tryd.func32, Tryd.ntmps32
  go_wp2_with fail
  refine (C.out).mono ?_
  rintro e w1 ⟨v', rfl, ho, hb⟩
  have HO := Lib.hid ho
  clear ho
  go_wp2
  go_ret
  exact ⟨_, rfl, HO.out, hb⟩
/-- what is held, as it is handed out -/
def RestP (l : List UInt8) : Value → World → Prop := fun x w => ∃ A c, x = .slice A l.length c ∧ Reads w w.heap.size A (cs l) ∧ (A = none → l = [])
theorem stable_rest (l : List UInt8) : Stable (RestP l) := fun _ _ _ ⟨A, c, e, h, h2⟩ hb => ⟨A, c, e, (h.below hb).more hb.size, h2⟩
theorem rest_of {w : World} {B : Nat} {v : Value} {l : List UInt8} (h : w.ownsRow B 5 1 v l.length (cs l)) : RestP l v w := by
  obtain ⟨A, c, rfl, hl1, hl2, hl3⟩ := own_form h
  refine ⟨A, c, rfl, Reads.of_own h, fun e => ?_⟩
  cases l with
  | nil => rfl
  | cons x l =>
    obtain ⟨g, eg, _⟩ := hl2 (by simp)
    rw [e] at eg; cases eg

set_option maxHeartbeats 1600000 in
theorem addhash_any (w : World) (B T H kl n : Nat) (hkl : kl ≤ 64) (hn : n ≤ 64) (X : List UInt8) (h : HashIs w B T H kl n X) (hk : QAt w) (hB : 0 < B) (A : Option Addr) (c : Nat) (ps : List ByteArray)
    (hp : ∀ k, (hk : k < (stv ps).length) → ∃ b off, A = some ⟨b, off, none⟩ ∧ b < w.heap.size ∧ (b < B ∨ T ≤ b ∨ ∃ cs fz, w.heap[b]? = some (.cells cs 9 fz)) ∧ w.cell? ⟨b, off + k, none⟩ = some (stv ps)[k]) (hlen : X.length + (jn ps).length ≤ 1000000) (hps : ps.length ≤ 1000000) :
    Calls Tryd.prog 18 #[.pointer (some ⟨H, 0, none⟩), .slice A ps.length c] w fun e w' => e = .returned (.pointer (some ⟨H, 0, none⟩)) ∧ HashIs w' B w'.heap.size H kl n (X ++ jn ps) ∧ Below B w w' := by
  obtain ⟨F, v, l, bs, h1, h2, h3, h4, h5, h6, h7, h8, h9, h10, h11⟩ := h.ex
  obtain ⟨s0, hs0⟩ : ∃ s0, s0 = h0 kl n := ⟨_, rfl⟩
  have hs0k : s0.length = 8 ∧ okw s0 := by rw [hs0]; exact h0_ok kl n hkl hn
  rw [← hs0] at h1
  have hM : ∀ k, Mine F v k → B ≤ k ∧ k < T ∧ k ≠ H := by
    rintro k (rfl | hk)
    · exact ⟨h7, h8, fun e => h9 e.symm⟩
    · obtain ⟨a1, a2, a3, _⟩ := h10 k hk; exact ⟨a1, a2, a3⟩
  have hcut := cut_count h4
  have hll : l.length ≤ 128 := h4.held.1
  -- ahead of Put memory has only grown
  have CP := Lib.hid fun (w1 : World) (hb : Below w.heap.size w w1) => put_any F 128 X.length true v l A c ps w1 (h2.below hb) (own_kept (M := fun _ => False) h3 (Kept.of_below hb) fun _ _ => id) (by have := hb.size; omega) (fun k hk => (h10 k hk).2.2.2) (by omega) (by omega) h4.held (fun k hk => by
    obtain ⟨b, off, e, g1, g2, g3⟩ := hp k hk
    refine ⟨b, off, e, Nat.lt_of_lt_of_le g1 hb.size, fun hm => ?_, (hb.cell (p := ⟨b, off + k, none⟩) g1).trans g3⟩
    rcases g2 with g2 | g2 | ⟨cs', fz, g2⟩
    · have := hM b hm; omega
    · have := hM b hm; omega
    · rcases hm with rfl | hm
      · unfold FeedRow at h2; rw [h2] at g2; cases g2
      · rcases h3.2 with ⟨e3, _⟩ | ⟨g, cap, cur, e3, _, hg, _⟩
        · rw [e3] at hm; cases hm
        · rw [e3] at hm; cases hm; rw [hg] at g2; cases g2) hlen hps
  have KP := Lib.hid fun (w1 : World) (hb : Below w.heap.size w w1) => show w1.cell? ⟨H, 0, none⟩ = some (.pointer (some ⟨F, 0, none⟩)) ∧
      (Calls Tryd.prog 32 #[.pointer (some ⟨F, 0, none⟩)] w1 fun e w' => ∃ x, e = .returned x ∧ RestP l x w' ∧ Below w1.heap.size w1 w') ∧
      Calls Tryd.prog 31 #[.pointer (some ⟨F, 0, none⟩)] w1 fun e w' => ∃ x, e = .returned x ∧ Is (.int .i64 (X.length : Int)) x w' ∧ Below w1.heap.size w1 w' from by
    have k1 : HRow w1 H F (stN s0 bs bs.length) n := h1.keep (Kept.of_below (M := fun _ => False) hb) id
    refine ⟨k1.at_, (rest_any w1 (h2.below hb) l.length l (own_kept (M := fun _ => False) h3 (Kept.of_below hb) fun _ _ => id) (by omega)).mono ?_, (total_any w1 (h2.below hb)).mono ?_⟩
    · rintro e w' ⟨v', rfl, g1, g2⟩
      exact ⟨_, rfl, rest_of g1, g2⟩
    · rintro e w' ⟨rfl, rfl⟩
      exact ⟨_, rfl, rfl, Below.refl _ _⟩
  obtain ⟨e0, he0⟩ : ∃ e0, e0 = 128 * bs.length := ⟨_, rfl⟩
  have hsub : (X.length : Int) - (l.length : Int) = (e0 : Int) := by omega
  have hnl : X.length ≤ 1000000 := by omega
  have H1 := Lib.hid h1
  have HM := Lib.hid hM
  have HC := Lib.hid h4
  have HK := Lib.hid hk
  have HX := Lib.hid h10
  have HE := Lib.hid he0
  have HS0 := Lib.hid hs0
  have HSK := Lib.hid hs0k
  have HCC := Lib.hid hcut
  clear h h1 h2 h3 h4 h10 hM hk hp hs0 hs0k he0 hcut
  go_enter Tryd.func18, Tryd.ntmps18
  go_wp2
  refine wp_region_text [Is (.pointer (some ⟨H, 0, none⟩)), Is (.pointer (some ⟨H, 0, none⟩)), Is (.pointer (some ⟨H, 0, none⟩)), Is (.pointer (some ⟨F, 0, none⟩)), Is (.int .i64 (X.length : Int)), Is (.pointer (some ⟨H, 0, none⟩)), Is (.pointer (some ⟨H, 0, none⟩)), Is (.pointer (some ⟨H, 0, none⟩)), Is (.pointer (some ⟨F, 0, none⟩)), RestP l, Is (.int .i64 (l.length : Int)), Is (.int .i64 (e0 : Int)), Is (.int .i64 (e0 : Int))] (by kernel_rfl) (by kernel_rfl) rfl ⟨stable_is _, stable_is _, stable_is _, stable_is _, stable_is _, stable_is _, stable_is _, stable_is _, stable_is _, stable_rest _, stable_is _, stable_is _, stable_is _, trivial⟩ ⟨?_, ?_, ?_, ?_, ?_, ?_, ?_, ?_, ?_, ?_, ?_, ?_, ?_, trivial⟩ ?_
  · intro a w C
    exact part_on (wanted_free rfl _) (op_move (.inl rfl) (C.was 0 (by kernel_rfl)))
  · intro a w C
    exact part_on (wanted_free rfl _) (op_value (hnil_run _ _ _ _ _ rfl (C.on (j := 0) (by kernel_rfl) rfl rfl)) rfl)
  · intro a w C
    exact part_on (wanted_free rfl _) (op_value (hf0_run _ _ _ _ _ rfl (C.on (j := 1) (by kernel_rfl) rfl rfl)) rfl)
  · intro a w C
    exact part_on (wanted_free rfl _) (op_value (hptr_run _ _ F _ _ _ rfl (C.on (j := 2) (by kernel_rfl) rfl rfl) ((KP.out w C.below).1)) rfl)
  · intro a w C
    exact part_on (wanted_free rfl _) (op_call1 rfl (reg_enters Tryd.func31 (by kernel_rfl) (by kernel_rfl)) (C.on (j := 3) (by kernel_rfl) rfl rfl) ((KP.out w C.below).2.2))
  · intro a w C
    exact part_on (wanted_free rfl _) (op_move (.inl rfl) (C.was 0 (by kernel_rfl)))
  · intro a w C
    exact part_on (wanted_free rfl _) (op_value (hnil_run _ _ _ _ _ rfl (C.on (j := 5) (by kernel_rfl) rfl rfl)) rfl)
  · intro a w C
    exact part_on (wanted_free rfl _) (op_value (hf0_run _ _ _ _ _ rfl (C.on (j := 6) (by kernel_rfl) rfl rfl)) rfl)
  · intro a w C
    exact part_on (wanted_free rfl _) (op_value (hptr_run _ _ F _ _ _ rfl (C.on (j := 7) (by kernel_rfl) rfl rfl) ((KP.out w C.below).1)) rfl)
  · intro a w C
    exact part_on (wanted_free rfl _) (op_call1 rfl (reg_enters Tryd.func32 (by kernel_rfl) (by kernel_rfl)) (C.on (j := 8) (by kernel_rfl) rfl rfl) ((KP.out w C.below).2.1))
  · intro a w C
    obtain ⟨A9, c9, e9, _⟩ : RestP l _ _ := C.on (j := 9) (by kernel_rfl) rfl rfl
    exact part_on (wanted_free rfl _) (op_len_slice rfl Tryd.underlying48 e9 rfl)
  · intro a w C
    exact part_on (wanted_free rfl _) (op_bin rfl (C.on (j := 4) (by kernel_rfl) rfl rfl) (C.on (j := 10) (by kernel_rfl) rfl rfl) rfl (by simp [go_sem, hsub]; exact IntWalk.i64_in _ (by omega)) rfl)
  · intro a w C
    exact part_on (wanted_free rfl _) (op_move (.inr rfl) (C.on (j := 11) (by kernel_rfl) rfl rfl))
  rintro wF hbF _ rfl _ rfl _ rfl _ rfl _ rfl _ rfl _ rfl _ rfl _ rfl x19 hx19 _ rfl _ rfl _ rfl
  simp only [Fin, setAt, Exit.then, List.setIfInBounds_toArray, List.set_cons_succ, List.set_cons_zero]
  have c0 := (KP.out wF hbF).1
  have CPF := Lib.hid (CP.out wF hbF)
  have HBF := Lib.hid hbF
  have hszF := hbF.size
  clear hx19 hbF CP KP
  go_wp2_with fail
  refine CPF.out.mono ?_
  rintro e w1 ⟨vb, rfl, v', h', gs, bs', q, hc'⟩
  obtain ⟨A', c', rfl, hl1, hl2, hl3⟩ := own_form q.list
  have hgl : gs.length = bs'.length := q.outs.1
  rw [hgl]
  have HQ := Lib.hid q
  have HC' := Lib.hid hc'
  have HL := Lib.hid hl2
  have R1 : HRow w1 H F (stN s0 bs bs.length) n := (H1.out.keep (Kept.of_below (M := fun _ => False) HBF.out) id).keep q.kept (fun hm => (HM.out H hm).2.2 rfl)
  have HR1 := Lib.hid R1
  have HG := Lib.hid hgl
  have hB1 : Below B w w1 := (HBF.out.mono (by omega)).trans (q.kept.below (by omega) (fun k hk => (HM.out k hk).1))
  have HB1 := Lib.hid hB1
  clear q hc' hl1 hl2 hl3 R1 hgl c0 CPF hB1
  go_wp2
  have hbl : bs'.length ≤ 1000100 := by
    have e1 := flat_len HC'.out.each
    have e2 := congrArg List.length HC'.out.whole
    rw [List.length_append, List.length_append, e1] at e2
    omega
  have hbl2 : bs.length ≤ 1000000 := by have := HCC.out; omega
  go_loopw [5, 29] (fun v5 v29 wr => ∃ j : Nat, j ≤ bs'.length ∧ v5 = .int .i64 ((e0 + 128 * j : Nat) : Int) ∧ v29 = .int .i64 (j : Int) ∧ HRow wr H F (stN s0 (bs ++ bs') (bs.length + j)) n ∧ Kept (fun k => k = H) w1 wr) (fun _ v29 _ => bs'.length - (intOf v29).toNat)
  case atStart => exact ⟨0, Nat.zero_le _, by simp, rfl, by rw [Nat.add_zero, stN_app _ _ _ _ (Nat.le_refl _)]; exact HR1.out, Kept.refl _ _⟩
  case round =>
    obtain ⟨j, hj, rfl, rfl, hR, hK⟩ := hrel
    have hBr : Below B w wr := HB1.out.trans (hK.below (B := B) (by have := HB1.out.size; omega) (fun k hk => by omega))
    by_cases hlt : j < bs'.length
    · have hlen2 : bs'[j].length = 128 := HC'.out.each _ (List.getElem_mem hlt)
      have hgj : j < gs.length := by rw [HG.out]; exact hlt
      obtain ⟨b0, off0, eq0, hb0, hc0⟩ := Reads.of_own HQ.out.list j (by simp [sls]; omega)
      have hne : b0 ≠ H := by
        obtain ⟨g, eg, hgg⟩ := HL.out (by omega)
        rw [eg] at eq0; cases eq0; omega
      subst eq0
      have hcell : wr.cell? ⟨b0, off0 + j, none⟩ = some (.slice (some ⟨gs[j], 0, none⟩) 128 128) := by
        refine (World.cell?_of_block (w := w1) (hK.block b0 hb0 hne)).trans ?_
        rw [hc0]; simp [sls]
      have hgH : gs[j] ≠ H := by
        rcases HQ.out.gat gs[j] (List.getElem_mem hgj) with e | e
        · exact (HX.out _ e).2.2.1
        · omega
      have hrow : Row wr gs[j] bs'[j] := (HQ.out.outs.2 j hgj hlt).of_eq (hK.block _ ((HQ.out.outs.2 j hgj hlt).lt) hgH)
      have hrd := hrow.reads
      rw [cs_nats] at hrd
      obtain ⟨so1, so2⟩ := stN_ok HSK.out (bs ++ bs') (bs.length + j) (by omega)
      obtain ⟨t, ht⟩ : ∃ t, t = e0 + 128 * j + 128 := ⟨_, rfl⟩
      have htb : t < 18446744073709551616 := by have := HE.out; omega
      have CC := Lib.hid (comp_any (stN s0 (bs ++ bs') (bs.length + j)) so1 so2 (some ⟨gs[j], 0, none⟩) 128 (nats bs'[j]) (by rw [nats_length]; exact hlen2) (nats_lt _) t htb false wr (HK.out.below hBr hB) hrd)
      have HLd := Lib.hid (hR.load so1)
      have e1 : stN s0 (bs ++ bs') (bs.length + (j + 1)) = comp (stN s0 (bs ++ bs') (bs.length + j)) (blockW (nats bs'[j])) t false := by
        have e2 : (bs ++ bs').getD (bs.length + j) [] = bs'[j] := by
          rw [List.getD_eq_getElem?_getD, List.getElem?_append_right (by omega), show bs.length + j - bs.length = j by omega, List.getElem?_eq_getElem hlt]; rfl
        rw [← Nat.add_assoc, stN, e2, show 128 * (bs.length + j + 1) = t by rw [ht, HE.out]; omega]
      have HST := Lib.hid fun (w2 : World) (hb2 : Below wr.heap.size wr w2) => (hR.keep (Kept.of_below (M := fun _ => False) hb2) id).store so1 (stN s0 (bs ++ bs') (bs.length + (j + 1))) (stN_ok HSK.out _ _ (by omega)).1
      rw [← e1] at CC
      have HKK := Lib.hid hK
      have ht2 : ((e0 + 128 * j : Nat) : Int) + 128 = (t : Int) := by omega
      have ht3 : (e0 + 128 * (j + 1) : Nat) = t := by omega
      have HT3 := Lib.hid ht3
      have hwt : IntKind.u64.wrap (t : Int) = (t : Int) := u64_in t htb
      have htb2 : t ≤ 1000000000000 := by have := HE.out; omega
      clear hrow hrd so1 so2 hlen2 e1 hc0 hR hK ht ht3
      generalize hst1 : stN s0 (bs ++ bs') (bs.length + (j + 1)) = st1 at *
      have HST1 := Lib.hid hst1
      clear hst1
      generalize (e0 + 128 * j : Nat) = ej at *
      generalize stN s0 (bs ++ bs') (bs.length + j) = st0 at *
      generalize gs[j] = g0 at *
      have hdt : decide ((j : Int) < (bs'.length : Int)) = true := by simp; omega
      have HLT := Lib.hid hlt
      go_wp2_with (first
        | refine wpList_load_of rfl 30 (.tmp 41) rfl ⟨H, 1, none⟩ _ rfl HLd.out ?_
        | (refine CC.out.mono ?_; rintro e w2 ⟨rfl, hb2⟩; obtain ⟨w3, hst, hR3, hK3⟩ := HST.out w2 hb2; have HS3 := Lib.hid hst; have HR3 := Lib.hid hR3; have HK3 := Lib.hid (And.intro hb2 hK3); clear hb2 hst hR3 hK3)
        | refine wpList_store_of rfl 30 (.tmp 50) (.tmp 47) rfl ⟨H, 1, none⟩ _ rfl rfl HS3.out ?_)
      go_roundw
      case rel =>
        refine ⟨j + 1, HLT.out, by rw [HT3.out], by go_num, by rw [HST1.out]; exact HR3.out, ?_⟩
        exact (HKK.out.trans (Kept.of_below (M := fun _ => False) HK3.out.1) (fun _ _ => False.elim)).trans HK3.out.2 (fun _ _ => id)
      case measure => have := HLT.out; simp [intOf]; omega
    · obtain rfl : j = bs'.length := by omega
      have hdt : decide ((bs'.length : Int) < (bs'.length : Int)) = false := by simp
      rw [← List.length_append] at hR
      have HRR := Lib.hid hR
      have HKK := Lib.hid hK
      have HBR := Lib.hid hBr
      clear hR hK hBr
      go_wp2
      go_ret
      have hq := HQ.out
      have hM3 : ∀ k, v'.ownBlock = some k → B ≤ k ∧ k < wr.heap.size ∧ k ≠ H ∧ k ≠ F := fun k hk => by
        have hl := (hq.held.lt k hk).2
        have hs := HKK.out.size
        rcases hq.vat k hk with e | e
        · obtain ⟨a1, a2, a3, a4⟩ := HX.out k e; exact ⟨a1, by omega, a3, a4⟩
        · exact ⟨by omega, by omega, by omega, hq.vF k hk⟩
      refine ⟨rfl, ⟨⟨F, v', h', bs ++ bs', by rw [← HS0.out]; exact HRR.out, ?_, own_kept hq.held HKK.out (fun k hk => (hM3 k hk).2.2.1), HC.out.more_parts HC'.out, h5, by have := HBR.out.size; omega, h7, by have := HBR.out.size; omega, h9, hM3, Nat.le_refl _⟩⟩, HBR.out⟩
      have := hq.row.keep HKK.out (fun e => h9 e.symm)
      rw [List.length_append]
      exact this
end Go.Proofs.YtljijgihnoloeaaDoor
