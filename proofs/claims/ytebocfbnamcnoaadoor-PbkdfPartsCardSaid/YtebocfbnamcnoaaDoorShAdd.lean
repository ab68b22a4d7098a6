/- Add of package sha by its contract: a Hash to which more bytes come. Conditions: those typed. -/
import Derived.Test.YtebocfbnamcnoaaDoorShHash
namespace Go.Proofs.YtebocfbnamcnoaaDoor
set_option maxRecDepth 50000
open Go.RowKit Sha

set_option maxHeartbeats 1600000 in
theorem addhash_any (w : World) (B T H : Nat) (X : List UInt8) (h : HashIs w B T H X) (hk : KAt w) (hB : 0 < B) (A : Option Addr) (c : Nat) (ps : List ByteArray)
    (hp : ∀ k, (hk : k < (stv ps).length) → ∃ b off, A = some ⟨b, off, none⟩ ∧ b < w.heap.size ∧ (b < B ∨ T ≤ b ∨ ∃ cs fz, w.heap[b]? = some (.cells cs 9 fz)) ∧ w.cell? ⟨b, off + k, none⟩ = some (stv ps)[k]) (hlen : X.length + (jn ps).length ≤ 1000000) (hps : ps.length ≤ 1000000) :
    Calls Tryd.prog 36 #[.pointer (some ⟨H, 0, none⟩), .slice A ps.length c] w fun e w' => e = .returned (.pointer (some ⟨H, 0, none⟩)) ∧ HashIs w' B w'.heap.size H (X ++ jn ps) ∧ Below B w w' := by
  obtain ⟨F, v, l, bs, h1, h2, h3, h4, h5, h6, h7, h8, h9, h10, h11⟩ := h.ex
  have hM : ∀ k, Mine F v k → B ≤ k ∧ k < T ∧ k ≠ H := by
    rintro k (rfl | hk)
    · exact ⟨h7, h8, fun e => h9 e.symm⟩
    · obtain ⟨a1, a2, a3, _⟩ := h10 k hk; exact ⟨a1, a2, a3⟩
  have CP := Lib.hid (put_any F 64 X.length false v l A c ps w h2 h3 (by omega) (fun k hk => (h10 k hk).2.2.2) (by omega) (by omega) h4.held (fun k hk => by
    obtain ⟨b, off, e, g1, g2, g3⟩ := hp k hk
    refine ⟨b, off, e, g1, fun hm => ?_, g3⟩
    rcases g2 with g2 | g2 | ⟨cs', fz, g2⟩
    · have := hM b hm; omega
    · have := hM b hm; omega
    · rcases hm with rfl | hm
      · unfold FeedRow at h2; rw [h2] at g2; cases g2
      · rcases h3.2 with ⟨e3, _⟩ | ⟨g, cap, cur, e3, _, hg, _⟩
        · rw [e3] at hm; cases hm
        · rw [e3] at hm; cases hm; rw [hg] at g2; cases g2) hlen hps)
  have c0 := h1.at_
  have H1 := Lib.hid h1
  have HM := Lib.hid hM
  have HC := Lib.hid h4
  have HK := Lib.hid hk
  have HX := Lib.hid h10
  clear h h1 h2 h3 h4 h10 hM hk hp
  go_enter Tryd.func36, Tryd.ntmps36
  go_wp2_with fail
  refine CP.out.mono ?_
  rintro e w1 ⟨vb, rfl, v', h', gs, bs', q, hc'⟩
  obtain ⟨A', c', rfl, hl1, hl2, hl3⟩ := own_form q.list
  have hgl : gs.length = bs'.length := q.outs.1
  rw [hgl]
  have HQ := Lib.hid q
  have HC' := Lib.hid hc'
  have HL := Lib.hid hl2
  have R1 : HRow w1 H F (stOf bs) := H1.out.keep q.kept (fun hm => (HM.out H hm).2.2 rfl)
  have HR1 := Lib.hid R1
  have HG := Lib.hid hgl
  have hB1 : Below B w w1 := q.kept.below (by omega) (fun k hk => (HM.out k hk).1)
  have HB1 := Lib.hid hB1
  clear q hc' hl1 hl2 hl3 R1 hgl c0 CP hB1
  go_wp2
  have hbl : bs'.length ≤ 1000100 := by
    have e1 := flat_len HC'.out.each
    have e2 := congrArg List.length HC'.out.whole
    rw [List.length_append, List.length_append, e1] at e2
    have e3 := HC.out.held.1
    omega
  go_loopw [16] (fun v16 wr => ∃ j : Nat, j ≤ bs'.length ∧ v16 = .int .i64 (j : Int) ∧ HRow wr H F (stOf (bs ++ bs'.take j)) ∧ Kept (fun k => k = H) w1 wr) (fun v16 _ => bs'.length - (intOf v16).toNat)
  case atStart => exact ⟨0, Nat.zero_le _, rfl, by rw [List.take_zero, List.append_nil]; exact HR1.out, Kept.refl _ _⟩
  case round =>
    obtain ⟨j, hj, rfl, hR, hK⟩ := hrel
    have hBr : Below B w wr := HB1.out.trans (hK.below (B := B) (by have := HB1.out.size; omega) (fun k hk => by omega))
    by_cases hlt : j < bs'.length
    · have hlen2 : bs'[j].length = 64 := HC'.out.each _ (List.getElem_mem hlt)
      have hgj : j < gs.length := by rw [HG.out]; exact hlt
      obtain ⟨b0, off0, e0, hb0, hc0⟩ := Reads.of_own HQ.out.list j (by simp [sls]; omega)
      have hne : b0 ≠ H := by
        obtain ⟨g, eg, hgg⟩ := HL.out (by omega)
        rw [eg] at e0; cases e0; omega
      subst e0
      have hcell : wr.cell? ⟨b0, off0 + j, none⟩ = some (.slice (some ⟨gs[j], 0, none⟩) 64 64) := by
        refine (World.cell?_of_block (w := w1) (hK.block b0 hb0 hne)).trans ?_
        rw [hc0]; simp [sls]
      have hgH : gs[j] ≠ H := by
        rcases HQ.out.gat gs[j] (List.getElem_mem hgj) with e | e
        · exact (HX.out _ e).2.2.1
        · omega
      have hrow : Row wr gs[j] bs'[j] := (HQ.out.outs.2 j hgj hlt).of_eq (hK.block _ ((HQ.out.outs.2 j hgj hlt).lt) hgH)
      have hrd := hrow.reads
      rw [cs_nats] at hrd
      obtain ⟨so1, so2⟩ := stOf_ok (bs ++ bs'.take j)
      have CC := Lib.hid (comp_any (stOf (bs ++ bs'.take j)) so1 so2 (some ⟨gs[j], 0, none⟩) 64 (nats bs'[j]) (by rw [nats_length]; exact hlen2) (nats_lt _) wr (HK.out.below hBr hB) hrd)
      have HLd := Lib.hid (hR.load so1)
      have e1 : stOf (bs ++ bs'.take (j + 1)) = comp kk (stOf (bs ++ bs'.take j)) (blockWords (nats bs'[j])) := by
        rw [List.take_succ_eq_append_getElem hlt, ← List.append_assoc, stOf_snoc]
      have HST := Lib.hid fun (w2 : World) (hb2 : Below wr.heap.size wr w2) => (hR.keep (Kept.of_below (M := fun _ => False) hb2) id).store so1 (stOf (bs ++ bs'.take (j + 1))) (stOf_ok _).1
      rw [← e1] at CC
      have HKK := Lib.hid hK
      clear hrow hrd so1 so2 hlen2 e1 hc0 hR hK
      generalize stOf (bs ++ bs'.take j) = st0 at *
      generalize gs[j] = g0 at *
      have hdt : decide ((j : Int) < (bs'.length : Int)) = true := by simp; omega
      have HLT := Lib.hid hlt
      go_wp2_with (first
        | refine wpList_load_of rfl 31 (.tmp 24) rfl ⟨H, 1, none⟩ _ rfl HLd.out ?_
        | (refine CC.out.mono ?_; rintro e w2 ⟨rfl, hb2⟩; obtain ⟨w3, hst, hR3, hK3⟩ := HST.out w2 hb2; have HS3 := Lib.hid hst; have HR3 := Lib.hid hR3; have HK3 := Lib.hid (And.intro hb2 hK3); clear hb2 hst hR3 hK3)
        | refine wpList_store_of rfl 31 (.tmp 31) (.tmp 28) rfl ⟨H, 1, none⟩ _ rfl rfl HS3.out ?_)
      go_roundw
      case rel =>
        refine ⟨j + 1, HLT.out, by go_num, HR3.out, ?_⟩
        exact (HKK.out.trans (Kept.of_below (M := fun _ => False) HK3.out.1) (fun _ _ => False.elim)).trans HK3.out.2 (fun _ _ => id)
      case measure => have := HLT.out; simp [intOf]; omega
    · obtain rfl : j = bs'.length := by omega
      have hdt : decide ((bs'.length : Int) < (bs'.length : Int)) = false := by simp
      rw [List.take_length] at hR
      have HRR := Lib.hid hR
      have HKK := Lib.hid hK
      have HBR := Lib.hid hBr
      clear hR hK hBr
      go_wp2
      go_ret
      have hq := HQ.out
      have hM3 : ∀ k, v'.ownBlock = some k → B ≤ k ∧ k < wr.heap.size ∧ k ≠ H ∧ k ≠ F := fun k hk => by
        have hl := (hq.held.lt k hk).2
        have hs := HKK.out.size
        rcases hq.vat k hk with e | e
        · obtain ⟨a1, a2, a3, a4⟩ := HX.out k e; exact ⟨a1, by omega, a3, a4⟩
        · exact ⟨by omega, by omega, by omega, hq.vF k hk⟩
      refine ⟨rfl, ⟨⟨F, v', h', bs ++ bs', HRR.out, ?_, own_kept hq.held HKK.out (fun k hk => (hM3 k hk).2.2.1), HC.out.more_parts HC'.out, h5, by have := HBR.out.size; omega, h7, by have := HBR.out.size; omega, h9, hM3, Nat.le_refl _⟩⟩, HBR.out⟩
      have := hq.row.keep HKK.out (fun e => h9 e.symm)
      rw [List.length_append]
      exact this
end Go.Proofs.YtebocfbnamcnoaaDoor
