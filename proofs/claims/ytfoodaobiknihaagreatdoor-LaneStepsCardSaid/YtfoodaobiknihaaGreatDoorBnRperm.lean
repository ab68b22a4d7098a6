/- The document's Permute of package blend by its contract. Conditions: those typed. -/
import Derived.Test.YtfoodaobiknihaaGreatDoorBn
namespace Go.Proofs.YtfoodaobiknihaaGreatDoor
set_option maxRecDepth 50000
open Go.RowKit Rot Bn
def pls (i : Nat) : Nat → List Nat
  | 0 => [0, 0, 0, 0]
  | k + 1 => (pls i k).set k (pt i k)
def wds (v : List Nat) (i : Nat) : Nat → List Nat
  | 0 => [0, 0, 0, 0]
  | k + 1 => (wds v i k).set k (v.getD (pt i k) 0)
def puts (v : List Nat) (i : Nat) (q : List Nat) : Nat → List Nat
  | 0 => v
  | k + 1 => (puts v i q k).set (pt i k) (q.getD k 0)
theorem pls_length (i : Nat) : ∀ k, (pls i k).length = 4
  | 0 => rfl
  | k + 1 => by rw [pls, List.length_set, pls_length i k]
theorem wds_length (v : List Nat) (i : Nat) : ∀ k, (wds v i k).length = 4
  | 0 => rfl
  | k + 1 => by rw [wds, List.length_set, wds_length v i k]
theorem puts_length (v : List Nat) (i : Nat) (q : List Nat) : ∀ k, (puts v i q k).length = v.length
  | 0 => rfl
  | k + 1 => by rw [puts, List.length_set, puts_length v i q k]
theorem pls_four (i k : Nat) (hi : i < 8) (hk : k < 4) : (pls i 4).getD k 0 = pt i k := by
  have h : ∀ i, i < 8 → ∀ k, k < 4 → (pls i 4).getD k 0 = pt i k := by decide
  exact h i hi k hk
theorem wds_four (v : List Nat) (i : Nat) : wds v i 4 = (take4 v i).list := rfl
theorem puts_four (v : List Nat) (i : Nat) (q : Q) : puts v i q.list 4 = put4 v i q := rfl
structure Px (w wr : World) (v p q : List Nat) (b4 b5 : Nat) : Prop where
  x : Dx w wr v
  p : RowAt wr b4 188 (iqN p)
  q : RowAt wr b5 190 (wq q)
  l4 : w.heap.size + 2 ≤ b4
  l5 : b4 < b5
section
variable {w wr wr' : World} {v p q : List Nat} {b4 b5 : Nat}
theorem Px.new (h : Dx w wr v) : Px w ((wr.alloc (.cells (iqN [0, 0, 0, 0]) 188)).alloc (.cells (wq [0, 0, 0, 0]) 190)) v [0, 0, 0, 0] [0, 0, 0, 0] wr.heap.size (wr.heap.size + 1) := by
  refine ⟨h.step (((Below.refl _ wr).alloc (Nat.le_refl _) _).alloc (by simp) _), (RowAt.new wr _ _).alloc _, ?_, h.lt, Nat.lt_succ_self _⟩
  have h := RowAt.new (wr.alloc (.cells (iqN [0, 0, 0, 0]) 188)) 190 (wq [0, 0, 0, 0])
  rw [World.size_alloc] at h; exact h
theorem Px.setP (h : Px w wr v p q b4 b5) (i x : Nat) : Px w (wr.setCell ⟨b4, i, none⟩ (.int .i64 (x : Int))) v (p.set i x) q b4 b5 :=
  have h4 := h.l4
  have h5 := h.l5
  ⟨⟨h.x.rv.setOther _ (by simp; omega) _, h.x.rz.setOther _ (by simp; omega) _, h.x.below.setCell (by simp; omega) _⟩, by rw [← iq_setN]; exact h.p.setCell i _, h.q.setOther _ (by simp; omega) _, h4, h5⟩
theorem Px.setQ (h : Px w wr v p q b4 b5) (i x : Nat) : Px w (wr.setCell ⟨b5, i, none⟩ (.int .u64 (x : Int))) v p (q.set i x) b4 b5 :=
  have h4 := h.l4
  have h5 := h.l5
  ⟨⟨h.x.rv.setOther _ (by simp; omega) _, h.x.rz.setOther _ (by simp; omega) _, h.x.below.setCell (by simp; omega) _⟩, h.p.setOther _ (by simp; omega) _, by rw [← wq_set]; exact h.q.setCell i _, h4, h5⟩
theorem Px.setV (h : Px w wr v p q b4 b5) (i x : Nat) : Px w (wr.setCell ⟨w.heap.size, i, none⟩ (.int .u64 (x : Int))) (v.set i x) p q b4 b5 :=
  have h4 := h.l4
  have h5 := h.l5
  ⟨h.x.set i x, h.p.setOther _ (by simp; omega) _, h.q.setOther _ (by simp; omega) _, h4, h5⟩
theorem Px.step (h : Px w wr v p q b4 b5) (hb : Below wr.heap.size wr wr') : Px w wr' v p q b4 b5 :=
  ⟨h.x.step hb, h.p.below hb h.p.lt, h.q.below hb h.q.lt, h.l4, h.l5⟩
theorem Px.rowQ (h : Px w wr v p q b4 b5) (q' : List Nat) : Px w (wr.setRow b5 (wq q')) v p q' b4 b5 :=
  have h4 := h.l4
  have h5 := h.l5
  ⟨⟨h.x.rv.setRowOther _ (by omega) _, h.x.rz.setRowOther _ (by omega) _, below_setRow h.x.below (by omega) _⟩, h.p.setRowOther _ (by omega) _, h.q.setRow _, h4, h5⟩
end
set_option maxHeartbeats 3200000 in
theorem rpermute_any (x : List Nat) (hx : x.length = 16) (ho : okw x) (w : World) :
    Calls Tryz.prog 106 #[.agg (wq x)] w fun e w' => e = .returned (.agg (wq (perm x))) ∧ Below w.heap.size w w' := by
  have HL := Lib.hid hx
  have HO := Lib.hid ho
  have HD := Lib.hid (Dx.new w x)
  clear hx ho
  go_enter Tryz.func106, Tryz.ntmps106
  go_wp2
  generalize hW0 : World.alloc _ _ = w0
  have HX0 : Hid (Dx w w0 x) := Lib.hid (by subst hW0; exact HD.out)
  clear hW0 HD
  go_loopw [3] (fun v3 wr => ∃ i : Nat, i ≤ 8 ∧ v3 = .int .i64 (i : Int) ∧ Dx w wr (qTo x i)) (fun v3 _ => 8 - (intOf v3).toNat)
  case atStart => exact ⟨0, by omega, rfl, HX0.out⟩
  case round =>
    clear HX0
    obtain ⟨i, hi, rfl, X⟩ := hrel
    have HX := Lib.hid X
    clear X
    by_cases h8 : i < 8
    · have hdt : decide ((i : Int) < 8) = true := by simp; omega
      have hvi : (qTo x i).length = 16 := by rw [qTo_length]; exact HL.out
      have hok := take4_ok (qTo_ok HO.out i) i
      have HN : Hid (qTo x (i + 1) = put4 (qTo x i) i (quarter (take4 (qTo x i) i))) := Lib.hid rfl
      generalize qTo x i = vi at *
      go_wp2
      generalize hW1 : World.alloc _ _ = w1
      obtain ⟨b4, hb4⟩ : ∃ b, b = wr.heap.size := ⟨_, rfl⟩
      have HP0 : Hid (Px w w1 vi (pls i 0) (wds vi i 0) b4 (b4 + 1)) := Lib.hid (by subst hW1; subst hb4; exact Px.new HX.out)
      clear HX
      rw [← hb4]
      clear hb4 hW1
      go_loopw [6] (fun v6 wr => ∃ k : Nat, k ≤ 4 ∧ v6 = .int .i64 (k : Int) ∧ Px w wr vi (pls i k) (wds vi i k) b4 (b4 + 1)) (fun v6 _ => 4 - (intOf v6).toNat)
      case atStart => exact ⟨0, by omega, rfl, HP0.out⟩
      case round =>
        clear HP0
        obtain ⟨k, hk, rfl, X⟩ := hrel
        have HX := Lib.hid X
        clear X
        by_cases h4 : k < 4
        · have hdk : decide ((k : Int) < 4) = true := by simp; omega
          have hk4 : (k : Int) < 4 := by omega
          obtain ⟨m, hm⟩ : ∃ m, m = 4 * k := ⟨_, rfl⟩
          obtain ⟨r, hr⟩ : ∃ r, r = i % 4 := ⟨_, rfl⟩
          obtain ⟨s, hs⟩ : ∃ s, s = (i + k) % 4 := ⟨_, rfl⟩
          obtain ⟨z, hz⟩ : ∃ z, z = m + r := ⟨_, rfl⟩
          obtain ⟨ik, hik⟩ : ∃ ik, ik = i + k := ⟨_, rfl⟩
          have e1 : (4 : Int) * (k : Int) = (m : Int) := by omega
          have e2 : (i : Int).tmod 4 = (r : Int) := by rw [Int.tmod_eq_emod_of_nonneg (by omega)]; omega
          have e3 : (m : Int) + (r : Int) = (z : Int) := by omega
          have e4 : (i : Int) + (k : Int) = (ik : Int) := by omega
          have e5 : (ik : Int).tmod 4 = (s : Int) := by rw [Int.tmod_eq_emod_of_nonneg (by omega)]; omega
          have b1 : m ≤ 12 := by omega
          have b2 : z ≤ 16 := by omega
          have b3 : ik ≤ 12 := by omega
          have b4' : r ≤ 4 ∧ s ≤ 4 := by omega
          have HE : Hid (pls i (k + 1) = (pls i k).set k (pt i k) ∧ wds vi i (k + 1) = (wds vi i k).set k (vi.getD (pt i k) 0)) := Lib.hid ⟨rfl, rfl⟩
          obtain ⟨g1, g2⟩ := pt_is i k h8 h4
          have hpt := pt_lt i k h8 h4
          have cv := (HX.out.x.rv.cell (pt i k)).trans (wq_at _ (pt i k) (by omega))
          have hfp := HX.out.p.frozen k
          have hcp := (HX.out.p.cell k).trans (iq_atN _ k (by rw [pls_length]; omega))
          have hfq := HX.out.q.frozen k
          have hcq := (HX.out.q.cell k).trans (wq_at _ k (by rw [wds_length]; omega))
          generalize pls i k = pk at *
          generalize wds vi i k = qk at *
          generalize pt i k = p at *
          generalize vi.getD p 0 = y at *
          have HS := HX.out.l4
          by_cases hi4 : i < 4
          · have hd4 : decide ((i : Int) ≥ 4) = false := by simp; omega
            obtain rfl : p = z := by have := g1 hi4; omega
            clear g1 g2 hm hr hs hz hik
            go_wp2
            go_roundw
            case rel => exact ⟨k + 1, by omega, by go_num, by rw [HE.out.1, HE.out.2]; exact (HX.out.setP k p).setQ k y⟩
            case measure => simp [intOf]; omega
          · have hd4 : decide ((i : Int) ≥ 4) = true := by simp; omega
            have e6 : (m : Int) + (s : Int) = (p : Int) := by have := g2 (by omega); omega
            clear g1 g2 hm hr hs hz hik
            go_wp2
            go_roundw
            case rel => exact ⟨k + 1, by omega, by go_num, by rw [HE.out.1, HE.out.2, ← List.set_set (a := z) (b := p)]; exact ((HX.out.setP k z).setP k p).setQ k y⟩
            case measure => simp [intOf]; omega
        · obtain rfl : k = 4 := by omega
          have hdk : decide (((4 : Nat) : Int) < 4) = false := by simp
          have hw4 := wds_four vi i
          rw [hw4] at HX
          have CQ := Lib.hid fun w => rquarter_anyN (take4 vi i) hok w
          have hq2 := puts_four vi i (quarter (take4 vi i))
          have hpl : ∀ k, k < 4 → (pls i 4).getD k 0 = pt i k := fun k hk => pls_four i k h8 hk
          have hpl4 := pls_length i 4
          have HQL : Hid ((take4 vi i).list.length = 4 ∧ (quarter (take4 vi i)).list.length = 4) := Lib.hid ⟨rfl, rfl⟩
          rw [← hq2] at HN
          generalize (quarter (take4 vi i)).list = q2 at *
          generalize (take4 vi i).list = q1 at *
          generalize pls i 4 = p4 at *
          have HPL := Lib.hid hpl
          have HP4 := Lib.hid hpl4
          clear hpl hpl4 hw4 hq2 hok
          have hs1 : (wq q1).size = 4 := by rw [wq_size]; exact HQL.out.1
          have hs2 : (wq q2).size = 4 := by rw [wq_size]; exact HQL.out.2
          have HS1 := Lib.hid hs1
          have HS2 := Lib.hid hs2
          have RQ := Lib.hid HX.out.q
          clear hs1 hs2
          go_wp2_with (refine wpList_load_row rfl 190 (.tmp 5) rfl (b4 + 1) rfl 190 (wq q1) (0, 0) _ RQ.out Tryz.underlying190 rfl (by rw [HS1.out]; exact q_size4N) ?_)
          refine (CQ.out _).mono ?_
          rintro e w2 ⟨rfl, hb2⟩
          have HX2 := Lib.hid (HX.out.step hb2)
          have RQ2 := Lib.hid HX2.out.q
          have HX3 := Lib.hid (HX2.out.rowQ q2)
          clear hb2 HX RQ CQ
          go_wp2_with (refine wpList_store_row rfl 190 (.tmp 5) (.tmp 42) rfl (b4 + 1) (wq q2) rfl rfl 190 _ RQ2.out (by rw [HS2.out]; exact q_size4N) (by rw [HS1.out, HS2.out]) (wq_one _) ?_)
          generalize World.setRow _ _ _ = w3 at *
          clear RQ2 HX2
          go_wp2
          go_loopw [7] (fun v7 wr => ∃ k : Nat, k ≤ 4 ∧ v7 = .int .i64 (k : Int) ∧ Px w wr (puts vi i q2 k) p4 q2 b4 (b4 + 1)) (fun v7 _ => 4 - (intOf v7).toNat)
          case atStart => exact ⟨0, by omega, rfl, HX3.out⟩
          case round =>
            clear HX3
            obtain ⟨k, hk, rfl, X⟩ := hrel
            have HX := Lib.hid X
            clear X
            by_cases h4 : k < 4
            · have hdk : decide ((k : Int) < 4) = true := by simp; omega
              have hk4 : (k : Int) < 4 := by omega
              have hk0 : (0 : Int) ≤ (k : Int) := by omega
              have HE : Hid (puts vi i q2 (k + 1) = (puts vi i q2 k).set (pt i k) (q2.getD k 0)) := Lib.hid rfl
              have hpt := pt_lt i k h8 h4
              have hvl := puts_length vi i q2 k
              have cp := (HX.out.p.cell k).trans (iq_atN _ k (by rw [HP4.out]; omega))
              rw [HPL.out k h4] at cp
              have cq := (HX.out.q.cell k).trans (wq_at _ k (by rw [HQL.out.2]; omega))
              have cv := (HX.out.x.rv.cell (pt i k)).trans (wq_at _ (pt i k) (by rw [hvl]; omega))
              have fv := HX.out.x.rv.frozen (pt i k)
              generalize puts vi i q2 k = vk at *
              generalize pt i k = p at *
              generalize q2.getD k 0 = y at *
              generalize vk.getD p 0 = y0 at *
              have HXD := Lib.hid ((HX.out.step (Below.refl _ _).drew).setV p y)
              have k1 : ∀ tp d os out, (World.mk wr.heap tp d os out).cell? ⟨b4, k, none⟩ = some (.int .i64 (p : Int)) := fun _ _ _ _ => cp
              have k2 : ∀ tp d os out, (World.mk wr.heap tp d os out).cell? ⟨b4 + 1, k, none⟩ = some (.int .u64 (y : Int)) := fun _ _ _ _ => cq
              have hp1 : (p : Int) < 16 := by omega
              have hp0 : (0 : Int) ≤ (p : Int) := by omega
              clear cp cq HX hvl
              go_wp2
              refine wp_region_still_tail 7 (by kernel_rfl) (by kernel_rfl) ?_
              simp only [List.take_succ_cons, List.take_zero, List.drop_succ_cons, List.drop_zero]
              repeat still_step
              refine wpStill_nil ?_
              change wpList _ _ _ _ _ wr.drew
              have cv : wr.drew.cell? ⟨w.heap.size, p, none⟩ = some (.int .u64 (y0 : Int)) := cv
              have fv : wr.drew.frozen? ⟨w.heap.size, p, none⟩ = false := fv
              clear k1 k2
              generalize wr.drew = w2 at *
              go_wp2
              go_roundw
              case rel => exact ⟨k + 1, by omega, by go_num, by rw [HE.out]; exact HXD.out⟩
              case measure => simp [intOf]; omega
            · obtain rfl : k = 4 := by omega
              have hdk : decide (((4 : Nat) : Int) < 4) = false := by simp
              go_wp2
              go_roundw
              case rel => exact ⟨i + 1, by omega, by go_num, by rw [HN.out]; exact HX.out.x⟩
              case measure => simp [intOf]; omega
    · obtain rfl : i = 8 := by omega
      have hdt : decide (((8 : Nat) : Int) < 8) = false := by simp
      have hl : (wq (perm x)).size = 16 := by rw [wq_size, perm_length]; exact HL.out
      have HLL := Lib.hid hl
      have hX8 : Dx w wr (perm x) := HX.out
      have RV := Lib.hid hX8.rv
      have RZ := Lib.hid hX8.rz
      have HB := Lib.hid hX8.below
      clear hl hX8 HX
      go_wp2_with (first
        | refine wpList_load_row rfl 185 (.tmp 1) rfl w.heap.size rfl 185 (wq (perm x)) (0, 0) _ RV.out Tryz.underlying185 rfl (by rw [HLL.out]; exact q_size16N) ?_
        | refine wpList_store_row rfl 185 (.tmp 2) (.tmp 54) rfl (w.heap.size + 1) (wq (perm x)) rfl rfl 185 _ RZ.out (by rw [HLL.out]; exact q_size16N) (by rw [HLL.out]; rfl) (wq_one _) ?_)
      have hR := RowAt.setRow RZ.out (wq (perm x))
      refine bodyPost_ret (v := .agg (wq (perm x))) (results_cell_row rfl _ _ (w.heap.size + 1) 185 (wq (perm x)) (0, 0) _ rfl hR Tryz.underlying185 rfl (by rw [HLL.out]; exact q_size16N)) rfl ⟨rfl, ?_⟩
      exact below_setRow HB.out (by omega) _
end Go.Proofs.YtfoodaobiknihaaGreatDoor
