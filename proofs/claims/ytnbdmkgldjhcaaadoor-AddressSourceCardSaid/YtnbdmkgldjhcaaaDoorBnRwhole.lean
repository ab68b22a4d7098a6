/- The document's Whole of package blend by its contract. No condition. -/
import Derived.Test.YtnbdmkgldjhcaaaDoorBnWhole
import Derived.Test.YtnbdmkgldjhcaaaDoorBnRperm
namespace Go.Proofs.YtnbdmkgldjhcaaaDoor
set_option maxRecDepth 50000
open Go.RowKit Rot Bb Bn

/-- a block that is turned, and sixteen words of it -/
structure Zx (w wr : World) (X v : List Nat) (b5 : Nat) : Prop where
  x : Wx w wr X
  v : RowAt wr b5 76 (wq v)
  l : w.heap.size + 2 ≤ b5
section
variable {w wr wr' : World} {X v : List Nat} {b5 : Nat}
theorem Zx.new (h : Wx w wr X) : Zx w (wr.alloc (.cells (wq (List.replicate 16 0)) 76)) X (List.replicate 16 0) wr.heap.size :=
  ⟨h.step ((Below.refl _ wr).alloc (Nat.le_refl _) _), RowAt.new wr _ _, h.lt⟩
theorem Zx.step (h : Zx w wr X v b5) (hb : Below wr.heap.size wr wr') : Zx w wr' X v b5 := ⟨h.x.step hb, h.v.below hb h.v.lt, h.l⟩
theorem Zx.setX (h : Zx w wr X v b5) (i x : Nat) : Zx w (wr.setCell ⟨w.heap.size, i, none⟩ (.int .u64 (x : Int))) (X.set i x) v b5 :=
  have := h.l
  ⟨⟨by rw [← wq_set]; exact h.x.rv.setCell i _, h.x.rz.setOther _ (by simp) _, h.x.below.setCell (by simp) _⟩, h.v.setOther _ (by simp; omega) _, h.l⟩
theorem Zx.setV (h : Zx w wr X v b5) (i x : Nat) : Zx w (wr.setCell ⟨b5, i, none⟩ (.int .u64 (x : Int))) X (v.set i x) b5 :=
  have := h.l
  ⟨⟨h.x.rv.setOther _ (by simp; omega) _, h.x.rz.setOther _ (by simp; omega) _, h.x.below.setCell (by simp; omega) _⟩, by rw [← wq_set]; exact h.v.setCell i _, h.l⟩
theorem Zx.rowV (h : Zx w wr X v b5) (v' : List Nat) : Zx w (wr.setRow b5 (wq v')) X v' b5 :=
  have := h.l
  ⟨⟨h.x.rv.setRowOther _ (by omega) _, h.x.rz.setRowOther _ (by omega) _, below_setRow h.x.below (by omega) _⟩, h.v.setRow _, h.l⟩
end
/-- a place step by step, of rows and of columns -/
theorem ats_steps (t i k : Nat) (hi : i < 8) (hk : k < 16) : ∃ h r m n s p : Nat, p = ats t i k ∧ p < 128 ∧ (k : Int).tdiv 2 = (h : Int) ∧ (k : Int).tmod 2 = (r : Int) ∧ (16 : Int) * ((if t = 1 then h else i : Nat) : Int) = (m : Int) ∧ (2 : Int) * ((if t = 1 then i else h : Nat) : Int) = (n : Int) ∧
    (m : Int) + (n : Int) = (s : Int) ∧ (s : Int) + (r : Int) = (p : Int) ∧ h < 8 ∧ r < 2 ∧ m < 128 ∧ n < 16 ∧ s < 144 ∨ 2 ≤ t := by
  by_cases h2 : 2 ≤ t
  · exact ⟨0, 0, 0, 0, 0, 0, .inr h2⟩
  · have e3 : (k : Int).tdiv 2 = ((k / 2 : Nat) : Int) := by rw [Int.tdiv_eq_ediv_of_nonneg (by omega)]; omega
    have e4 : (k : Int).tmod 2 = ((k % 2 : Nat) : Int) := by rw [Int.tmod_eq_emod_of_nonneg (by omega)]; omega
    rcases (show t = 0 ∨ t = 1 by omega) with rfl | rfl
    · refine ⟨k / 2, k % 2, 16 * i, 2 * (k / 2), 16 * i + 2 * (k / 2), ats 0 i k, .inl ⟨rfl, ats_lt 0 i k hi hk, e3, e4, ?_⟩⟩
      have : ats 0 i k = i * 16 + k / 2 * 2 + k % 2 := rfl
      rw [if_neg (by decide), if_neg (by decide)]
      omega
    · refine ⟨k / 2, k % 2, 16 * (k / 2), 2 * i, 16 * (k / 2) + 2 * i, ats 1 i k, .inl ⟨rfl, ats_lt 1 i k hi hk, e3, e4, ?_⟩⟩
      have : ats 1 i k = i * 2 + k / 2 * 16 + k % 2 := rfl
      rw [if_pos rfl, if_pos rfl]
      omega

set_option maxHeartbeats 6400000 in
theorem rwhole_any {B : List Nat} (hB : okb B) (w : World) :
    Calls Tryd.prog 31 #[.agg (wq B)] w fun e w' => e = .returned (.agg (wq (whole B))) ∧ Below w.heap.size w w' := by
  have HB := Lib.hid hB
  have HD := Lib.hid (Wx.new w B)
  have hz := zero_b
  clear hB
  go_enter Tryd.func31, Tryd.ntmps31
  go_wp2
  generalize hW0 : World.alloc _ _ = w0
  have HX0 : Hid (Wx w w0 B) := Lib.hid (by subst hW0; exact HD.out)
  clear hW0 HD
  go_loopw [3] (fun v3 wr => ∃ t : Nat, t ≤ 2 ∧ v3 = .int .i64 (t : Int) ∧ Wx w wr (sides B t)) (fun v3 _ => 2 - (intOf v3).toNat)
  case atStart => exact ⟨0, by omega, rfl, HX0.out⟩
  case round =>
    clear HX0
    obtain ⟨t, ht, rfl, X⟩ := hrel
    have HX := Lib.hid X
    clear X
    by_cases h2 : t < 2
    · have hdt : decide ((t : Int) < 2) = true := by simp; omega
      have HN : Hid (sides B (t + 1) = linTo (sides B t) t 8) := Lib.hid rfl
      have HXO := Lib.hid (sides_okb HB.out t)
      generalize sides B t = X at *
      go_wp2
      obtain ⟨wo, rfl⟩ : ∃ wo : World, wo = wr := ⟨_, rfl⟩
      go_loopw [4] (fun v4 wr => ∃ i : Nat, i ≤ 8 ∧ v4 = .int .i64 (i : Int) ∧ Wx w wr (linTo X t i)) (fun v4 _ => 8 - (intOf v4).toNat)
      case atStart => exact ⟨0, by omega, rfl, HX.out⟩
      case round =>
        clear HX
        obtain ⟨i, hi, rfl, X1⟩ := hrel
        have HX := Lib.hid X1
        clear X1
        by_cases h8 : i < 8
        · have hdk : decide ((i : Int) < 8) = true := by simp; omega
          have HM : Hid (linTo X t (i + 1) = putL (linTo X t i) (perm (takL (linTo X t i) t i 16)) t i 16) := Lib.hid rfl
          have HYO := Lib.hid (linTo_okb HXO.out t i)
          generalize linTo X t i = Y at *
          obtain ⟨b5, hb5⟩ : ∃ b, b = wr.heap.size := ⟨_, rfl⟩
          have HZ0 := Lib.hid (Zx.new HX.out)
          go_wp2
          rw [← hb5] at HZ0 ⊢
          generalize hW1 : World.alloc _ _ = w1
          have HZ1 : Hid (Zx w w1 Y (takL Y t i 0) b5) := Lib.hid (by subst hW1; exact HZ0.out)
          clear hW1 HZ0 HX hb5
          go_loopw [6] (fun v6 wr => ∃ k : Nat, k ≤ 16 ∧ v6 = .int .i64 (k : Int) ∧ Zx w wr Y (takL Y t i k) b5) (fun v6 _ => 16 - (intOf v6).toNat)
          case atStart => exact ⟨0, by omega, rfl, HZ1.out⟩
          case round =>
            clear HZ1
            obtain ⟨k, hk, rfl, X1⟩ := hrel
            have HX := Lib.hid X1
            clear X1
            by_cases h16 : k < 16
            · have hdl : decide ((k : Int) < 16) = true := by simp; omega
              have hk0 : (k : Int) < 16 := by omega
              have HE : Hid (takL Y t i (k + 1) = (takL Y t i k).set k (Y.getD (ats t i k) 0)) := Lib.hid rfl
              have cv := (HX.out.v.cell k).trans (wq_at _ k (by rw [takL_length]; exact h16))
              have fv := HX.out.v.frozen k
              generalize takL Y t i k = v at *
              generalize v.getD k 0 = y0 at *
              obtain ⟨h, r, m, n, s, p, ⟨hp, hp2, e1, e2, e3, e4, e5, e6, b1, b2, b3, b4, b6⟩ | hbad⟩ := ats_steps t i k h8 h16
              case inr => omega
              rw [← hp] at HE
              have cb := (HX.out.x.rv.cell p).trans (wq_at _ p (by rw [HYO.out.1]; exact hp2))
              generalize Y.getD p 0 = y at *
              have hl := HX.out.l
              clear hp
              rcases (show t = 0 ∨ t = 1 by omega) with h01 | h01
              · have hte : ((t : Int) == 1) = false := by simp; omega
                rw [if_neg (by omega)] at e3 e4
                clear h01
                go_wp2
                go_roundw
                case rel => exact ⟨k + 1, by omega, by go_num, by rw [HE.out]; exact HX.out.setV k y⟩
                case measure => simp [intOf]; omega
              · have hte : ((t : Int) == 1) = true := by simp; omega
                rw [if_pos (by omega)] at e3 e4
                clear h01
                go_wp2
                go_roundw
                case rel => exact ⟨k + 1, by omega, by go_num, by rw [HE.out]; exact HX.out.setV k y⟩
                case measure => simp [intOf]; omega
            · obtain rfl : k = 16 := by omega
              have hdl : decide (((16 : Nat) : Int) < 16) = false := by simp
              have HVL := Lib.hid (takL_length Y t i 16)
              have HVO := Lib.hid (takL_ok HYO.out.2 t i 16)
              have HPL := Lib.hid (show (perm (takL Y t i 16)).length = 16 by rw [perm_length]; exact HVL.out)
              have CP := Lib.hid fun w => rpermute_any (takL Y t i 16) HVL.out HVO.out w
              generalize perm (takL Y t i 16) = V at *
              generalize takL Y t i 16 = v at *
              have HSV : Hid ((wq v).size = 16) := Lib.hid (by rw [wq_size]; exact HVL.out)
              have HSP : Hid ((wq V).size = 16) := Lib.hid (by rw [wq_size]; exact HPL.out)
              have RV := Lib.hid HX.out.v
              go_wp2_with (refine wpList_load_row rfl 76 (.tmp 5) rfl b5 rfl 76 (wq v) (0, 0) _ RV.out Tryd.underlying76 rfl (by rw [HSV.out]; exact q_size16) ?_)
              refine (CP.out _).mono ?_
              rintro e w2 ⟨rfl, hb2⟩
              have HX2 := Lib.hid (HX.out.step hb2)
              have RV2 := Lib.hid HX2.out.v
              have HX3 : Hid (Zx w (w2.setRow b5 (wq V)) (putL Y V t i 0) V b5) := Lib.hid (HX2.out.rowV V)
              clear hb2 HX RV CP
              go_wp2_with (refine wpList_store_row rfl 76 (.tmp 5) (.tmp 45) rfl b5 (wq V) rfl rfl 76 _ RV2.out (by rw [HSP.out]; exact q_size16) (by rw [HSV.out, HSP.out]) (wq_one _) ?_)
              generalize World.setRow _ _ _ = w3 at *
              clear RV2 HX2 HSV HSP HVL HVO
              go_loopw [9] (fun v9 wr => ∃ k : Nat, k ≤ 16 ∧ v9 = .int .i64 (k : Int) ∧ Zx w wr (putL Y V t i k) V b5) (fun v9 _ => 16 - (intOf v9).toNat)
              case atStart => exact ⟨0, by omega, rfl, HX3.out⟩
              case round =>
                clear HX3
                obtain ⟨k, hk, rfl, X1⟩ := hrel
                have HX := Lib.hid X1
                clear X1
                by_cases h16 : k < 16
                · have hdm : decide ((k : Int) < 16) = true := by simp; omega
                  have hk0 : (k : Int) < 16 := by omega
                  have HE : Hid (putL Y V t i (k + 1) = (putL Y V t i k).set (ats t i k) (V.getD k 0)) := Lib.hid rfl
                  have hul : (putL Y V t i k).length = 128 := by rw [putL_length]; exact HYO.out.1
                  have cv := (HX.out.v.cell k).trans (wq_at _ k (by rw [HPL.out]; exact h16))
                  generalize putL Y V t i k = U at *
                  generalize V.getD k 0 = y at *
                  obtain ⟨h, r, m, n, s, p, ⟨hp, hp2, e1, e2, e3, e4, e5, e6, b1, b2, b3, b4, b6⟩ | hbad⟩ := ats_steps t i k h8 h16
                  case inr => omega
                  rw [← hp] at HE
                  have cb := (HX.out.x.rv.cell p).trans (wq_at _ p (by rw [hul]; exact hp2))
                  have fb := HX.out.x.rv.frozen p
                  generalize U.getD p 0 = y0 at *
                  have hl := HX.out.l
                  clear hp hul
                  rcases (show t = 0 ∨ t = 1 by omega) with h01 | h01
                  · have hte : ((t : Int) == 1) = false := by simp; omega
                    rw [if_neg (by omega)] at e3 e4
                    clear h01
                    go_wp2
                    go_roundw
                    case rel => exact ⟨k + 1, by omega, by go_num, by rw [HE.out]; exact HX.out.setX p y⟩
                    case measure => simp [intOf]; omega
                  · have hte : ((t : Int) == 1) = true := by simp; omega
                    rw [if_pos (by omega)] at e3 e4
                    clear h01
                    go_wp2
                    go_roundw
                    case rel => exact ⟨k + 1, by omega, by go_num, by rw [HE.out]; exact HX.out.setX p y⟩
                    case measure => simp [intOf]; omega
                · obtain rfl : k = 16 := by omega
                  have hdm : decide (((16 : Nat) : Int) < 16) = false := by simp
                  go_wp2
                  go_roundw
                  case rel => exact ⟨i + 1, by omega, by go_num, by rw [HM.out]; exact HX.out.x⟩
                  case measure => simp [intOf]; omega
        · obtain rfl : i = 8 := by omega
          have hdk : decide (((8 : Nat) : Int) < 8) = false := by simp
          go_wp2
          go_roundw
          case rel => exact ⟨t + 1, by omega, by go_num, by rw [HN.out]; exact HX.out⟩
          case measure => simp [intOf]; omega
    · obtain rfl : t = 2 := by omega
      have hdt : decide (((2 : Nat) : Int) < 2) = false := by simp
      have hX8 : Wx w wr (whole B) := HX.out
      have HLL : Hid ((wq (whole B)).size = 128) := Lib.hid (by rw [wq_size]; exact (whole_ok HB.out).1)
      have RV := Lib.hid hX8.rv
      have RZ := Lib.hid hX8.rz
      have HBB := Lib.hid hX8.below
      clear hX8 HX
      obtain ⟨z, hzz⟩ : ∃ z, z = whole B := ⟨_, rfl⟩
      rw [← hzz] at RV HLL
      have HZZ := Lib.hid hzz
      clear hzz
      go_wp2_with (first
        | refine wpList_load_row rfl 36 (.tmp 1) rfl w.heap.size rfl 36 (wq z) (0, 0) _ RV.out Tryd.underlying36 rfl (by rw [HLL.out]; exact b_size) ?_
        | refine wpList_store_row rfl 36 (.tmp 2) (.tmp 70) rfl (w.heap.size + 1) (wq z) rfl rfl 36 _ RZ.out (by rw [HLL.out]; exact b_size) (by rw [HLL.out]; rfl) (wq_one _) ?_)
      have hR := RowAt.setRow RZ.out (wq z)
      refine bodyPost_ret (v := .agg (wq z)) (results_cell_row rfl _ _ (w.heap.size + 1) 36 (wq z) (0, 0) _ rfl hR Tryd.underlying36 rfl (by rw [HLL.out]; exact b_size)) rfl ⟨by rw [HZZ.out], ?_⟩
      exact below_setRow HBB.out (by omega) _
end Go.Proofs.YtnbdmkgldjhcaaaDoor
