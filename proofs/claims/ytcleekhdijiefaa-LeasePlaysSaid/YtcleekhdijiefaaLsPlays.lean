/- The law LeasePlays. Conditions: those typed. -/
import Derived.Test.YtcleekhdijiefaaLsTk
namespace Go.Proofs.Ytcleekhdijiefaa
set_option maxRecDepth 50000
open Go.RowKit Bb

theorem zero_rows : (rzs [⟨none, 0, [], 0, false⟩, ⟨none, 0, [], 0, false⟩, ⟨none, 0, [], 0, false⟩]).toArray = #[.slice none 0 0, .int .i64 0, .bool false, .slice none 0 0, .int .i64 0, .bool false, .slice none 0 0, .int .i64 0, .bool false] := by
  simp [rzs, rzc]

set_option maxHeartbeats 12800000 in
theorem plays21_any (B0 : Int) {A : Option Addr} (cp : Nat) (l : List Lc) (w : World) (hr : Reads w w.heap.size A (lacs l)) :
    Calls Try.prog 3 #[.int .i64 B0, .slice A l.length cp] w fun e w' => e = .returned (.bool true) ∧ Below w.heap.size w w' := by
  have CA := Lib.hid (awake21_any w)
  have HR := Lib.hid hr
  clear hr
  go_enter Try.func3, Try.ntmps3
  go_wp2_with fail
  refine CA.out.mono ?_
  rintro e w1 ⟨rfl, hb⟩
  have HB1 := Lib.hid hb
  have hs1 := hb.size
  clear hb CA
  by_cases hx : B0 < 0 ∨ 1000 < B0 ∨ 60 < l.length
  · have hh : decide (B0 < 0) = true ∨ decide (B0 < 0) = false ∧ decide (1000 < B0) = true ∨ decide (B0 < 0) = false ∧ decide (1000 < B0) = false ∧ decide ((60 : Int) < (l.length : Int)) = true ∧ (60 : Int) < (l.length : Int) := by simp; omega
    clear hx
    rcases hh with d1 | ⟨d1, d2⟩ | ⟨d1, d2, d3, d4⟩
    all_goals
      go_wp2
      go_ret
      exact ⟨rfl, HB1.out⟩
  obtain ⟨B, rfl⟩ := Int.eq_ofNat_of_zero_le (show 0 ≤ B0 by omega)
  have hB : B ≤ 1000 := by omega
  have h60 : l.length ≤ 60 := by omega
  have CN := Lib.hid (anew_any B (by omega) w1)
  have d1 : decide ((B : Int) < 0) = false := by simp
  have d2 : decide ((1000 : Int) < (B : Int)) = false := by simp; omega
  have d2' : decide (1000 < B) = false := by simp; omega
  have d3 : decide ((60 : Int) < (l.length : Int)) = false := by simp; omega
  have d4 : (l.length : Int) ≤ 60 := by omega
  clear hx
  go_wp2_with fail
  refine CN.out.mono ?_
  rintro e w2 ⟨rfl, hA, hb⟩
  have HA2 := Lib.hid hA
  have HB2 := Lib.hid (HB1.out.trans (hb.mono hs1))
  have hs2 := hb.size
  clear hA hb CN HB1 d1 d2 d2' d3 d4
  generalize w1.heap.size = a at *
  obtain ⟨w3, hw3⟩ : ∃ w3, w3 = w2.alloc (.cells #[.pointer none, .pointer none, .pointer none] 29) := ⟨_, rfl⟩
  obtain ⟨w4, hw4⟩ : ∃ w4, w4 = w3.alloc (.cells #[.slice none 0 0, .int .i64 0, .bool false, .slice none 0 0, .int .i64 0, .bool false, .slice none 0 0, .int .i64 0, .bool false] 33) := ⟨_, rfl⟩
  obtain ⟨ob, hob⟩ : ∃ ob, ob = w2.heap.size := ⟨_, rfl⟩
  obtain ⟨rb, hrb⟩ : ∃ rb, rb = w3.heap.size := ⟨_, rfl⟩
  have hb3 : Below w2.heap.size w2 w3 := by rw [hw3]; exact (Below.refl _ _).alloc (Nat.le_refl _) _
  have hb4 : Below w3.heap.size w3 w4 := by rw [hw4]; exact (Below.refl _ _).alloc (Nat.le_refl _) _
  have O4 : RowAt w4 ob 29 (lp [] ++ nilp 3).toArray := by
    have : RowAt w3 ob 29 #[.pointer none, .pointer none, .pointer none] := by rw [hob, hw3]; exact RowAt.new _ _ _
    exact this.step hb4
  have R4 : RowAt w4 rb 33 (rzs [⟨none, 0, [], 0, false⟩, ⟨none, 0, [], 0, false⟩, ⟨none, 0, [], 0, false⟩]).toArray := by rw [hrb, hw4, zero_rows]; exact RowAt.new _ _ _
  have hbb := hb3.trans (hb4.mono hb3.size)
  have HO : Hid (Po w w4 a B ob []) := Lib.hid ⟨by simp, RowAt.step HA2.out hbb, fun k hk => absurd hk (by simp), fun i j hi => absurd hi (by simp), fun k hk => absurd hk (by simp), O4, HB2.out.trans (hbb.mono (by omega))⟩
  have HR4 := Lib.hid R4
  have hob' : w.heap.size ≤ ob := by omega
  have hrb' : w.heap.size ≤ rb := by have := hb3.size; omega
  have hs34 : w3.heap.size = w2.heap.size + 1 := by rw [hw3]; simp
  go_wp2
  rw [← hw3, ← hw4, ← hs34, ← hob, ← hrb]
  clear hw3 hw4 hob hrb hb3 hb4 O4 R4 hbb HA2 HB2 hs34
  go_loopw [42] (fun v42 wr => ∃ L : List Ls, v42 = .int .i64 (L.length : Int) ∧ Hid (Po w wr a B ob L) ∧ Hid (RowAt wr rb 33 (rzs [⟨none, 0, [], 0, false⟩, ⟨none, 0, [], 0, false⟩, ⟨none, 0, [], 0, false⟩]).toArray)) (fun v42 _ => 3 - (intOf v42).toNat)
  case atStart => exact ⟨[], rfl, HO, HR4⟩
  case round =>
    clear HO HR4
    obtain ⟨L, rfl, HO, HR4⟩ := hrel
    have hL3 := HO.out.le
    by_cases hlt : L.length < 3
    · have hdt : decide ((L.length : Int) < 3) = true := by simp; omega
      have hdt' : decide (L.length < 3) = true := by simp; omega
      have hi0 : (0 : Int) ≤ (L.length : Int) := by omega
      have hi1 : (L.length : Int) < 3 := by omega
      have CO := Lib.hid (lopen_any a wr)
      have y0 : (wr.alloc (.cells (lcs a (.slice none 0 0) 0 0 false) 48)).cell? ⟨ob, L.length, none⟩ = some (.pointer none) := by
        rw [(RowAt.alloc HO.out.own _).cell L.length, List.getElem?_toArray, List.getElem?_append_right (by simp [lp])]
        obtain ⟨m, hm⟩ : ∃ m, 3 - L.length = m + 1 := ⟨3 - L.length - 1, by omega⟩
        simp [lp, nilp, hm, List.replicate_succ]
      have f0 := (RowAt.alloc HO.out.own (.cells (lcs a (.slice none 0 0) 0 0 false) 48)).frozen L.length
      have HO2 := Lib.hid (HO.out.more hlt hob' rfl)
      have HR5 := Lib.hid (RowAt.setOther (RowAt.alloc HR4.out (.cells (lcs a (.slice none 0 0) 0 0 false) 48)) ⟨ob, L.length, none⟩ (RowAt.unlike HO.out.own HR4.out (by rfl)) (.pointer (some ⟨wr.heap.size, 0, none⟩)))
      clear HO HR4
      go_wp2_with fail
      refine CO.out.mono ?_
      rintro e w5 ⟨rfl, hw5⟩
      rw [← hw5] at HO2 HR5 y0 f0
      clear hw5 CO
      go_wp2
      go_roundw
      case rel => exact ⟨L ++ [nl wr], by simp, HO2, HR5⟩
      case measure => simp [intOf]; omega
    · have hl3 : L.length = 3 := by omega
      rw [hl3]
      have hdt : decide (((3 : Nat) : Int) < 3) = false := by simp
      have hdt' : decide (3 < 3) = false := by simp
      have hz : ht L = 0 ∧ ct L = 0 := by
          have H := HO.out
          match L, hl3 with
          | [x, y, z], _ =>
            have e0 := (H.fresh 0 (by simp)).1
            have e1 := (H.fresh 1 (by simp)).1
            have e2 := (H.fresh 2 (by simp)).1
            simp at e0 e1 e2
            simp [ht, ct, e0, e1, e2, hs]
      have HZ := Lib.hid hz
      have HP : Hid (Pa w wr a B 0 ob L) := Lib.hid (by
        have H := HO.out
        refine ⟨hl3, by rw [hz.1, hz.2]; exact H.are, H.ls, H.apart, ?_, by omega, H.below, by rw [hz.1]; exact ⟨Nat.zero_le _, hB⟩⟩
        have := H.own
        rw [hl3] at this
        simpa [nilp] using this)
      have HW : Hid (Rw w wr rb [⟨none, 0, [], 0, false⟩, ⟨none, 0, [], 0, false⟩, ⟨none, 0, [], 0, false⟩]) := Lib.hid ⟨rfl, HR4.out, fun k hk => by
        rcases (show k = 0 ∨ k = 1 ∨ k = 2 by simp at hk; omega) with rfl | rfl | rfl <;> exact World.ownsRow_nil _ _ _ _, hrb'⟩
      have HS : Hid (Same L [⟨none, 0, [], 0, false⟩, ⟨none, 0, [], 0, false⟩, ⟨none, 0, [], 0, false⟩]) := Lib.hid fun k h1 h2 => by
        have := HO.out.fresh k h1
        unfold Like
        rw [this.1, this.2.1, this.2.2]
        rcases (show k = 0 ∨ k = 1 ∨ k = 2 by omega) with rfl | rfl | rfl <;> exact ⟨rfl, rfl, rfl, rfl, fun e => by cases e⟩
      clear HO HR4
      go_wp2
      go_loopg [55] l.length (fun g v55 wr => ∃ i h L Z, i + g = l.length ∧ v55 = .int .i64 ((i : Nat) : Int) ∧ ct L ≤ i ∧ Hid (Pa w wr a B h ob L) ∧ Hid (Rw w wr rb Z) ∧ Hid (Same L Z))
      case atStart =>
        exact ⟨0, 0, L, _, by omega, rfl, Nat.le_of_eq HZ.out.2, HP, HW, HS⟩
      case round =>
        clear HP HW HS HZ hz hl3 hL3 hlt
        obtain ⟨i, h, L, Z, hig, rfl, hci, HP, HW, HS⟩ := hrel
        have hWr := HP.out.below.size
        by_cases hlt : i < l.length
        · have hdt : decide ((i : Int) < (l.length : Int)) = true := by simp; omega
          have hi0 : (0 : Int) ≤ (i : Int) := by omega
          have hi1 : (i : Int) < (l.length : Int) := by omega
          obtain ⟨g, rfl⟩ : ∃ g, gk = g + 1 := ⟨gk - 1, by omega⟩
          obtain ⟨b, off, rfl, hbB, c0, c1, c2⟩ := lact_reads HR.out i hlt
          have y0 := (HP.out.below.cell (p := ⟨b, off + i * 3, none⟩) hbB).trans c0
          have y1 := (HP.out.below.cell (p := ⟨b, off + i * 3 + 1, none⟩) hbB).trans c1
          have y2 := (HP.out.below.cell (p := ⟨b, off + i * 3 + 2, none⟩) hbB).trans c2
          clear c0 c1 c2
          generalize l[i] = x at *
          obtain ⟨d, o, n⟩ := x
          dsimp only at *
          obtain ⟨w1, e1⟩ : ∃ w1, w1 = wr.alloc (.cells #[.int .i64 d, .int .i64 o, .int .i64 n] 37) := ⟨_, rfl⟩
          have hb1 : Below wr.heap.size wr w1 := by rw [e1]; exact (Below.refl _ wr).alloc (Nat.le_refl _) _
          have HX : Hid (RowAt w1 wr.heap.size 37 #[.int .i64 d, .int .i64 o, .int .i64 n]) := Lib.hid (by rw [e1]; exact RowAt.new _ _ _)
          have HP1 := Lib.hid (HP.out.step hb1)
          have HW1 := Lib.hid (HW.out.step hb1)
          clear hb1
          by_cases ho : o < 0 ∨ 2 < o
          · have hh : decide (o < 0) = true ∨ decide (o < 0) = false ∧ decide (2 < o) = true := by simp; omega
            clear ho
            rcases hh with d1 | ⟨d1, d2⟩
            all_goals
              go_wp2
              rw [← e1]
              go_roundg g
              case measure => omega
              case rel => exact ⟨i + 1, h, L, Z, by omega, by go_num, by omega, HP1, HW1, HS⟩
          · obtain ⟨k, rfl⟩ := Int.eq_ofNat_of_zero_le (show 0 ≤ o by omega)
            have hk3 : k < 3 := by omega
            have hkL : k < L.length := by rw [HP.out.len]; exact hk3
            have hkZ : k < Z.length := by rw [HW.out.len]; exact hk3
            have d1 : decide ((k : Int) < 0) = false := by simp
            have d2 : decide ((2 : Int) < (k : Int)) = false := by simp; omega
            have d2' : decide (2 < k) = false := by simp; omega
            have hk0 : (0 : Int) ≤ (k : Int) := by omega
            have hk3' : (k : Int) < 3 := by omega
            have z0 : wr.cell? ⟨ob, k, none⟩ = some (.pointer (some ⟨L[k].b, 0, none⟩)) := by
              rw [HP.out.own.cell k, List.getElem?_toArray]
              simp [lp, hkL]
            have hob1 := HP.out.own.lt
            have hob2 : ¬ ob = wr.heap.size := by omega
            have HBK := Lib.hid (show ∀ L', lp L' = lp L → ∀ h' : k < L'.length, L'[k].b = L[k].b from fun L' e h' => by
              have := congrArg (fun s : List Value => s[k]?) e
              simp [lp, hkL, h'] at this
              exact this)
            obtain ⟨q, hq⟩ : ∃ q, q = wr.heap.size := ⟨_, rfl⟩
            have hqw : w.heap.size ≤ q := by omega
            have E1 := Lib.hid e1
            have EQ := Lib.hid hq
            rw [← hq] at HX
            clear ho HP HW hq e1
            go_upto_if 73 with fail
            rw [← E1.out, ← EQ.out]
            clear y0 y1 y2 z0 E1 EQ hob1 hob2
            generalize L[k].b = lb at *
            go_cut [13, 15, 16, 17, 18, 19] from 74 to 128 (fun _ _ _ _ _ _ wx => ∃ h' L' Z', ct L' ≤ i + 1 ∧ lp L' = lp L ∧ (d = 1 → ct L' ≤ i) ∧ Hid (Pa w wx a B h' ob L') ∧ Hid (Rw w wx rb Z') ∧ Hid (Same L' Z') ∧ Hid (RowAt wx q 37 #[.int .i64 d, .int .i64 (k : Int), .int .i64 n]))
            case first =>
              by_cases hd0 : d = 0
              · subst hd0
                have hZ3 : Z.length = 3 := HW1.out.len
                have HT := Lib.hid (HS.out.total (by rw [HP1.out.len, hZ3]))
                have hfit := HP1.out.fit
                have HLD := Lib.hid HW1.out.loads
                have hzt : zt Z ≤ 1000 := by rw [HT.out]; omega
                go_wp2_with (refine wpList_load_of rfl _ _ rfl _ _ rfl HLD.out ?_)
                go_loopw [13, 75] (fun v13 v75 wr3 => ∃ j : Nat, j ≤ 3 ∧ v13 = .int .i64 (zt (Z.take j) : Int) ∧ v75 = .int .i64 (j : Int) ∧ Hid (Below w1.heap.size w1 wr3)) (fun _ v75 _ => 3 - (intOf v75).toNat)
                case atStart => exact ⟨0, by omega, rfl, rfl, Lib.hid (Below.refl _ _)⟩
                case round =>
                  obtain ⟨j, hj3, rfl, rfl, HB3⟩ := hrel
                  obtain ⟨wr3, rfl⟩ : ∃ wo : World, wo = wr := ⟨_, rfl⟩
                  by_cases hjl : j < 3
                  · have hjt : decide ((j : Int) < 3) = true := by simp; omega
                    have hjt' : decide (j < 3) = true := by simp; omega
                    have hj0 : (0 : Int) ≤ (j : Int) := by omega
                    have hj1 : (j : Int) < 3 := by omega
                    have hjZ : j < Z.length := by omega
                    have hix := row_index Z hZ3 j hjZ
                    have hrd := (HW1.out.step HB3.out).reads j hjZ
                    have hzs := zt_take Z j hjZ
                    have hz1 := zt_part Z j
                    have hz2 := zt_part Z (j + 1)
                    rw [hzs] at hz2
                    have hln : Z[j].zs.length ≤ 60 := by
                      have := HS.out j (by rw [HP1.out.len]; exact hjl) hjZ
                      have h2 := ct_ge L j (by rw [HP1.out.len]; exact hjl)
                      rw [this.2.1]
                      omega
                    have HZS := Lib.hid hzs
                    clear hzs
                    generalize Z[j] = r at *
                    obtain ⟨rA, rc, rz, rhi, rcl⟩ := r
                    simp only [rzc] at hix hrd hz2 hln HZS
                    have CH := Lib.hid (rheld_any rA rc rhi rcl rz (wr3.alloc (.cells #[.slice rA rz.length rc, .int .i64 (rhi : Int), .bool rcl] 32)) ((hrd.alloc (Nat.le_refl _) _).more (by simp)) (by omega) (by omega))
                    unfold rcs at CH
                    have HB4 := Lib.hid (HB3.out.alloc HB3.out.size (.cells #[.slice rA rz.length rc, .int .i64 (rhi : Int), .bool rcl] 32))
                    clear hrd
                    generalize zt (Z.take j) = U at *
                    go_wp2_with fail
                    refine CH.out.mono ?_
                    rintro e w5 ⟨rfl, hb5⟩
                    have HB5 := Lib.hid (HB4.out.trans (hb5.mono HB4.out.size))
                    clear CH hb5 HB4 HB3
                    go_wp2
                    go_roundw
                    case rel => exact ⟨j + 1, by omega, by rw [HZS.out]; go_num, by go_num, HB5⟩
                    case measure => simp [intOf]; omega
                  · obtain rfl : j = 3 := by omega
                    have hjt : decide (((3 : Nat) : Int) < 3) = false := by simp
                    have e3 : Z.take 3 = Z := List.take_of_length_le (by omega)
                    rw [e3]
                    have HP3 := Lib.hid (HP1.out.step HB3.out)
                    have HW3 := Lib.hid (HW1.out.step HB3.out)
                    have HX3 := Lib.hid (HX.out.step HB3.out)
                    clear HP1 HW1 HX HLD HB3 e3
                    go_upto_region 25 with fail
                    obtain ⟨left, hleft⟩ : ∃ left : Nat, (B : Int) - (zt Z : Int) = left := ⟨B - zt Z, by rw [HT.out]; omega⟩
                    have hw : IntKind.i64.wrap ((B : Int) - (zt Z : Int)) = (left : Int) := by rw [IntKind.wrap_i64]; omega
                    have hlk := HS.out k hkL hkZ
                    have hcg := ct_ge L k hkL
                    have hhg := ht_ge L k hkL
                    obtain ⟨zs', hi', cl', z, hTk, hCT⟩ := rtk_any Z[k] left n (by omega) (by rw [hlk.2.1]; omega) (by rw [hlk.1]; omega)
                    obtain ⟨N0, hN0⟩ : ∃ N0, N0 = w.heap.size := ⟨_, rfl⟩
                    obtain ⟨N3, hN3⟩ : ∃ N3, N3 = wr3.heap.size := ⟨_, rfl⟩
                    have HN3 := Lib.hid hN3.symm
                    have CT : Hid (∀ w', Below wr3.heap.size wr3 w' → Calls Try.prog 9 #[.agg (rzc Z[k]).toArray, .int .i64 (left : Int), .int .i64 n] w' fun e w'' => ∃ A c, e = .returned (.tuple #[.agg (rzc ⟨A, c, zs', hi', cl'⟩).toArray, .int .i64 z]) ∧ w''.ownsRow N0 3 1 (.slice A zs'.length c) zs'.length (ints zs') ∧ Below w'.heap.size w' w'') := Lib.hid fun w' hb => by
                      have hW := HW3.out.step hb
                      have h1 := HP3.out.below.size
                      have h2 := hb.size
                      rw [hN0]
                      exact hCT w' _ (hW.own k hkZ) (by omega)
                    have HLd : Hid (∀ w', Below wr3.heap.size wr3 w' → (loadVar 32 ⟨rb, k * 3, none⟩).run Try.prog w' = .ok (.agg (rzc Z[k]).toArray) w') := Lib.hid fun w' hb => (HW3.out.step hb).load k hkZ
                    have HXc : Hid (∀ w', Below wr3.heap.size wr3 w' → w'.cell? ⟨q, 1, none⟩ = some (.int .i64 (k : Int)) ∧ w'.cell? ⟨q, 2, none⟩ = some (.int .i64 n)) := Lib.hid fun w' hb => ⟨by rw [(HX3.out.step hb).cell 1]; rfl, by rw [(HX3.out.step hb).cell 2]; rfl⟩
                    have HTk := Lib.hid hTk
                    clear hlk hcg hhg hTk hCT hN3
                    refine wp_region_lag 14 [Is (.pointer (some ⟨q, 1, none⟩)), Is (.int .i64 (k : Int)), Is (.pointer (some ⟨rb, k * 3, none⟩)), Is (.agg (rzc Z[k]).toArray), Is (.int .i64 (B : Int)), Is (.int .i64 (zt Z : Int)), Is (.int .i64 (left : Int)), Is (.pointer (some ⟨q, 2, none⟩)), Is (.int .i64 n), MadeT N0 zs' hi' cl' z, MadeT N0 zs' hi' cl' z, MadeR N0 zs' hi' cl', Is (.int .i64 z), FreshR N3, Free, Is (.int .i64 z)] [Is (.pointer (some ⟨q, 1, none⟩)), Is (.int .i64 (k : Int)), Is (.pointer (some ⟨rb, k * 3, none⟩)), Is (.agg (rzc Z[k]).toArray), Is (.int .i64 (B : Int)), Is (.int .i64 (zt Z : Int)), Is (.int .i64 (left : Int)), Is (.pointer (some ⟨q, 2, none⟩)), Is (.int .i64 n), Free, PairT zs' hi' cl' z, Free, Is (.int .i64 z), HasR N0 N3 zs' hi' cl', Free, Is (.int .i64 z)] (by kernel_rfl) (by kernel_rfl) rfl (by decide) ⟨stable_is _, stable_is _, stable_is _, stable_is _, stable_is _, stable_is _, stable_is _, stable_is _, stable_is _, stable_madet _ _ _ _ _, stable_madet _ _ _ _ _, stable_mader _ _ _ _, stable_is _, stable_freshr _, stable_free, stable_is _, trivial⟩ ⟨stable_is _, stable_is _, stable_is _, stable_is _, stable_is _, stable_is _, stable_is _, stable_is _, stable_is _, stable_free, stable_pairt _ _ _ _, stable_free, stable_is _, stable_hasr _ _ _ _ _, stable_free, stable_is _, trivial⟩ (fun _ => trivial) ⟨?d0, ?d1, ?d2, ?d3, ?d4, ?d5, ?d6, ?d7, ?d8, ?d9, ?d10, ?d11, ?d12, ?d13, fun h => absurd rfl h, ?d15, trivial⟩ ?mid ⟨fun _ h => (by rw [show waits _ 14 0 = true from by kernel_rfl] at h; cases h), fun _ h => (by rw [show waits _ 14 1 = true from by kernel_rfl] at h; cases h), fun _ h => (by rw [show waits _ 14 2 = true from by kernel_rfl] at h; cases h), fun _ h => (by rw [show waits _ 14 3 = true from by kernel_rfl] at h; cases h), fun _ h => (by rw [show waits _ 14 4 = true from by kernel_rfl] at h; cases h), fun _ h => (by rw [show waits _ 14 5 = true from by kernel_rfl] at h; cases h), fun _ h => (by rw [show waits _ 14 6 = true from by kernel_rfl] at h; cases h), fun _ h => (by rw [show waits _ 14 7 = true from by kernel_rfl] at h; cases h), fun _ h => (by rw [show waits _ 14 8 = true from by kernel_rfl] at h; cases h), fun _ h => (by rw [show waits _ 14 9 = true from by kernel_rfl] at h; cases h), fun _ h => (by rw [show waits _ 14 10 = true from by kernel_rfl] at h; cases h), fun _ h => (by rw [show waits _ 14 11 = true from by kernel_rfl] at h; cases h), ?e12, fun _ h => (by rw [show waits _ 14 13 = true from by kernel_rfl] at h; cases h), fun h _ => absurd rfl h, ?e15, trivial⟩ ?fin
                    case d0 =>
                      intro _ a w C
                      exact part_on (wanted_free rfl _) (op_value (actf_run (k := 1) rfl (.inl rfl) (C.was 11 (by kernel_rfl))) rfl)
                    case d1 =>
                      intro _ a w C
                      exact part_on (wanted_free rfl _) (op_value (lint_run rfl (C.on (j := 0) (by kernel_rfl) rfl rfl) (HXc.out w C.below).1) rfl)
                    case d2 =>
                      intro _ a w C
                      exact part_on (wanted_free rfl _) (op_value (ixrow_run rfl (C.was 8 (by kernel_rfl)) (C.on (j := 1) (by kernel_rfl) rfl rfl) hk3) rfl)
                    case d3 =>
                      intro _ a w C
                      exact part_on (wanted_free rfl _) (op_value (load_run rfl (C.on (j := 2) (by kernel_rfl) rfl rfl) (HLd.out w C.below)) rfl)
                    case d4 =>
                      intro _ a w C
                      exact part_on (wanted_free rfl _) (op_move (.inl rfl) (C.was 0 (by kernel_rfl)))
                    case d5 =>
                      intro _ a w C
                      exact part_on (wanted_free rfl _) (op_move (.inl rfl) (C.was 13 (by kernel_rfl)))
                    case d6 =>
                      intro _ a w C
                      exact part_on (wanted_free rfl _) (op_bin rfl (C.on (j := 4) (by kernel_rfl) rfl rfl) (C.on (j := 5) (by kernel_rfl) rfl rfl) rfl (by simp [go_sem, hw]) rfl)
                    case d7 =>
                      intro _ a w C
                      exact part_on (wanted_free rfl _) (op_value (actf_run (k := 2) rfl (.inr rfl) (C.was 11 (by kernel_rfl))) rfl)
                    case d8 =>
                      intro _ a w C
                      exact part_on (wanted_free rfl _) (op_value (lint_run rfl (C.on (j := 7) (by kernel_rfl) rfl rfl) (HXc.out w C.below).2) rfl)
                    case d9 =>
                      intro _ a w C
                      exact part_on (wanted_free rfl _) (op_call3 rfl (reg_enters Try.func9 (by kernel_rfl) (by kernel_rfl)) (C.on (j := 3) (by kernel_rfl) rfl rfl) (C.on (j := 6) (by kernel_rfl) rfl rfl) (C.on (j := 8) (by kernel_rfl) rfl rfl) ((CT.out w C.below).mono fun _ _ h => by obtain ⟨A, c, h1, h2, h3⟩ := h; exact ⟨_, h1, ⟨A, c, rfl, h2⟩, h3⟩))
                    case d10 =>
                      intro _ a w C
                      exact part_on (wanted_free rfl _) (op_move (.inl rfl) (C.on (j := 9) (by kernel_rfl) rfl rfl))
                    case d11 =>
                      intro _ a w C
                      obtain ⟨A, c, e1, e2⟩ := (C.on (j := 10) (by kernel_rfl) rfl rfl); exact part_on (wanted_free rfl _) (op_value (extract_run rfl e1 rfl) ⟨A, c, rfl, e2⟩)
                    case d12 =>
                      intro _ a w C
                      obtain ⟨A, c, e1, _⟩ := (C.on (j := 10) (by kernel_rfl) rfl rfl); exact part_on (wanted_free rfl _) (op_value (extract_run rfl e1 rfl) rfl)
                    case d13 =>
                      intro _ a w C
                      exact part_on (wanted_free rfl _) (op_made (alloc_run rfl) ⟨_, rfl, HN3.out ▸ C.below.size, RowAt.new _ _ _⟩ ((Below.refl _ w).alloc (Nat.le_refl _) _))
                    case d15 =>
                      intro _ a w C
                      exact part_on (wanted_free rfl _) (op_move (.inr rfl) (C.on (j := 12) (by kernel_rfl) rfl rfl))
                    case mid =>
                      intro o ho a w C
                      injection ho with ho
                      subst ho
                      refine ⟨wanted_free rfl _, ?_⟩
                      obtain ⟨qn, e1, hq1, hR⟩ := (C.on (j := 13) (by kernel_rfl) rfl rfl)
                      obtain ⟨A', c', e2, ho'⟩ := (C.on (j := 11) (by kernel_rfl) rfl rfl)
                      have hst := sub_store (P := Try.prog) hR row_size 0 (rzc ⟨A', c', zs', hi', cl'⟩) rfl (by simp) (rzc_one _)
                      have hK : Kept (fun j => j = qn) w (w.setRow qn (rzc ⟨A', c', zs', hi', cl'⟩).toArray) := ⟨rfl, rfl, rfl, Nat.le_of_eq (setRow_size _ _ _).symm, fun j hj hne => setRow_other _ _ _ _ hne⟩
                      refine turns_store (w' := w.setRow qn (rzc ⟨A', c', zs', hi', cl'⟩).toArray) rfl e1 e2 (by simpa using hst) trivial (C.below.trans (hK.under (fun j e => by rw [e]; exact HN3.out ▸ hq1) C.below.size)) ?_
                      · intro i o2 d hi hd hne h
                        have hil := (List.getElem?_eq_some_iff.1 hi).1
                        have hil : i < 16 := hil
                        obtain rfl | rfl | rfl | rfl | rfl | rfl | rfl | rfl | rfl | rfl | rfl | rfl | rfl | rfl | rfl | rfl : i = 0 ∨ i = 1 ∨ i = 2 ∨ i = 3 ∨ i = 4 ∨ i = 5 ∨ i = 6 ∨ i = 7 ∨ i = 8 ∨ i = 9 ∨ i = 10 ∨ i = 11 ∨ i = 12 ∨ i = 13 ∨ i = 14 ∨ i = 15 := by omega
                        · exact h
                        · exact h
                        · exact h
                        · exact h
                        · exact h
                        · exact h
                        · exact h
                        · exact h
                        · exact h
                        · trivial
                        · obtain ⟨A, c, e, _⟩ := h; exact ⟨A, c, e, trivial⟩
                        · trivial
                        · exact h
                        · injection hi with hi; subst hi; injection hd with hd; subst hd; exact ⟨qn, A', c', e1, hq1, RowAt.setRow hR _, own_kept' ho' hK fun j k1 k2 => by subst k2; exact own_unlike ho' hR (by rfl) k1⟩
                        · exact absurd rfl hne
                        · exact h
                    case e12 =>
                      intro _ _ a w C
                      obtain ⟨A, c, e1, _⟩ := (C.on (j := 10) (by kernel_rfl) rfl rfl); exact part_on (wanted_free rfl _) (op_value (extract_run rfl e1 rfl) rfl)
                    case e15 =>
                      intro _ _ a w C
                      exact part_on (wanted_free rfl _) (op_move (.inr rfl) (C.on (j := 12) (by kernel_rfl) rfl rfl))
                    rintro wF hbF _ rfl _ rfl _ rfl _ rfl _ rfl _ rfl _ rfl _ rfl _ rfl x93 hx93 x83 hx83 x94 hx94 _ rfl x16 hx16 xnone hxnone _ rfl
                    simp only [Fin, setAt, Exit.then, List.setIfInBounds_toArray, List.set_cons_succ, List.set_cons_zero]
                    obtain ⟨qn, A', c', rfl, hqn, hRn, hon⟩ := hx16
                    rw [hN0] at hon
                    clear hx93 hx83 hx94 hqn CT HLd HXc HN3 hw hN0
                    have HP4 := Lib.hid (HP3.out.step hbF)
                    have HW4 := Lib.hid (HW3.out.step hbF)
                    have HX4 := Lib.hid (HX3.out.step hbF)
                    have HRn := Lib.hid hRn
                    have HOn := Lib.hid hon
                    have eleft : (left : Int) = (B : Int) - (ht L : Int) := by rw [← HT.out]; exact hleft.symm
                    have hlb := HBK.out L rfl hkL
                    have x2 : wF.cell? ⟨q, 2, none⟩ = some (.int .i64 n) := by rw [HX4.out.cell 2]; rfl
                    clear hRn hon hbF HP3 HW3 HX3
                    rcases HTk.out with ⟨hbad, rfl, rfl, rfl⟩ | ⟨hcl, rfl, kk, rfl, hle, hz1, hz2, hz3⟩
                    · rw [eleft] at hbad
                      have hz0 := bad_not _ _ _ _ hbad
                      have hlk := HS.out k hkL hkZ
                      rw [hlk.2.2.2.1] at hbad
                      have C := Lib.hid (ltk_bad HP4.out k hkL n z hbad)
                      rw [hlb] at C
                      have ez0 : (z == 0) = false := by simpa using hz0
                      have ez1 : (z != 0) = true := by simpa using hz0
                      clear hbad hz0 hlk HTk hlb eleft hleft
                      go_wp2_with fail
                      refine C.out.mono ?_
                      rintro e wG ⟨rfl, qd, rfl⟩
                      have hbG := below_drewN (Below.refl wF.heap.size wF) qd
                      have HP5 := Lib.hid (HP4.out.step hbG)
                      have HW5 := Lib.hid (HW4.out.step hbG)
                      have HX5 := Lib.hid (HX4.out.step hbG)
                      have HRn5 := Lib.hid (HRn.out.step hbG)
                      have HOn5 := Lib.hid (own_leaves HOn.out (.below hbG _))
                      clear C HP4 HW4 HX4 HRn HOn x2 hbG
                      generalize wF.drewN qd = wG at *
                      go_upto_region 27 with fail
                      refine wp_region_text [Is (.int .i64 z), Is (.int .i64 z), Is (.bool false), Is (.bool false), Is (.int .i64 z), Is (.bool false), Is (.bool false), Is undef, Is undef, Is undef, Is undef, Is undef, Is (.bool false), Is (.bool false), Is (.bool false), Is (.int .i64 z), Is (.bool true), Is (.bool true), Is (.pointer none), Is (.bool false), Is (.bool false), Is (.bool false)] (by kernel_rfl) (by kernel_rfl) rfl ⟨stable_is _, stable_is _, stable_is _, stable_is _, stable_is _, stable_is _, stable_is _, stable_is _, stable_is _, stable_is _, stable_is _, stable_is _, stable_is _, stable_is _, stable_is _, stable_is _, stable_is _, stable_is _, stable_is _, stable_is _, stable_is _, stable_is _, trivial⟩ ⟨?_, ?_, ?_, ?_, ?_, ?_, ?_, ?_, ?_, ?_, ?_, ?_, ?_, ?_, ?_, ?_, ?_, ?_, ?_, ?_, ?_, ?_, trivial⟩ ?_
                      · intro a w C
                        exact part_on (wanted_free rfl _) (op_move (.inl rfl) (C.was 19 (by kernel_rfl)))
                      · intro a w C
                        exact part_on (wanted_free rfl _) (op_move (.inl rfl) (C.was 17 (by kernel_rfl)))
                      · intro a w C
                        exact part_on (wanted_free rfl _) (op_bin rfl (C.on (j := 0) (by kernel_rfl) rfl rfl) (C.on (j := 1) (by kernel_rfl) rfl rfl) rfl (by simp [go_sem]) rfl)
                      · intro a w C
                        exact part_on (wanted_free rfl _) (op_move (.inl rfl) (C.on (j := 2) (by kernel_rfl) rfl rfl))
                      · intro a w C
                        exact part_on (wanted_on (j := 3) rfl rfl rfl (C.on (j := 3) (by kernel_rfl) rfl rfl)) (op_move (.inl rfl) (C.was 19 (by kernel_rfl)))
                      · intro a w C
                        exact part_on (wanted_on (j := 3) rfl rfl rfl (C.on (j := 3) (by kernel_rfl) rfl rfl)) (op_bin rfl (C.on (j := 4) (by kernel_rfl) rfl rfl) rfl rfl (by simp [go_sem, ez0]) rfl)
                      · intro a w C
                        exact part_on (wanted_on (j := 3) rfl rfl rfl (C.on (j := 3) (by kernel_rfl) rfl rfl)) (op_move (.inl rfl) (C.on (j := 5) (by kernel_rfl) rfl rfl))
                      · intro a w C
                        exact part_off (wanted_off (j := 6) rfl rfl rfl (C.on (j := 6) (by kernel_rfl) rfl rfl)) rfl
                      · intro a w C
                        exact part_off (wanted_off (j := 6) rfl rfl rfl (C.on (j := 6) (by kernel_rfl) rfl rfl)) rfl
                      · intro a w C
                        exact part_off (wanted_off (j := 6) rfl rfl rfl (C.on (j := 6) (by kernel_rfl) rfl rfl)) rfl
                      · intro a w C
                        exact part_off (wanted_off (j := 6) rfl rfl rfl (C.on (j := 6) (by kernel_rfl) rfl rfl)) rfl
                      · intro a w C
                        exact part_off (wanted_off (j := 6) rfl rfl rfl (C.on (j := 6) (by kernel_rfl) rfl rfl)) rfl
                      · intro a w C
                        exact part_on (wanted_on (j := 3) rfl rfl rfl (C.on (j := 3) (by kernel_rfl) rfl rfl)) (op_pick (k := false) rfl (C.on (j := 6) (by kernel_rfl) rfl rfl) rfl)
                      · intro a w C
                        exact part_on (wanted_free rfl _) (op_pick (k := false) rfl (C.on (j := 3) (by kernel_rfl) rfl rfl) (C.on (j := 12) (by kernel_rfl) rfl rfl))
                      · intro a w C
                        exact part_on (wanted_free rfl _) (op_move (.inl rfl) (C.on (j := 13) (by kernel_rfl) rfl rfl))
                      · intro a w C
                        exact part_on (wanted_on (j := 14) rfl rfl rfl (C.on (j := 14) (by kernel_rfl) rfl rfl)) (op_move (.inl rfl) (C.was 19 (by kernel_rfl)))
                      · intro a w C
                        exact part_on (wanted_on (j := 14) rfl rfl rfl (C.on (j := 14) (by kernel_rfl) rfl rfl)) (op_bin rfl (C.on (j := 15) (by kernel_rfl) rfl rfl) rfl rfl (by simp [go_sem, ez1]) rfl)
                      · intro a w C
                        exact part_on (wanted_on (j := 14) rfl rfl rfl (C.on (j := 14) (by kernel_rfl) rfl rfl)) (op_move (.inl rfl) (C.on (j := 16) (by kernel_rfl) rfl rfl))
                      · intro a w C
                        exact part_on (wanted_on (j := 17) rfl rfl rfl (C.on (j := 17) (by kernel_rfl) rfl rfl)) (op_move (.inl rfl) (C.was 18 (by kernel_rfl)))
                      · intro a w C
                        exact part_on (wanted_on (j := 17) rfl rfl rfl (C.on (j := 17) (by kernel_rfl) rfl rfl)) (op_bin rfl (C.on (j := 18) (by kernel_rfl) rfl rfl) rfl rfl (by simp [go_sem]) rfl)
                      · intro a w C
                        exact part_on (wanted_on (j := 14) rfl rfl rfl (C.on (j := 14) (by kernel_rfl) rfl rfl)) (op_pick (k := true) rfl (C.on (j := 17) (by kernel_rfl) rfl rfl) (C.on (j := 19) (by kernel_rfl) rfl rfl))
                      · intro a w C
                        exact part_on (wanted_free rfl _) (op_pick (k := false) rfl (C.on (j := 14) (by kernel_rfl) rfl rfl) (C.on (j := 20) (by kernel_rfl) rfl rfl))
                      rintro wF hbF _ rfl _ rfl _ rfl _ rfl _ rfl _ rfl _ rfl _ rfl _ rfl _ rfl _ rfl _ rfl _ rfl _ rfl _ rfl _ rfl _ rfl _ rfl _ rfl _ rfl _ rfl _ rfl
                      simp only [Fin, setAt, Exit.then, List.setIfInBounds_toArray, List.set_cons_succ, List.set_cons_zero]
                      have HP6 := Lib.hid (HP5.out.step hbF)
                      have HW6 := Lib.hid (HW5.out.step hbF)
                      have HX6 := Lib.hid (HX5.out.step hbF)
                      have HRn6 := Lib.hid (HRn5.out.step hbF)
                      have HOn6 := own_leaves HOn5.out (.below hbF _)
                      clear HP5 HW5 HX5 HRn5 HOn5 hbF
                      have x1 : wF.cell? ⟨q, 1, none⟩ = some (.int .i64 (k : Int)) := by rw [HX6.out.cell 1]; rfl
                      obtain ⟨hst, hW7, hK7⟩ := HW6.out.set k hkZ (r := ⟨A', c', Z[k].zs, Z[k].high, Z[k].closed⟩) HOn6
                      have HP7 := Lib.hid (HP6.out.far hK7 (fun j e => by rw [e]; exact hrb') fun j e => by subst e; exact ⟨_, _, HW6.out.row, by rfl, by rfl, by rfl, by rfl, by rfl, by rfl⟩)
                      have HX7 := Lib.hid (RowAt.kept HX6.out hK7 fun e => RowAt.unlike HX6.out HW6.out.row (by rfl) e)
                      have HST := Lib.hid hst
                      have HLn := Lib.hid (sub_load (P := Try.prog) HRn6.out row_agg row_size 0 (rzc ⟨A', c', Z[k].zs, Z[k].high, Z[k].closed⟩) rfl fun j v h => by simpa using h)
                      have HW7 := Lib.hid hW7
                      have HS7 : Hid (Same L (Z.set k ⟨A', c', Z[k].zs, Z[k].high, Z[k].closed⟩)) := Lib.hid (by
                        have := HS.out.set k (x := L[k]) (r := ⟨A', c', Z[k].zs, Z[k].high, Z[k].closed⟩) (HS.out k hkL hkZ)
                        rwa [List.set_getElem_self] at this)
                      clear hst hW7 hK7 HOn6 HP6 HX6 HRn6 HW6
                      go_wp2_with (first | (refine wpList_load_of rfl _ _ rfl _ _ rfl HLn.out ?_) | (refine wpList_store_of rfl _ _ _ rfl _ _ rfl rfl HST.out ?_))
                      go_meet
                      case rel => exact ⟨h, L, _, by omega, rfl, fun _ => hci, HP7, HW7, HS7, HX7⟩
                    · have hlk := HS.out k hkL hkZ
                      have hLc : L[k].closed = false := by rw [← hlk.2.2.2.1]; exact hcl
                      have C := Lib.hid (ltk_good HP4.out k hkL hLc kk (by omega) (by omega))
                      rw [hlb] at C
                      have HLk := Lib.hid hlk
                      have HLc := Lib.hid hLc
                      have HZ1 := Lib.hid hz1
                      have HZ2 := Lib.hid hz2
                      have HZ3 := Lib.hid hz3
                      clear hlk hLc HTk hlb eleft hleft hle hcl hz1 hz2 hz3
                      go_wp2_with fail
                      refine C.out.mono ?_
                      rintro e wG ⟨p, gp, h', x, vp, rfl, hPc, hP5, hxe, hKG⟩
                      have HLv := Lib.hid fun t h0 h1 h2 h3 h4 => HP4.out.kept k hkL hKG t h0 h1 h2 h3 h4
                      have HP5 := Lib.hid hP5
                      have HW5 := Lib.hid (HW4.out.leaves (HLv.out _ (by rfl) (by rfl) (by rfl) (by rfl) (by rfl)) (HLv.out _ (by rfl) (by rfl) (by rfl) (by rfl) (by rfl)))
                      have HX5 := Lib.hid (HLv.out _ (by rfl) (by rfl) (by rfl) (by rfl) (by rfl) _ _ HX4.out)
                      have HRn5 := Lib.hid (HLv.out _ (by rfl) (by rfl) (by rfl) (by rfl) (by rfl) _ _ HRn.out)
                      have HOn5 := Lib.hid (own_leaves HOn.out (HLv.out _ (by rfl) (by rfl) (by rfl) (by rfl) (by rfl)))
                      have HXE := Lib.hid hxe
                      have HLen : Hid (∀ w', Below wG.heap.size wG w' → Calls Try.prog 11 #[.pointer (some ⟨p, 0, none⟩)] w' fun e w'' => e = .returned (.int .i64 (kk : Int)) ∧ w'' = w') := Lib.hid fun w' hb => len_any (RowAt.step hPc hb)
                      have HXc : Hid (∀ w', Below wG.heap.size wG w' → w'.cell? ⟨q, 2, none⟩ = some (.int .i64 (kk : Int))) := Lib.hid fun w' hb => by rw [(HX5.out.step hb).cell 2]; rfl
                      clear C hPc hP5 hxe hKG HLv HP4 HW4 HX4 HRn HOn x2
                      go_upto_region 27 with fail
                      refine wp_region_text [Is (.int .i64 0), Is (.int .i64 0), Is (.bool false), Is (.bool false), Is (.int .i64 0), Is (.bool true), Is (.bool true), Is (.pointer (some ⟨p, 0, none⟩)), Is (.int .i64 (kk : Int)), Is (.pointer (some ⟨q, 2, none⟩)), Is (.int .i64 (kk : Int)), Is (.bool false), Is (.bool false), Is (.bool false), Is (.bool false), Is (.int .i64 0), Is (.bool false), Is (.bool false), Is undef, Is undef, Is (.bool false), Is (.bool false)] (by kernel_rfl) (by kernel_rfl) rfl ⟨stable_is _, stable_is _, stable_is _, stable_is _, stable_is _, stable_is _, stable_is _, stable_is _, stable_is _, stable_is _, stable_is _, stable_is _, stable_is _, stable_is _, stable_is _, stable_is _, stable_is _, stable_is _, stable_is _, stable_is _, stable_is _, stable_is _, trivial⟩ ⟨?_, ?_, ?_, ?_, ?_, ?_, ?_, ?_, ?_, ?_, ?_, ?_, ?_, ?_, ?_, ?_, ?_, ?_, ?_, ?_, ?_, ?_, trivial⟩ ?_
                      · intro a w C
                        exact part_on (wanted_free rfl _) (op_move (.inl rfl) (C.was 19 (by kernel_rfl)))
                      · intro a w C
                        exact part_on (wanted_free rfl _) (op_move (.inl rfl) (C.was 17 (by kernel_rfl)))
                      · intro a w C
                        exact part_on (wanted_free rfl _) (op_bin rfl (C.on (j := 0) (by kernel_rfl) rfl rfl) (C.on (j := 1) (by kernel_rfl) rfl rfl) rfl (by simp [go_sem]) rfl)
                      · intro a w C
                        exact part_on (wanted_free rfl _) (op_move (.inl rfl) (C.on (j := 2) (by kernel_rfl) rfl rfl))
                      · intro a w C
                        exact part_on (wanted_on (j := 3) rfl rfl rfl (C.on (j := 3) (by kernel_rfl) rfl rfl)) (op_move (.inl rfl) (C.was 19 (by kernel_rfl)))
                      · intro a w C
                        exact part_on (wanted_on (j := 3) rfl rfl rfl (C.on (j := 3) (by kernel_rfl) rfl rfl)) (op_bin rfl (C.on (j := 4) (by kernel_rfl) rfl rfl) rfl rfl (by simp [go_sem]) rfl)
                      · intro a w C
                        exact part_on (wanted_on (j := 3) rfl rfl rfl (C.on (j := 3) (by kernel_rfl) rfl rfl)) (op_move (.inl rfl) (C.on (j := 5) (by kernel_rfl) rfl rfl))
                      · intro a w C
                        exact part_on (wanted_on (j := 6) rfl rfl rfl (C.on (j := 6) (by kernel_rfl) rfl rfl)) (op_move (.inl rfl) (C.was 18 (by kernel_rfl)))
                      · intro a w C
                        exact part_on (wanted_on (j := 6) rfl rfl rfl (C.on (j := 6) (by kernel_rfl) rfl rfl)) (op_call1 rfl (reg_enters Try.func11 (by kernel_rfl) (by kernel_rfl)) (C.on (j := 7) (by kernel_rfl) rfl rfl) ((HLen.out w C.below).mono fun _ _ h => ⟨_, h.1, rfl, h.2 ▸ Below.refl _ _⟩))
                      · intro a w C
                        exact part_on (wanted_on (j := 6) rfl rfl rfl (C.on (j := 6) (by kernel_rfl) rfl rfl)) (op_value (actf_run (k := 2) rfl (.inr rfl) (C.was 11 (by kernel_rfl))) rfl)
                      · intro a w C
                        exact part_on (wanted_on (j := 6) rfl rfl rfl (C.on (j := 6) (by kernel_rfl) rfl rfl)) (op_value (lint_run rfl (C.on (j := 9) (by kernel_rfl) rfl rfl) (HXc.out w C.below)) rfl)
                      · intro a w C
                        exact part_on (wanted_on (j := 6) rfl rfl rfl (C.on (j := 6) (by kernel_rfl) rfl rfl)) (op_bin rfl (C.on (j := 8) (by kernel_rfl) rfl rfl) (C.on (j := 10) (by kernel_rfl) rfl rfl) rfl (by simp [go_sem]) rfl)
                      · intro a w C
                        exact part_on (wanted_on (j := 3) rfl rfl rfl (C.on (j := 3) (by kernel_rfl) rfl rfl)) (op_pick (k := true) rfl (C.on (j := 6) (by kernel_rfl) rfl rfl) (C.on (j := 11) (by kernel_rfl) rfl rfl))
                      · intro a w C
                        exact part_on (wanted_free rfl _) (op_pick (k := false) rfl (C.on (j := 3) (by kernel_rfl) rfl rfl) (C.on (j := 12) (by kernel_rfl) rfl rfl))
                      · intro a w C
                        exact part_on (wanted_free rfl _) (op_move (.inl rfl) (C.on (j := 13) (by kernel_rfl) rfl rfl))
                      · intro a w C
                        exact part_on (wanted_on (j := 14) rfl rfl rfl (C.on (j := 14) (by kernel_rfl) rfl rfl)) (op_move (.inl rfl) (C.was 19 (by kernel_rfl)))
                      · intro a w C
                        exact part_on (wanted_on (j := 14) rfl rfl rfl (C.on (j := 14) (by kernel_rfl) rfl rfl)) (op_bin rfl (C.on (j := 15) (by kernel_rfl) rfl rfl) rfl rfl (by simp [go_sem]) rfl)
                      · intro a w C
                        exact part_on (wanted_on (j := 14) rfl rfl rfl (C.on (j := 14) (by kernel_rfl) rfl rfl)) (op_move (.inl rfl) (C.on (j := 16) (by kernel_rfl) rfl rfl))
                      · intro a w C
                        exact part_off (wanted_off (j := 17) rfl rfl rfl (C.on (j := 17) (by kernel_rfl) rfl rfl)) rfl
                      · intro a w C
                        exact part_off (wanted_off (j := 17) rfl rfl rfl (C.on (j := 17) (by kernel_rfl) rfl rfl)) rfl
                      · intro a w C
                        exact part_on (wanted_on (j := 14) rfl rfl rfl (C.on (j := 14) (by kernel_rfl) rfl rfl)) (op_pick (k := false) rfl (C.on (j := 17) (by kernel_rfl) rfl rfl) rfl)
                      · intro a w C
                        exact part_on (wanted_free rfl _) (op_pick (k := false) rfl (C.on (j := 14) (by kernel_rfl) rfl rfl) (C.on (j := 20) (by kernel_rfl) rfl rfl))
                      rintro wF hbF _ rfl _ rfl _ rfl _ rfl _ rfl _ rfl _ rfl _ rfl _ rfl _ rfl _ rfl _ rfl _ rfl _ rfl _ rfl _ rfl _ rfl _ rfl _ rfl _ rfl _ rfl _ rfl
                      simp only [Fin, setAt, Exit.then, List.setIfInBounds_toArray, List.set_cons_succ, List.set_cons_zero]
                      have HP6 := Lib.hid (HP5.out.step hbF)
                      have HW6 := Lib.hid (HW5.out.step hbF)
                      have HX6 := Lib.hid (HX5.out.step hbF)
                      have HRn6 := Lib.hid (HRn5.out.step hbF)
                      have HOn6 := own_leaves HOn5.out (.below hbF _)
                      clear HP5 HW5 HX5 HRn5 HOn5 hbF HLen HXc
                      have x1 : wF.cell? ⟨q, 1, none⟩ = some (.int .i64 (k : Int)) := by rw [HX6.out.cell 1]; rfl
                      obtain ⟨hst, hW7, hK7⟩ := HW6.out.set k hkZ (r := ⟨A', c', zs', hi', cl'⟩) HOn6
                      have HP7 := Lib.hid (HP6.out.far hK7 (fun j e => by rw [e]; exact hrb') fun j e => by subst e; exact ⟨_, _, HW6.out.row, by rfl, by rfl, by rfl, by rfl, by rfl, by rfl⟩)
                      have HX7 := Lib.hid (RowAt.kept HX6.out hK7 fun e => RowAt.unlike HX6.out HW6.out.row (by rfl) e)
                      have HST := Lib.hid hst
                      have HLn := Lib.hid (sub_load (P := Try.prog) HRn6.out row_agg row_size 0 (rzc ⟨A', c', zs', hi', cl'⟩) rfl fun j v h => by simpa using h)
                      have HW7 := Lib.hid hW7
                      have HS7 : Hid (Same (L.set k x) (Z.set k ⟨A', c', zs', hi', cl'⟩)) := Lib.hid (HS.out.set k (by rw [HXE.out]; exact like_more HLk.out HZ1.out HZ2.out HZ3.out HLc.out))
                      have HCt : Hid (ct (L.set k x) ≤ i + 1 ∧ lp (L.set k x) = lp L) := Lib.hid (by
                        have e2 := ct_set L k hkL x
                        have e3 : x.qs.length = L[k].qs.length + 1 := by rw [HXE.out]; exact more_len _ _ _ _ _
                        refine ⟨by omega, ?_⟩
                        have e4 : x.b = L[k].b := by rw [HXE.out]; rfl
                        unfold lp
                        rw [List.map_set, e4]
                        exact List.ext_getElem (by simp) fun j h1 h2 => by
                          rw [List.getElem_set]
                          split
                          · rename_i e; subst e; simp
                          · rfl)
                      clear hst hW7 hK7 HOn6 HP6 HX6 HRn6 HW6 HXE HZ1 HZ2 HZ3 HLk HLc
                      go_wp2_with (first | (refine wpList_load_of rfl _ _ rfl _ _ rfl HLn.out ?_) | (refine wpList_store_of rfl _ _ _ rfl _ _ rfl rfl HST.out ?_))
                      go_meet
                      case rel => exact ⟨h', L.set k x, _, HCt.out.1, HCt.out.2, fun e => absurd e (by decide), HP7, HW7, HS7, HX7⟩
              · have e0 : (d == 0) = false := by simpa using hd0
                go_wp2
                go_meet
                case rel => exact ⟨h, L, Z, by omega, rfl, fun _ => hci, HP1, HW1, HS, HX⟩
            case rest =>
              clear HP1 HW1 HS HX hkL hkZ hci
              obtain ⟨h2, L2, Z2, hci, hlp, hd1, HP1, HW1, HS, HX⟩ := hcut
              have hk3L : k < L2.length := by rw [HP1.out.len]; exact hk3
              have hk3Z : k < Z2.length := by rw [HW1.out.len]; exact hk3
              have hlb := HBK.out L2 hlp hk3L
              have x0 : wc.cell? ⟨q, 0, none⟩ = some (.int .i64 d) := by rw [HX.out.cell 0]; rfl
              have HBK2 := Lib.hid (show ∀ L', lp L' = lp L2 → ∀ h' : k < L'.length, L'[k].b = lb from fun L' e h' => HBK.out L' (e.trans hlp) h')
              clear HBK hlp h
              go_upto_if 131 with fail
              clear x0
              go_cut [20] from 132 to 162 (fun _ wx => ∃ h' L' Z', ct L' ≤ i + 1 ∧ lp L' = lp L2 ∧ Hid (Pa w wx a B h' ob L') ∧ Hid (Rw w wx rb Z') ∧ Hid (Same L' Z'))
              case first =>
                by_cases hd0 : d = 1
                · subst hd0
                  have hci' := hd1 rfl
                  have hlk := HS.out k hk3L hk3Z
                  cases hcl : L2[k].closed with
                  | true =>
                    have hrow := (HP1.out.ls k hk3L).row
                    rw [hcl] at hrow
                    have C := Lib.hid (lclose_closed hrow)
                    rw [hlb] at C
                    have HLN := Lib.hid (like_again hlk hcl)
                    have HZC := Lib.hid (show Z2[k].closed = true by rw [hlk.2.2.2.1]; exact hcl)
                    have c1 : wc.cell? ⟨q, 1, none⟩ = some (.int .i64 (k : Int)) := by rw [HX.out.cell 1]; rfl
                    have c2 : wc.cell? ⟨rb, k * 3 + 2, none⟩ = some (.bool true) := by
                      rw [HW1.out.row.cell (k * 3 + 2), List.getElem?_toArray, rzs_at Z2 k hk3Z 2 (by decide)]
                      simp [rzc, HZC.out]
                    have hk0' : (0 : Int) ≤ (k : Int) := by omega
                    have hk3i : (k : Int) < 3 := by omega
                    clear hrow hlk
                    go_wp2_with fail
                    refine C.out.mono ?_; rintro e w' ⟨rfl, hw⟩; obtain rfl := hw.symm; clear hw C
                    go_upto_region 34 with fail
                    have c3 : wc.cell? ⟨rb, k * 3 + 1, none⟩ = some (.int .i64 (Z2[k].high : Int)) := by
                      rw [HW1.out.row.cell (k * 3 + 1), List.getElem?_toArray, rzs_at Z2 k hk3Z 1 (by decide)]
                      simp [rzc]
                    obtain ⟨hst, hW7, hK7⟩ := (show Rw w wc.drew rb Z2 from HW1.out.step (below_drewN (Below.refl wc.heap.size wc) 1)).set k hk3Z (r := ⟨none, 0, [], Z2[k].high, true⟩) (World.ownsRow_nil _ _ _ _)
                    have HP7 := Lib.hid ((HP1.out.step (below_drewN (Below.refl wc.heap.size wc) 1)).far hK7 (fun j e => by rw [e]; exact hrb') fun j e => by subst e; exact ⟨_, _, RowAt.drew HW1.out.row, by rfl, by rfl, by rfl, by rfl, by rfl, by rfl⟩)
                    have HST := Lib.hid hst
                    have HW7 := Lib.hid hW7
                    have x11 : wc.cell? ⟨q, 1, none⟩ = some (.int .i64 (k : Int)) := c1
                    clear hst hW7 hK7
                    refine wp_region_still_tail 9 (by kernel_rfl) (by kernel_rfl) ?_
                    simp only [List.take_succ_cons, List.take_zero, List.drop_succ_cons, List.drop_zero]
                    repeat still_step
                    refine wpStill_nil ?_
                    change wpList _ _ _ _ _ wc.drew
                    go_wp2_with (refine wpList_store_of rfl _ _ _ rfl _ _ rfl rfl HST.out ?_)
                    go_meet
                    case rel => exact ⟨h2, L2, _, by omega, rfl, HP7, HW7, Lib.hid (by
                      have := HS.out.set k HLN.out
                      rwa [List.set_getElem_self] at this)⟩
                  | false =>
                    have C := Lib.hid (lshut_any HP1.out k hk3L hcl (by omega))
                    rw [hlb] at C
                    have HLN := Lib.hid (like_shut hlk)
                    have hzc : Z2[k].closed = false := by rw [hlk.2.2.2.1]; exact hcl
                    have HZC := Lib.hid hzc
                    clear hlk hzc
                    go_wp2_with fail
                    refine C.out.mono ?_
                    rintro e w2 ⟨rfl, hP2, hK2⟩
                    have HLv := Lib.hid fun t h0 h1 h2 h3 h4 => HP1.out.kept k hk3L hK2 t h0 h1 h2 h3 h4
                    have HW2 := HW1.out.leaves (HLv.out _ (by rfl) (by rfl) (by rfl) (by rfl) (by rfl)) (HLv.out _ (by rfl) (by rfl) (by rfl) (by rfl) (by rfl))
                    have HX2 := HLv.out _ (by rfl) (by rfl) (by rfl) (by rfl) (by rfl) _ _ HX.out
                    have HCt : Hid (ct (L2.set k L2[k].shut) ≤ i + 1 ∧ lp (L2.set k L2[k].shut) = lp L2) := Lib.hid ⟨by
                      have e2 := ct_set L2 k hk3L L2[k].shut
                      have e4 : L2[k].shut.qs.length = 0 := rfl
                      omega, shut_same L2 k hk3L⟩
                    clear HLv hK2 HP1 HW1 HX C
                    have HP1 := Lib.hid hP2
                    have HW1 := Lib.hid HW2
                    have HX := Lib.hid HX2
                    clear hP2 HW2 HX2
                    have c1 : w2.cell? ⟨q, 1, none⟩ = some (.int .i64 (k : Int)) := by rw [HX.out.cell 1]; rfl
                    have c2 : w2.cell? ⟨rb, k * 3 + 2, none⟩ = some (.bool false) := by
                      rw [HW1.out.row.cell (k * 3 + 2), List.getElem?_toArray, rzs_at Z2 k hk3Z 2 (by decide)]
                      simp [rzc, HZC.out]
                    have c3 : w2.cell? ⟨rb, k * 3 + 1, none⟩ = some (.int .i64 (Z2[k].high : Int)) := by
                      rw [HW1.out.row.cell (k * 3 + 1), List.getElem?_toArray, rzs_at Z2 k hk3Z 1 (by decide)]
                      simp [rzc]
                    have hk0' : (0 : Int) ≤ (k : Int) := by omega
                    have hk3i : (k : Int) < 3 := by omega
                    go_upto_region 34 with fail
                    obtain ⟨hst, hW7, hK7⟩ := (show Rw w w2.drew rb Z2 from HW1.out.step (below_drewN (Below.refl w2.heap.size w2) 1)).set k hk3Z (r := ⟨none, 0, [], Z2[k].high, true⟩) (World.ownsRow_nil _ _ _ _)
                    have HP7 := Lib.hid ((HP1.out.step (below_drewN (Below.refl w2.heap.size w2) 1)).far hK7 (fun j e => by rw [e]; exact hrb') fun j e => by subst e; exact ⟨_, _, RowAt.drew HW1.out.row, by rfl, by rfl, by rfl, by rfl, by rfl, by rfl⟩)
                    have HST := Lib.hid hst
                    have HW7 := Lib.hid hW7
                    have x11 : w2.cell? ⟨q, 1, none⟩ = some (.int .i64 (k : Int)) := c1
                    clear hst hW7 hK7
                    refine wp_region_still_tail 9 (by kernel_rfl) (by kernel_rfl) ?_
                    simp only [List.take_succ_cons, List.take_zero, List.drop_succ_cons, List.drop_zero]
                    repeat still_step
                    refine wpStill_nil ?_
                    change wpList _ _ _ _ _ w2.drew
                    go_wp2_with (refine wpList_store_of rfl _ _ _ rfl _ _ rfl rfl HST.out ?_)
                    go_meet
                    case rel => exact ⟨h2, L2.set k L2[k].shut, _, HCt.out.1, HCt.out.2, HP7, HW7, Lib.hid (HS.out.set k HLN.out)⟩
                · have e0 : (d == 1) = false := by simpa using hd0
                  go_wp2
                  go_meet
                  case rel => exact ⟨h2, L2, Z2, hci, rfl, HP1, HW1, HS⟩
              case rest =>
                clear HP1 HW1 HS HX hci
                obtain ⟨h, L, Z, hci, hlp, HP, HW, HS⟩ := hcut
                have hZ3 : Z.length = 3 := HW.out.len
                have hL3 : L.length = 3 := HP.out.len
                have HT := Lib.hid (HS.out.total (by rw [hL3, hZ3]))
                have hfit := HP.out.fit
                have HLD := Lib.hid HW.out.loads
                have HBL := Lib.hid (HBK2.out L hlp (by omega))
                have hzt : zt Z ≤ 1000 := by rw [HT.out]; omega
                clear HBK2 hlb hlp hd1
                go_wp2_with (refine wpList_load_of rfl _ _ rfl _ _ rfl HLD.out ?_)
                go_loopw [21, 164] (fun v21 v164 wr4 => ∃ j : Nat, j ≤ 3 ∧ v21 = .int .i64 (zt (Z.take j) : Int) ∧ v164 = .int .i64 (j : Int) ∧ Hid (Below wc.heap.size wc wr4)) (fun _ v164 _ => 3 - (intOf v164).toNat)
                case atStart => exact ⟨0, by omega, rfl, rfl, Lib.hid (Below.refl _ _)⟩
                case round =>
                  obtain ⟨j, hj3, rfl, rfl, HB3⟩ := hrel
                  obtain ⟨wr4, rfl⟩ : ∃ wo : World, wo = wr := ⟨_, rfl⟩
                  by_cases hjl : j < 3
                  · have hjt : decide ((j : Int) < 3) = true := by simp; omega
                    have hjt' : decide (j < 3) = true := by simp; omega
                    have hj0 : (0 : Int) ≤ (j : Int) := by omega
                    have hj1 : (j : Int) < 3 := by omega
                    have hjZ : j < Z.length := by omega
                    have hjL : j < L.length := by omega
                    have hix := row_index Z hZ3 j hjZ
                    have hrd := (HW.out.step HB3.out).reads j hjZ
                    have hzs := zt_take Z j hjZ
                    have hz1 := zt_part Z j
                    have hz2 := zt_part Z (j + 1)
                    rw [hzs] at hz2
                    have hlk := HS.out j hjL hjZ
                    have hln : Z[j].zs.length ≤ 61 := by
                      have h2 := ct_ge L j hjL
                      rw [hlk.2.1]
                      omega
                    have hHe : ∀ w', Below wr4.heap.size wr4 w' → Calls Try.prog 13 #[.pointer (some ⟨L[j].b, 0, none⟩)] w' fun e w'' => e = .returned (.int .i64 (sm Z[j].zs : Int)) ∧ w'' = w' := fun w' hb => by
                      rw [hlk.1]
                      exact lheld_any (((HP.out.step HB3.out).step hb).ls j hjL).row
                    have hPk : ∀ w', Below wr4.heap.size wr4 w' → Calls Try.prog 14 #[.pointer (some ⟨L[j].b, 0, none⟩)] w' fun e w'' => e = .returned (.int .i64 (Z[j].high : Int)) ∧ w'' = w' := fun w' hb => by
                      rw [hlk.2.2.1]
                      exact lpeak_any (((HP.out.step HB3.out).step hb).ls j hjL).row
                    have HOb : Hid (∀ w', Below wr4.heap.size wr4 w' → w'.cell? ⟨ob, j, none⟩ = some (.pointer (some ⟨L[j].b, 0, none⟩))) := Lib.hid fun w' hb => by
                      rw [((HP.out.step HB3.out).step hb).own.cell j, List.getElem?_toArray]
                      simp [lp, hjL]
                    have HZS := Lib.hid hzs
                    have hrf : ∀ w', Below wr4.heap.size wr4 w' → Calls Try.prog 8 #[.agg (rzc Z[j]).toArray] w' fun e w'' => e = .returned (.int .i64 (sm Z[j].zs : Int)) ∧ Below w'.heap.size w' w'' := fun w' hb =>
                      rheld_any Z[j].A Z[j].c Z[j].high Z[j].closed Z[j].zs w' ((hrd.below hb).more hb.size) (by omega) (by omega)
                    have HHe := Lib.hid hHe
                    have HPk := Lib.hid hPk
                    have HRf := Lib.hid hrf
                    clear hzs hlk hHe hPk hrf hrd
                    generalize L[j].b = lj at *
                    generalize Z[j] = r at *
                    obtain ⟨rA, rc, rz, rhi, rcl⟩ := r
                    simp only [rzc] at hix hz2 hln HZS HRf HPk HHe
                    obtain ⟨w5, hw5⟩ : ∃ w5, w5 = wr4.alloc (.cells #[.slice rA rz.length rc, .int .i64 (rhi : Int), .bool rcl] 32) := ⟨_, rfl⟩
                    obtain ⟨q4, hq4⟩ : ∃ q4, q4 = wr4.heap.size := ⟨_, rfl⟩
                    have hb5 : Below wr4.heap.size wr4 w5 := by rw [hw5]; exact (Below.refl _ _).alloc (Nat.le_refl _) _
                    have HR5 : Hid (RowAt w5 q4 32 (rzc ⟨rA, rc, rz, rhi, rcl⟩).toArray) := Lib.hid (by rw [hq4, hw5]; exact RowAt.new _ _ _)
                    have HB5 := Lib.hid hb5
                    have CH := Lib.hid (HRf.out w5 hb5)
                    have HW5 := Lib.hid hw5
                    have HQ4 := Lib.hid hq4
                    rw [hw5] at CH
                    clear hb5 hw5 hq4
                    generalize hsm : sm rz = s at *
                    generalize zt (Z.take j) = U at *
                    go_wp2_with fail
                    refine CH.out.mono ?_
                    rintro e w6 ⟨rfl, hb6⟩
                    rw [← HW5.out] at hb6
                    have HB6 := Lib.hid (HB5.out.trans (hb6.mono HB5.out.size))
                    have HR6 := Lib.hid (HR5.out.step hb6)
                    have HRL : Hid (∀ w', Below w6.heap.size w6 w' → (loadVar 32 ⟨q4, 0, none⟩).run Try.prog w' = .ok (.agg (rzc ⟨rA, rc, rz, rhi, rcl⟩).toArray) w') := Lib.hid fun w' hb => sub_load (HR6.out.step hb) row_agg row_size 0 (rzc ⟨rA, rc, rz, rhi, rcl⟩) rfl fun j v h => by simpa using h
                    have HUp : Hid (∀ w', Below w6.heap.size w6 w' → Below wr4.heap.size wr4 w') := Lib.hid fun w' hb => HB6.out.trans (hb.mono HB6.out.size)
                    rw [← HQ4.out]
                    clear CH hb6 HB5 HR5 HW5
                    go_upto_region 40 with fail
                    refine wp_region_text [Is (.int .i64 (j : Int)), Is (.pointer (some ⟨ob, j, none⟩)), Is (.pointer (some ⟨lj, 0, none⟩)), Is (.int .i64 (s : Int)), Is (.agg (rzc ⟨rA, rc, rz, rhi, rcl⟩).toArray), Is (.int .i64 (s : Int)), Is (.bool false), Is (.bool false), Is (.int .i64 (j : Int)), Is (.pointer (some ⟨ob, j, none⟩)), Is (.pointer (some ⟨lj, 0, none⟩)), Is (.int .i64 (rhi : Int)), Is (.pointer (some ⟨q4, 0 + 1, none⟩)), Is (.int .i64 (rhi : Int)), Is (.bool false), Is (.bool false)] (by kernel_rfl) (by kernel_rfl) rfl ⟨stable_is _, stable_is _, stable_is _, stable_is _, stable_is _, stable_is _, stable_is _, stable_is _, stable_is _, stable_is _, stable_is _, stable_is _, stable_is _, stable_is _, stable_is _, stable_is _, trivial⟩ ⟨?_, ?_, ?_, ?_, ?_, ?_, ?_, ?_, ?_, ?_, ?_, ?_, ?_, ?_, ?_, ?_, trivial⟩ ?_
                    · intro a w C
                      exact part_on (wanted_free rfl _) (op_move (.inl rfl) (C.was 22 (by kernel_rfl)))
                    · intro a w C
                      exact part_on (wanted_free rfl _) (op_value (ixls_run rfl (C.was 7 (by kernel_rfl)) (C.on (j := 0) (by kernel_rfl) rfl rfl) hjl) rfl)
                    · intro a w C
                      exact part_on (wanted_free rfl _) (op_value (lls_run rfl (C.on (j := 1) (by kernel_rfl) rfl rfl) (HOb.out w (HUp.out w C.below))) rfl)
                    · intro a w C
                      exact part_on (wanted_free rfl _) (op_call1 rfl (reg_enters Try.func13 (by kernel_rfl) (by kernel_rfl)) (C.on (j := 2) (by kernel_rfl) rfl rfl) ((HHe.out w (HUp.out w C.below)).mono fun _ _ h => ⟨_, h.1, rfl, h.2 ▸ Below.refl _ _⟩))
                    · intro a w C
                      exact part_on (wanted_free rfl _) (op_value (load_run rfl (C.was 23 (by kernel_rfl)) (HRL.out w C.below)) rfl)
                    · intro a w C
                      exact part_on (wanted_free rfl _) (op_call1 rfl (reg_enters Try.func8 (by kernel_rfl) (by kernel_rfl)) (C.on (j := 4) (by kernel_rfl) rfl rfl) ((HRf.out w (HUp.out w C.below)).mono fun _ _ h => ⟨_, h.1, rfl, h.2⟩))
                    · intro a w C
                      exact part_on (wanted_free rfl _) (op_bin rfl (C.on (j := 3) (by kernel_rfl) rfl rfl) (C.on (j := 5) (by kernel_rfl) rfl rfl) rfl (by simp [go_sem]) rfl)
                    · intro a w C
                      exact part_on (wanted_free rfl _) (op_move (.inl rfl) (C.on (j := 6) (by kernel_rfl) rfl rfl))
                    · intro a w C
                      exact part_on (wanted_on (j := 7) rfl rfl rfl (C.on (j := 7) (by kernel_rfl) rfl rfl)) (op_move (.inl rfl) (C.was 22 (by kernel_rfl)))
                    · intro a w C
                      exact part_on (wanted_on (j := 7) rfl rfl rfl (C.on (j := 7) (by kernel_rfl) rfl rfl)) (op_value (ixls_run rfl (C.was 7 (by kernel_rfl)) (C.on (j := 8) (by kernel_rfl) rfl rfl) hjl) rfl)
                    · intro a w C
                      exact part_on (wanted_on (j := 7) rfl rfl rfl (C.on (j := 7) (by kernel_rfl) rfl rfl)) (op_value (lls_run rfl (C.on (j := 9) (by kernel_rfl) rfl rfl) (HOb.out w (HUp.out w C.below))) rfl)
                    · intro a w C
                      exact part_on (wanted_on (j := 7) rfl rfl rfl (C.on (j := 7) (by kernel_rfl) rfl rfl)) (op_call1 rfl (reg_enters Try.func14 (by kernel_rfl) (by kernel_rfl)) (C.on (j := 10) (by kernel_rfl) rfl rfl) ((HPk.out w (HUp.out w C.below)).mono fun _ _ h => ⟨_, h.1, rfl, h.2 ▸ Below.refl _ _⟩))
                    · intro a w C
                      exact part_on (wanted_on (j := 7) rfl rfl rfl (C.on (j := 7) (by kernel_rfl) rfl rfl)) (op_value (rowf_run (k := 1) rfl (.inl rfl) (C.was 23 (by kernel_rfl))) rfl)
                    · intro a w C
                      exact part_on (wanted_on (j := 7) rfl rfl rfl (C.on (j := 7) (by kernel_rfl) rfl rfl)) (op_value (lint_run rfl (C.on (j := 12) (by kernel_rfl) rfl rfl) ((HR6.out.step C.below).cell 1)) rfl)
                    · intro a w C
                      exact part_on (wanted_on (j := 7) rfl rfl rfl (C.on (j := 7) (by kernel_rfl) rfl rfl)) (op_bin rfl (C.on (j := 11) (by kernel_rfl) rfl rfl) (C.on (j := 13) (by kernel_rfl) rfl rfl) rfl (by simp [go_sem]) rfl)
                    · intro a w C
                      exact part_on (wanted_free rfl _) (op_pick (k := false) rfl (C.on (j := 7) (by kernel_rfl) rfl rfl) (C.on (j := 14) (by kernel_rfl) rfl rfl))
                    rintro wF hbF _ rfl _ rfl _ rfl _ rfl _ rfl _ rfl _ rfl _ rfl _ rfl _ rfl _ rfl _ rfl _ rfl _ rfl _ rfl _ rfl
                    simp only [Fin, setAt, Exit.then, List.setIfInBounds_toArray, List.set_cons_succ, List.set_cons_zero]
                    have HB9 := Lib.hid (HB3.out.trans ((HUp.out wF hbF).mono HB3.out.size))
                    clear HB3 HB6 HR6 HRL HUp HQ4 HHe HPk HRf HOb hbF
                    go_wp2
                    go_roundw
                    case rel => exact ⟨j + 1, by omega, by rw [HZS.out]; go_num, by go_num, HB9⟩
                    case measure => simp [intOf]; omega
                  · obtain rfl : j = 3 := by omega
                    have hjt : decide (((3 : Nat) : Int) < 3) = false := by simp
                    have e3 : Z.take 3 = Z := List.take_of_length_le (by omega)
                    rw [e3, HT.out]
                    have HP3 := Lib.hid (HP.out.step HB3.out)
                    have HW3 := Lib.hid (HW.out.step HB3.out)
                    have CU := Lib.hid (used_any HP3.out.are)
                    clear HP HW HLD HB3 e3
                    go_wp2_with fail
                    refine CU.out.mono ?_
                    rintro e w7 ⟨rfl, hb7⟩
                    have HP7 := Lib.hid (HP3.out.step hb7)
                    have HW7 := Lib.hid (HW3.out.step hb7)
                    have y0 : w7.cell? ⟨lb, 0, none⟩ = some (.pointer (some ⟨a, 0, none⟩)) := by
                      have := (HP7.out.ls k (by omega)).row.at_.1
                      rw [HBL.out] at this
                      exact this
                    have CU2 := Lib.hid (used_any HP7.out.are)
                    clear CU hb7 HP3 HW3
                    go_wp2_with fail
                    refine CU2.out.mono ?_
                    rintro e w8 ⟨rfl, hb8⟩
                    have HP8 := Lib.hid (HP7.out.step hb8)
                    have HW8 := Lib.hid (HW7.out.step hb8)
                    clear CU2 hb8 HP7 HW7 y0
                    go_wp2
                    go_roundg g
                    case measure => omega
                    case rel => exact ⟨i + 1, h, L, Z, by omega, by go_num, hci, HP8, HW8, HS⟩
        · obtain rfl : i = l.length := by omega
          have hdt : decide ((l.length : Int) < (l.length : Int)) = false := by simp
          have HB := Lib.hid HP.out.below
          clear HP HW HS
          go_wp2
          go_ret
          exact ⟨rfl, HB.out⟩
end Go.Proofs.Ytcleekhdijiefaa
