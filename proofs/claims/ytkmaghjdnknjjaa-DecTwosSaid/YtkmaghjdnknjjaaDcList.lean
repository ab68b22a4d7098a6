/- List of package dec and of the document by their contracts: at most 100 numbers, at most 20 bytes between. Conditions: those typed. -/
import Derived.Test.YtkmaghjdnknjjaaDcTwo
import Derived.Test.YtkmaghjdnknjjaaBldW
namespace Go.Proofs.Ytkmaghjdnknjjaa
set_option maxRecDepth 50000
open Go.RowKit De

/-- what stands for one number; the bytes of the first k numbers -/
def liO (z : Int) : List UInt8 := if z < 0 then [45] else dt z.toNat
def liB (s : ByteArray) (k : Nat) : List UInt8 := if 0 < k then tl s else []
def liT (s : ByteArray) (zs : List Int) : Nat → List UInt8
  | 0 => []
  | k + 1 => liT s zs k ++ liB s k ++ liO (zs.getD k 0)
theorem liO_neg {z : Int} (h : z < 0) : liO z = [45] := if_pos h
theorem liO_nat (m : Nat) : liO (m : Int) = dt m := by unfold liO; rw [if_neg (by omega)]; simp
theorem liO_length {z : Int} (h : z < 9223372036854775808) : (liO z).length ≤ 19 := by
  by_cases hz : z < 0
  · rw [liO_neg hz]; simp
  · obtain ⟨m, rfl⟩ := Int.eq_ofNat_of_zero_le (show 0 ≤ z by omega)
    rw [show ((m : Nat) : Int) = (m : Int) from rfl, liO_nat]
    exact dt_short m (by omega)
theorem liB_length {s : ByteArray} (hs : s.size ≤ 20) (k : Nat) : (liB s k).length ≤ 20 := by
  unfold liB
  by_cases h : 0 < k
  · rw [if_pos h, tl_length]; exact hs
  · rw [if_neg h]; simp
theorem liT_length {s : ByteArray} {zs : List Int} (hs : s.size ≤ 20) (hz : ∀ z ∈ zs, z < 9223372036854775808) : ∀ k, k ≤ zs.length → (liT s zs k).length ≤ 39 * k
  | 0, _ => by simp [liT]
  | k + 1, h => by
    have h1 := liT_length hs hz k (by omega)
    have h2 := liB_length hs k
    have h3 : (liO (zs.getD k 0)).length ≤ 19 := liO_length (by
      rw [List.getD_eq_getElem?_getD, List.getElem?_eq_getElem (show k < zs.length by omega)]
      exact hz _ (List.getElem_mem _))
    simp only [liT, List.length_append]
    omega
def i64s (zs : List Int) : List Value := zs.map fun z : Int => Value.int .i64 z
theorem i64s_length (zs : List Int) : (i64s zs).length = zs.length := by simp [i64s]
theorem i64s_at (zs : List Int) (k : Nat) (h : k < (i64s zs).length) (h2 : k < zs.length) : (i64s zs)[k] = .int .i64 (zs[k]'h2) := by simp [i64s]
theorem getD_in (zs : List Int) (k : Nat) (h : k < zs.length) : zs.getD k 0 = zs[k]'h := by rw [List.getD_eq_getElem?_getD, List.getElem?_eq_getElem h]; rfl

set_option maxHeartbeats 6400000 in
theorem list_any (s : ByteArray) (hs : s.size ≤ 20) (A : Option Addr) (c : Nat) (zs : List Int) (hn : zs.length ≤ 100) (hz : ∀ z ∈ zs, z < 9223372036854775808) (w : World) (hr : Reads w w.heap.size A (i64s zs)) :
    Calls Try.prog 15 #[.string s, .slice A zs.length c] w fun e w' => e = .returned (.string (tx (liT s zs zs.length))) ∧ Below w.heap.size w w' := by
  have HR := Lib.hid hr
  have HZ := Lib.hid hz
  have HLen := Lib.hid (liT_length hs hz)
  clear hr hz
  obtain ⟨B, hB⟩ : ∃ B, B = w.heap.size := ⟨_, rfl⟩
  have HB := Lib.hid hB
  have H0 : Hid (BldIs (w.alloc (.cells #[.pointer none, .slice none 0 0] 45)) B B [] ∧ Below B w (w.alloc (.cells #[.pointer none, .slice none 0 0] 45))) := Lib.hid ⟨by rw [hB]; exact BldIs.new w, by rw [hB]; exact (Below.refl _ _).alloc (Nat.le_refl _) _⟩
  go_enter Try.func15, Try.ntmps15
  go_wp2
  rw [← hB]
  clear hB
  go_loopw [10] (fun v10 wr => ∃ k : Nat, k ≤ zs.length ∧ v10 = .int .i64 (k : Int) ∧ Hid (BldIs wr B B (liT s zs k) ∧ Below B w wr)) (fun v10 _ => zs.length - (intOf v10).toNat)
  case atStart => exact ⟨0, by omega, rfl, H0⟩
  case round =>
    obtain ⟨k, hk, rfl, HS⟩ := hrel
    have HX : Hid (B ≤ wr.heap.size) := Lib.hid (by have h1 := HS.out.2.size; have h2 := HB.out; omega)
    by_cases hlt : k < zs.length
    · obtain ⟨bk, off, rfl, hbB, hcell⟩ := HR.out k (by rw [i64s_length]; exact hlt)
      rw [i64s_at zs k _ hlt] at hcell
      have hc : wr.cell? ⟨bk, off + k, none⟩ = some (.int .i64 zs[k]) := (HS.out.2.cell (by rw [HB.out]; exact hbB)).trans hcell
      have hzk := HZ.out zs[k] (List.getElem_mem hlt)
      have HT : Hid (liT s zs (k + 1) = liT s zs k ++ liB s k ++ liO zs[k]) := Lib.hid (by simp only [liT]; rw [getD_in zs k hlt])
      have hl0 := HLen.out k hk
      have hkI : decide ((k : Int) < (zs.length : Int)) = true := by simp; omega
      clear hcell hbB
      generalize zs[k] = z at *
      have HC : Hid (∀ w2 : World, Below B w w2 → w2.heap.size = w2.heap.size) := Lib.hid fun _ _ => rfl
      clear HC
      generalize liT s zs k = L at *
      by_cases hk0 : k = 0
      · by_cases hzn : z < 0
        · have d1 : decide ((0 : Int) < (k : Int)) = false := by simp; omega
          have d1b : decide (0 < k) = false := by simp; omega
          have hLB : Hid (liB s k = []) := Lib.hid (if_neg (by omega))
          have d2 : decide (z < 0) = true := by simp [hzn]
          have hLO : Hid (liO z = [45]) := Lib.hid (liO_neg hzn)
          clear hzn hk0
          go_wp2_with fail
          refine (write_any B B L ⟨#[45]⟩ wr HS.out.1 (by omega) (by decide) HX.out).mono ?_
          rintro e w2 ⟨rfl, hl, hb⟩
          have HS2 : Hid (BldIs w2 B B (L ++ tl ⟨#[45]⟩) ∧ Below B w w2) := Lib.hid ⟨hl, HS.out.2.trans hb⟩
          clear hl hb
          have HF : Hid (BldIs w2 B B (liT s zs (k + 1)) ∧ Below B w w2) := Lib.hid ⟨by rw [HT.out, hLB.out, List.append_nil, hLO.out]; exact HS2.out.1, HS2.out.2⟩
          go_wp2
          go_roundw
          case rel => exact ⟨k + 1, by omega, by go_num, HF⟩
          case measure => simp [intOf]; omega
        · have d1 : decide ((0 : Int) < (k : Int)) = false := by simp; omega
          have d1b : decide (0 < k) = false := by simp; omega
          have hLB : Hid (liB s k = []) := Lib.hid (if_neg (by omega))
          have d2 : decide (z < 0) = false := by simp; omega
          have hLO : Hid (tl (tT z) = liO z) := Lib.hid (by obtain ⟨m, rfl⟩ := Int.eq_ofNat_of_zero_le (show 0 ≤ z by omega); rw [tT_nat, tl_tx, liO_nat])
          have hTs : (tT z).size ≤ 19 := by rw [← tl_length, hLO.out]; exact liO_length hzk
          clear hzn hk0
          go_wp2_with fail
          refine (text_any z hzk wr).mono ?_
          rintro e w2 ⟨rfl, hb⟩
          have HS2 : Hid (BldIs w2 B B L ∧ Below B w w2) := Lib.hid ⟨HS.out.1.below hb, HS.out.2.trans (hb.mono HX.out)⟩
          have HX2 : Hid (B ≤ w2.heap.size) := Lib.hid (Nat.le_trans HX.out hb.size)
          clear hb
          go_wp2_with fail
          refine (write_any B B L (tT z) w2 HS2.out.1 (by omega) (by omega) HX2.out).mono ?_
          rintro e w3 ⟨rfl, hl, hb⟩
          have HS3 : Hid (BldIs w3 B B (L ++ tl (tT z)) ∧ Below B w w3) := Lib.hid ⟨hl, HS2.out.2.trans hb⟩
          clear hl hb
          have HF : Hid (BldIs w3 B B (liT s zs (k + 1)) ∧ Below B w w3) := Lib.hid ⟨by rw [HT.out, hLB.out, List.append_nil, ← hLO.out]; exact HS3.out.1, HS3.out.2⟩
          go_wp2
          go_roundw
          case rel => exact ⟨k + 1, by omega, by go_num, HF⟩
          case measure => simp [intOf]; omega
      · by_cases hzn : z < 0
        · have d1 : decide ((0 : Int) < (k : Int)) = true := by simp; omega
          have d1b : decide (0 < k) = true := by simp; omega
          have g1 : 0 < k := by omega
          have hLB : Hid (liB s k = tl s) := Lib.hid (if_pos (by omega))
          have d2 : decide (z < 0) = true := by simp [hzn]
          have hLO : Hid (liO z = [45]) := Lib.hid (liO_neg hzn)
          clear hzn hk0
          go_wp2_with fail
          refine (write_any B B L s wr HS.out.1 (by omega) (by omega) HX.out).mono ?_
          rintro e w1 ⟨rfl, hl, hb⟩
          have HS1 : Hid (BldIs w1 B B (L ++ tl s) ∧ Below B w w1) := Lib.hid ⟨hl, HS.out.2.trans hb⟩
          have HX1 : Hid (B ≤ w1.heap.size) := Lib.hid (Nat.le_trans HX.out hb.size)
          have hl1 : (L ++ tl s).length ≤ 5000 := by rw [List.length_append, tl_length]; omega
          clear hl hb
          go_wp2_with fail
          refine (write_any B B (L ++ tl s) ⟨#[45]⟩ w1 HS1.out.1 (by omega) (by decide) HX1.out).mono ?_
          rintro e w2 ⟨rfl, hl, hb⟩
          have HS2 : Hid (BldIs w2 B B ((L ++ tl s) ++ tl ⟨#[45]⟩) ∧ Below B w w2) := Lib.hid ⟨hl, HS1.out.2.trans hb⟩
          clear hl hb
          have HF : Hid (BldIs w2 B B (liT s zs (k + 1)) ∧ Below B w w2) := Lib.hid ⟨by rw [HT.out, hLB.out, hLO.out]; exact HS2.out.1, HS2.out.2⟩
          go_wp2
          go_roundw
          case rel => exact ⟨k + 1, by omega, by go_num, HF⟩
          case measure => simp [intOf]; omega
        · have d1 : decide ((0 : Int) < (k : Int)) = true := by simp; omega
          have d1b : decide (0 < k) = true := by simp; omega
          have g1 : 0 < k := by omega
          have hLB : Hid (liB s k = tl s) := Lib.hid (if_pos (by omega))
          have d2 : decide (z < 0) = false := by simp; omega
          have hLO : Hid (tl (tT z) = liO z) := Lib.hid (by obtain ⟨m, rfl⟩ := Int.eq_ofNat_of_zero_le (show 0 ≤ z by omega); rw [tT_nat, tl_tx, liO_nat])
          have hTs : (tT z).size ≤ 19 := by rw [← tl_length, hLO.out]; exact liO_length hzk
          clear hzn hk0
          go_wp2_with fail
          refine (write_any B B L s wr HS.out.1 (by omega) (by omega) HX.out).mono ?_
          rintro e w1 ⟨rfl, hl, hb⟩
          have HS1 : Hid (BldIs w1 B B (L ++ tl s) ∧ Below B w w1) := Lib.hid ⟨hl, HS.out.2.trans hb⟩
          have HX1 : Hid (B ≤ w1.heap.size) := Lib.hid (Nat.le_trans HX.out hb.size)
          have hl1 : (L ++ tl s).length ≤ 5000 := by rw [List.length_append, tl_length]; omega
          clear hl hb
          go_wp2_with fail
          refine (text_any z hzk w1).mono ?_
          rintro e w2 ⟨rfl, hb⟩
          have HS2 : Hid (BldIs w2 B B (L ++ tl s) ∧ Below B w w2) := Lib.hid ⟨HS1.out.1.below hb, HS1.out.2.trans (hb.mono HX1.out)⟩
          have HX2 : Hid (B ≤ w2.heap.size) := Lib.hid (Nat.le_trans HX1.out hb.size)
          clear hb
          go_wp2_with fail
          refine (write_any B B (L ++ tl s) (tT z) w2 HS2.out.1 (by omega) (by omega) HX2.out).mono ?_
          rintro e w3 ⟨rfl, hl, hb⟩
          have HS3 : Hid (BldIs w3 B B ((L ++ tl s) ++ tl (tT z)) ∧ Below B w w3) := Lib.hid ⟨hl, HS2.out.2.trans hb⟩
          clear hl hb
          have HF : Hid (BldIs w3 B B (liT s zs (k + 1)) ∧ Below B w w3) := Lib.hid ⟨by rw [HT.out, hLB.out, ← hLO.out]; exact HS3.out.1, HS3.out.2⟩
          go_wp2
          go_roundw
          case rel => exact ⟨k + 1, by omega, by go_num, HF⟩
          case measure => simp [intOf]; omega
    · obtain rfl : k = zs.length := by omega
      have hkI : decide ((zs.length : Int) < (zs.length : Int)) = false := by simp
      clear HR
      go_wp2_with fail
      refine (string_any B B (liT s zs zs.length) wr HS.out.1 HX.out).mono ?_
      rintro e w2 ⟨rfl, hb⟩
      have HF : Hid (Below B w w2) := Lib.hid (HS.out.2.trans hb)
      clear hb
      go_wp2
      go_ret
      exact ⟨rfl, by rw [← HB.out]; exact HF.out⟩

theorem liT_next (s : ByteArray) (zs : List Int) (k : Nat) (h : k < zs.length) : tx (liT s zs (k + 1)) = tx (liT s zs k) ++ tx (liB s k) ++ tx (liO zs[k]) := by
  simp only [liT]
  rw [getD_in zs k h, tx_append, tx_append]
theorem dash_tx : tx [45] = ⟨#[45]⟩ := rfl
theorem empty_tx : tx [] = ⟨#[]⟩ := rfl
theorem append_empty (a : ByteArray) : a ++ (⟨#[]⟩ : ByteArray) = a := tl_inj (by unfold tl; rw [ByteArray.data_append]; simp)

set_option maxHeartbeats 6400000 in
theorem rlist_any (s : ByteArray) (hs : s.size ≤ 20) (A : Option Addr) (c : Nat) (zs : List Int) (hn : zs.length ≤ 100) (hz : ∀ z ∈ zs, z < 9223372036854775808) (w : World) (hr : Reads w w.heap.size A (i64s zs)) :
    Calls Try.prog 16 #[.string s, .slice A zs.length c] w fun e w' => e = .returned (.string (tx (liT s zs zs.length))) ∧ w' = w := by
  have HR := Lib.hid hr
  have HZ := Lib.hid hz
  have HLen := Lib.hid (liT_length hs hz)
  clear hr hz
  go_enter Try.func16, Try.ntmps16
  go_wp2
  go_loopw [5, 6] (fun v5 v6 wr => ∃ (k : Nat) (T : ByteArray), k ≤ zs.length ∧ v6 = .int .i64 (k : Int) ∧ v5 = .string T ∧ Hid (T = tx (liT s zs k)) ∧ T.size ≤ 39 * k ∧ wr = w) (fun _ v6 _ => zs.length - (intOf v6).toNat)
  case atStart => exact ⟨0, ⟨#[]⟩, by omega, rfl, rfl, Lib.hid rfl, by decide, rfl⟩
  case round =>
    obtain ⟨k, T, hk, rfl, rfl, HT, hT, rfl⟩ := hrel
    by_cases hlt : k < zs.length
    · obtain ⟨bk, off, rfl, hbB, hcell⟩ := HR.out k (by rw [i64s_length]; exact hlt)
      rw [i64s_at zs k _ hlt] at hcell
      have hzk := HZ.out zs[k] (List.getElem_mem hlt)
      have CT := Lib.hid (fun w => rtext_any zs[k] hzk w)
      have hkI : decide ((k : Int) < (zs.length : Int)) = true := by simp; omega
      have hTn : (tx (liT s zs (k + 1))).size ≤ 39 * (k + 1) := by rw [tx_size]; exact HLen.out (k + 1) (by omega)
      have HN := Lib.hid (liT_next s zs k hlt)
      clear hbB
      generalize zs[k] = z at *
      generalize hT2 : tx (liT s zs (k + 1)) = T2 at *
      rw [← HT.out] at HN
      have HT2 : Hid (T2 = tx (liT s zs (k + 1))) := Lib.hid hT2.symm
      clear hT2
      have hTs : (tT z).size ≤ 19 := by
        by_cases hzn : z < 0
        · rw [tT_neg hzn]; decide
        · obtain ⟨m, rfl⟩ := Int.eq_ofNat_of_zero_le (show 0 ≤ z by omega)
          have h1 := liO_length hzk
          rw [tT_nat, tx_size]
          rw [liO_nat] at h1; exact h1
      by_cases hk0 : k = 0
      · by_cases hzn : z < 0
        · have d1 : decide ((0 : Int) < (k : Int)) = false := by simp; omega
          have d1b : decide (0 < k) = false := by simp; omega
          have hLB : Hid (tx (liB s k) = ⟨#[]⟩) := Lib.hid (by rw [show liB s k = [] from if_neg (by omega)]; rfl)
          have d2 : decide (z < 0) = true := by simp [hzn]
          have HF : Hid (T2 = T ++ ⟨#[45]⟩) := Lib.hid (by rw [HN.out, hLB.out, liO_neg hzn, dash_tx, append_empty])
          have HE : Hid (tT z = ⟨#[]⟩) := Lib.hid (tT_neg hzn)
          rw [HE.out] at CT hTs
          clear hzn hk0
          go_wp2_with fail
          refine (CT.out _).mono ?_
          rintro e w1 ⟨rfl, hw⟩
          obtain rfl := hw.symm
          go_wp2
          go_roundw
          case rel => exact ⟨k + 1, T2, by omega, by go_num, by rw [HF.out]; first | rfl | (rw [append_empty]), HT2, hTn, trivial⟩
          case measure => simp [intOf]; omega
        · have d1 : decide ((0 : Int) < (k : Int)) = false := by simp; omega
          have d1b : decide (0 < k) = false := by simp; omega
          have hLB : Hid (tx (liB s k) = ⟨#[]⟩) := Lib.hid (by rw [show liB s k = [] from if_neg (by omega)]; rfl)
          have d2 : decide (z < 0) = false := by simp; omega
          have HF : Hid (T2 = T ++ tT z) := Lib.hid (by obtain ⟨m, rfl⟩ := Int.eq_ofNat_of_zero_le (show 0 ≤ z by omega); rw [HN.out, hLB.out, liO_nat, tT_nat, append_empty])
          generalize tT z = U at *
          clear hzn hk0
          go_wp2_with fail
          refine (CT.out _).mono ?_
          rintro e w1 ⟨rfl, hw⟩
          obtain rfl := hw.symm
          go_wp2
          go_roundw
          case rel => exact ⟨k + 1, T2, by omega, by go_num, by rw [HF.out], HT2, hTn, trivial⟩
          case measure => simp [intOf]; omega
      · by_cases hzn : z < 0
        · have d1 : decide ((0 : Int) < (k : Int)) = true := by simp; omega
          have d1b : decide (0 < k) = true := by simp; omega
          have g1 : 0 < k := by omega
          have hLB : Hid (tx (liB s k) = s) := Lib.hid (by rw [show liB s k = tl s from if_pos (by omega)]; exact tx_tl s)
          have d2 : decide (z < 0) = true := by simp [hzn]
          have HF : Hid (T2 = T ++ s ++ ⟨#[45]⟩) := Lib.hid (by rw [HN.out, hLB.out, liO_neg hzn, dash_tx])
          have HE : Hid (tT z = ⟨#[]⟩) := Lib.hid (tT_neg hzn)
          rw [HE.out] at CT hTs
          clear hzn hk0
          go_wp2_with fail
          refine (CT.out _).mono ?_
          rintro e w1 ⟨rfl, hw⟩
          obtain rfl := hw.symm
          go_wp2
          go_roundw
          case rel => exact ⟨k + 1, T2, by omega, by go_num, by rw [HF.out]; first | rfl | (rw [append_empty]), HT2, hTn, trivial⟩
          case measure => simp [intOf]; omega
        · have d1 : decide ((0 : Int) < (k : Int)) = true := by simp; omega
          have d1b : decide (0 < k) = true := by simp; omega
          have g1 : 0 < k := by omega
          have hLB : Hid (tx (liB s k) = s) := Lib.hid (by rw [show liB s k = tl s from if_pos (by omega)]; exact tx_tl s)
          have d2 : decide (z < 0) = false := by simp; omega
          have HF : Hid (T2 = T ++ s ++ tT z) := Lib.hid (by obtain ⟨m, rfl⟩ := Int.eq_ofNat_of_zero_le (show 0 ≤ z by omega); rw [HN.out, hLB.out, liO_nat, tT_nat])
          generalize tT z = U at *
          clear hzn hk0
          go_wp2_with fail
          refine (CT.out _).mono ?_
          rintro e w1 ⟨rfl, hw⟩
          obtain rfl := hw.symm
          go_wp2
          go_roundw
          case rel => exact ⟨k + 1, T2, by omega, by go_num, by rw [HF.out], HT2, hTn, trivial⟩
          case measure => simp [intOf]; omega
    · obtain rfl : k = zs.length := by omega
      have hkI : decide ((zs.length : Int) < (zs.length : Int)) = false := by simp
      clear HR
      go_wp2
      go_ret
      exact ⟨by rw [HT.out]; rfl, rfl⟩
end Go.Proofs.Ytkmaghjdnknjjaa
