/- The law ShuffleMixes by the calls' contracts. Condition: the table of package salsa reads as it was laid. -/
import Derived.Test.YtdbghgdhjgapbaaDoorSfAwake
import Derived.Test.YtdbghgdhjgapbaaDoorSfRmix
namespace Go.Proofs.YtdbghgdhjgapbaaDoor
set_option maxRecDepth 50000
open Go.RowKit Rot Sl Sf

set_option maxHeartbeats 3200000 in
theorem lawm_bad (z : Int) (h : z < 1 ∨ 512 < z) (A : Option Addr) (n c : Nat) (hn : n ≤ 600) (w : World) (hk : QAt w) : Calls Tryd.prog 3 #[.int .i64 z, .slice A n c] w fun e w' => e = .returned (.bool true) ∧ Below w.heap.size w w' := by
  have HM := Lib.hid fun w => mix_bad z h (.slice A n c) w
  have HI := Lib.hid fun w => int_bad z h (.slice A n c) w
  have HC := Lib.hid fun w => check_bad z h (.slice A n c) w
  have HW := Lib.hid fun w => why_bad z h (.slice A n c) w
  have HA := Lib.hid (awake23_any w hk)
  have d1 : decide ((n : Int) > 600) = false := by simp; omega
  clear hk h
  go_enter Tryd.func3, Tryd.ntmps3
  go_wp2_with fail
  refine HA.out.mono ?_
  rintro e w1 ⟨rfl, b1⟩
  have B1 := Lib.hid b1
  clear b1 HA
  go_wp2_with fail
  refine (HM.out w1).mono ?_
  rintro e w2 ⟨rfl, rfl⟩
  go_wp2_with fail
  refine (HI.out w1).mono ?_
  rintro e w2 ⟨rfl, rfl⟩
  go_wp2_with fail
  refine (HW.out w1).mono ?_
  rintro e w2 ⟨rfl, rfl⟩
  go_wp2_with fail
  refine (HC.out w1).mono ?_
  rintro e w2 ⟨rfl, rfl⟩
  go_wp2
  go_ret
  exact ⟨rfl, B1.out⟩
theorem lawm_long (z : Int) (A : Option Addr) (n c : Nat) (hn : 600 < n) (w : World) (hk : QAt w) : Calls Tryd.prog 3 #[.int .i64 z, .slice A n c] w fun e w' => e = .returned (.bool true) ∧ Below w.heap.size w w' := by
  have HA := Lib.hid (awake23_any w hk)
  have d1 : decide ((n : Int) > 600) = true := by simp; omega
  clear hk
  go_enter Tryd.func3, Tryd.ntmps3
  go_wp2_with fail
  refine HA.out.mono ?_
  rintro e w1 ⟨rfl, b1⟩
  have B1 := Lib.hid b1
  clear b1 HA
  go_wp2
  go_ret
  exact ⟨rfl, B1.out⟩

set_option maxHeartbeats 3200000 in
theorem lawm_size (r : Nat) (h1 : 1 ≤ r) (h2 : r ≤ 512) (A : Option Addr) (n c : Nat) (hs : n ≠ 32 * r) (hn : n ≤ 600) (w : World) (hk : QAt w) : Calls Tryd.prog 3 #[.int .i64 (r : Int), .slice A n c] w fun e w' => e = .returned (.bool true) ∧ Below w.heap.size w w' := by
  have HM := Lib.hid fun w => mix_size r h1 h2 A n c hs w
  have HI := Lib.hid fun w => int_size r h1 h2 A n c hs w
  have HC := Lib.hid fun w => check_size r h1 h2 A n c hs w
  have HW := Lib.hid fun w => why_any r h1 h2 A n c 9 (by rw [if_neg hs]) w
  have HA := Lib.hid (awake23_any w hk)
  have d1 : decide ((n : Int) > 600) = false := by simp; omega
  clear hk hs h1 h2
  go_enter Tryd.func3, Tryd.ntmps3
  go_wp2_with fail
  refine HA.out.mono ?_
  rintro e w1 ⟨rfl, b1⟩
  have B1 := Lib.hid b1
  clear b1 HA
  go_wp2_with fail
  refine (HM.out w1).mono ?_
  rintro e w2 ⟨rfl, rfl⟩
  go_wp2_with fail
  refine (HI.out w1).mono ?_
  rintro e w2 ⟨rfl, rfl⟩
  go_wp2_with fail
  refine (HW.out w1).mono ?_
  rintro e w2 ⟨rfl, rfl⟩
  go_wp2_with fail
  refine (HC.out w1).mono ?_
  rintro e w2 ⟨rfl, rfl⟩
  go_wp2
  go_ret
  exact ⟨rfl, B1.out⟩

set_option maxHeartbeats 6400000 in
theorem lawm_good (r : Nat) (h1 : 1 ≤ r) (h2 : r ≤ 512) (A : Option Addr) (n c : Nat) (l : List Nat) (hl : l.length = n) (hs : n = 32 * r) (hnc : n ≤ c) (ho : okw l) (hn : n ≤ 600) (w : World) (hk : QAt w) (hr : Reads w w.heap.size A (u32s l)) :
    Calls Tryd.prog 3 #[.int .i64 (r : Int), .slice A n c] w fun e w' => e = .returned (.bool true) ∧ Below w.heap.size w w' := by
  have HM := Lib.hid fun (w1 : World) (hb : Below w.heap.size w w1) => mix_any r h1 h2 A n c l hl hs hnc ho w1 (hk.next hb) ((hr.below hb).more hb.size)
  have HI := Lib.hid fun (w1 : World) (hb : Below w.heap.size w w1) => int_any r h1 h2 A n c l hl hs hnc ho w1 ((hr.below hb).more hb.size)
  have HRI := Lib.hid fun (w1 : World) (hb : Below w.heap.size w w1) => rint_any r h1 h2 A n c l hl hs ho w1 ((hr.below hb).more hb.size)
  have HRM := Lib.hid fun (w1 : World) (hb : Below w.heap.size w w1) => rmix_any r h1 h2 A n c l hl hs ho w1 ((hr.below hb).more hb.size)
  rw [← mx_all l r (by omega)] at HRM
  have HC := Lib.hid fun w => check_ok r h1 h2 A n c hs w
  have HW := Lib.hid fun w => why_any r h1 h2 A n c 0 (by rw [if_pos hs]) w
  have HA := Lib.hid (awake23_any w hk)
  have HML := Lib.hid (show (mx l r (2 * r)).length = n by rw [mx_length l r (by omega) _ (Nat.le_refl _)]; omega)
  have d1 : decide ((n : Int) > 600) = false := by simp; omega
  have h0 : 0 < n := by omega
  generalize mx l r (2 * r) = M at *
  generalize inN l = I at *
  clear hk hs h1 h2 hl hnc ho hr
  go_enter Tryd.func3, Tryd.ntmps3
  go_wp2_with fail
  refine HA.out.mono ?_
  rintro e w1 ⟨rfl, b1⟩
  have B1 := Lib.hid b1
  clear b1 HA
  go_wp2_with fail
  refine (HM.out w1 B1.out).mono ?_
  rintro e w2 ⟨G, rfl, R2, _, b2⟩
  have HX2 := Lib.hid (And.intro R2 (below_step B1.out b2))
  clear R2 b2 B1 HM
  go_wp2_with fail
  refine (HI.out w2 HX2.out.2).mono ?_
  rintro e w3 ⟨rfl, b3⟩
  have HX3 := Lib.hid (And.intro (HX2.out.1.below b3 HX2.out.1.lt) (below_step HX2.out.2 b3))
  clear HX2 b3 HI
  go_wp2_with fail
  refine (HW.out w3).mono ?_
  rintro e w' ⟨rfl, rfl⟩
  go_wp2_with fail
  refine (HRM.out w3 HX3.out.2).mono ?_
  rintro e w4 ⟨v, rfl, hown, b4⟩
  obtain ⟨A4, c4, rfl⟩ := own_slice hown
  have HX4 := Lib.hid (And.intro (HX3.out.1.below b4 HX3.out.1.lt) (And.intro hown (below_step HX3.out.2 b4)))
  clear hown b4 HX3 HRM HW
  go_wp2_with fail
  refine (HC.out w4).mono ?_
  rintro e w' ⟨rfl, rfl⟩
  have hie : ((I : Int) == (I : Int)) = true := by simp
  go_wp2_with fail
  refine (HRI.out w4 HX4.out.2.2).mono ?_
  rintro e w5 ⟨rfl, b5⟩
  have HX5 := Lib.hid (below_step HX4.out.2.2 b5)
  have R5 := HX4.out.1.below b5 HX4.out.1.lt
  obtain ⟨g, o, rfl, hg, hc⟩ := reads_words (Reads.of_own (own_under HX4.out.2.1 b5)) (by rw [HML.out]; exact h0)
  have HG : Hid (∀ wr, Below w5.heap.size w5 wr → ∀ k, k < n → wr.cell? ⟨G, k, none⟩ = some (.int .u32 (M.getD k 0 : Nat)) ∧ wr.cell? ⟨g, o + k, none⟩ = some (.int .u32 (M.getD k 0 : Nat))) := Lib.hid fun wr hb k hk => ⟨((R5.below hb R5.lt).cell k).trans (wd_at M k (by rw [HML.out]; exact hk)), (hb.cell (p := ⟨g, o + k, none⟩) hg).trans (hc k (by rw [HML.out]; exact hk))⟩
  clear b5 HX4 HRI HC R5 hg hc h0
  have hne : ((n : Int) == (n : Int)) = true := by simp
  go_wp2
  have hnb : n ≤ 600 := hn
  go_loopw [11, 89] (fun _ v89 wr => ∃ k : Nat, k ≤ n ∧ v89 = .int .i64 (k : Int) ∧ Below w5.heap.size w5 wr) (fun _ v89 _ => n - (intOf v89).toNat)
  case atStart => exact ⟨0, by omega, rfl, Below.refl _ _⟩
  case round =>
    obtain ⟨k, hk, rfl, hb⟩ := hrel
    have HB := Lib.hid hb
    by_cases h : k < n
    · have hdt : decide ((k : Int) < (n : Int)) = true := by simp; omega
      obtain ⟨c1, c2⟩ := HG.out wr hb k h
      generalize M.getD k 0 = x at *
      have k0 : (0 : Int) ≤ (k : Int) := by omega
      have kn : (k : Int) < (n : Int) := by omega
      have k1 : ∀ tp d os out, (World.mk wr.heap tp d os out).cell? ⟨G, k, none⟩ = some (.int .u32 (x : Int)) := fun _ _ _ _ => c1
      have k2 : ∀ tp d os out, (World.mk wr.heap tp d os out).cell? ⟨g, o + k, none⟩ = some (.int .u32 (x : Int)) := fun _ _ _ _ => c2
      have HIB := Lib.hid h
      clear c1 c2 hb h
      go_wp2
      go_quiet (fail)
      go_wp2
      go_roundw
      case rel => exact ⟨k + 1, by have := HIB.out; omega, by go_num, below_drewN HB.out _⟩
      case measure => have := HIB.out; simp [intOf]; omega
    · obtain rfl : k = n := by omega
      have hdt : decide ((k : Int) < (k : Int)) = false := by simp
      clear hb
      go_wp2
      go_ret
      exact ⟨rfl, below_step HX5.out HB.out⟩

theorem lawm_any (z : Int) (A : Option Addr) (n c : Nat) (l : List Nat) (hl : l.length = n) (hnc : n ≤ c) (ho : okw l) (w : World) (hk : QAt w) (hr : Reads w w.heap.size A (u32s l)) :
    Calls Tryd.prog 3 #[.int .i64 z, .slice A n c] w fun e w' => e = .returned (.bool true) ∧ Below w.heap.size w w' := by
  by_cases hn : n ≤ 600
  · by_cases h : z < 1 ∨ 512 < z
    · exact lawm_bad z h A n c hn w hk
    · obtain ⟨r, rfl⟩ : ∃ r : Nat, z = (r : Int) := ⟨z.toNat, by omega⟩
      by_cases hs : n = 32 * r
      · exact lawm_good r (by omega) (by omega) A n c l hl hs hnc ho hn w hk hr
      · exact lawm_size r (by omega) (by omega) A n c hs hn w hk
  · exact lawm_long z A n c (by omega) w hk
end Go.Proofs.YtdbghgdhjgapbaaDoor
