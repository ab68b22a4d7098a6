/- The law ShufflePlaces by the calls' contracts. Condition: the table of package salsa reads as it was laid. -/
import Derived.Test.YtdbghgdhjgapbaaDoorSfAwake
namespace Go.Proofs.YtdbghgdhjgapbaaDoor
set_option maxRecDepth 50000
open Go.RowKit Rot Sl Sf

/-- which places were gone to by the first i blocks -/
def sn (r i : Nat) : Array Value := ((List.range (2 * r)).map fun p => Value.bool (decide (src r p < i))).toArray
theorem sn_size (r i : Nat) : (sn r i).size = 2 * r := by simp [sn]
theorem sn_at (r i p : Nat) (hp : p < 2 * r) : (sn r i)[p]? = some (.bool (decide (src r p < i))) := by
  simp [sn, hp]
theorem sn_zero (r : Nat) : sn r 0 = (List.replicate (2 * r) (Value.bool false)).toArray := by
  unfold sn
  congr 1
  refine List.ext_getElem (by simp) fun k h1 h2 => ?_
  simp
theorem sn_next (r i : Nat) (hi : i < 2 * r) : (sn r i).setIfInBounds (pl r i) (.bool true) = sn r (i + 1) := by
  refine Array.ext_getElem? fun q => ?_
  have hp := pl_lt hi
  by_cases hq : q < 2 * r
  · rw [sn_at r (i + 1) q hq, Array.getElem?_setIfInBounds]
    by_cases e : pl r i = q
    · rw [if_pos e, if_pos (by rw [sn_size]; omega), ← e, src_pl hi]
      simp
    · rw [if_neg e, sn_at r i q hq]
      have : src r q ≠ i := fun h => e (by rw [← h]; exact pl_src r q)
      congr 2
      simp only [decide_eq_decide]
      omega
  · rw [Array.getElem?_eq_none (by rw [Array.size_setIfInBounds, sn_size]; omega), Array.getElem?_eq_none (by rw [sn_size]; omega)]
theorem bool_info : (Tryd.prog.info? 4).map (fun i => (i.zero, i.size, i.bytes)) = some (some (.bool false), 1, 1) := by kernel_rfl

set_option maxHeartbeats 3200000 in
theorem lawp_bad (z : Int) (h : z < 1 ∨ 512 < z) (w : World) (hk : QAt w) : Calls Tryd.prog 4 #[.int .i64 z] w fun e w' => e = .returned (.bool true) ∧ Below w.heap.size w w' := by
  have HC := Lib.hid fun w => places_bad z h w
  have HA := Lib.hid (awake23_any w hk)
  clear hk
  rcases h with h | h
  all_goals
    first
      | (have d1 : decide (z < 1) = true := by simp; omega)
      | (have d1 : decide (z < 1) = false := by simp; omega)
    first
      | (have d2 : decide (z > 512) = true := by simp; omega)
      | (have d2 : decide (z > 512) = false := by simp; omega)
    go_enter Tryd.func4, Tryd.ntmps4
    go_wp2_with fail
    refine HA.out.mono ?_
    rintro e w1 ⟨rfl, b1⟩
    have B1 := Lib.hid b1
    clear b1 HA
    go_wp2_with fail
    refine (HC.out w1).mono ?_
    rintro e w2 ⟨rfl, rfl⟩
    go_wp2
    go_ret
    exact ⟨rfl, B1.out⟩

set_option maxHeartbeats 6400000 in
theorem lawp_good (r : Nat) (h1 : 1 ≤ r) (h2 : r ≤ 512) (w : World) (hk : QAt w) : Calls Tryd.prog 4 #[.int .i64 (r : Int)] w fun e w' => e = .returned (.bool true) ∧ Below w.heap.size w w' := by
  have HC := Lib.hid fun w => places_any r h1 h2 w
  have HA := Lib.hid (awake23_any w hk)
  have HPA := Lib.hid fun j hj => pls_at r j hj (2 * r) hj
  have HPL := Lib.hid (pls_length r (2 * r))
  have HPT := Lib.hid fun i hi => pl_lt (r := r) (i := i) hi
  have HSP := Lib.hid fun i hi => src_pl (r := r) (i := i) hi
  have HSN := Lib.hid (sn_next r)
  have HSA := Lib.hid (sn_at r)
  have HS0 := Lib.hid (sn_zero r)
  have HSZ := Lib.hid (sn_size r)
  generalize pls r (2 * r) = P at *
  obtain ⟨b, hb⟩ : ∃ b, 2 * r = b := ⟨_, rfl⟩
  rw [hb] at HC HPA HPL HPT HSP HSN HSA HS0 HSZ
  have d1 : decide ((r : Int) < 1) = false := by simp; omega
  have d2 : decide ((r : Int) > 512) = false := by simp; omega
  have e2r : (2 : Int) * (r : Int) = (b : Int) := by omega
  have hbb : b ≤ 1024 := by omega
  have HB := Lib.hid hb
  have H2 := Lib.hid h2
  obtain ⟨i0, hi0, hz0, hz1, hz2⟩ := info_parts bool_info
  clear hk h1 h2 hb
  go_enter Tryd.func4, Tryd.ntmps4
  go_wp2_with fail
  refine HA.out.mono ?_
  rintro e w1 ⟨rfl, b1⟩
  have B1 := Lib.hid b1
  clear b1 HA
  go_wp2_with fail
  refine (HC.out w1).mono ?_
  rintro e w2 ⟨G, rfl, R2, _, b2⟩
  have HX2 := Lib.hid (And.intro R2 (below_step B1.out b2))
  clear R2 b2 B1 HC
  have hbe : ((b : Int) == (b : Int)) = true := by simp
  go_wp2_with (at_make; refine wpList_make_full _ rfl _ _ 39 rfl w2.heap.size 4 i0 (.bool false) 1 Tryd.underlying39 hi0 hz0 hz1 _ _ _ _ b rfl rfl ?c0 ?c00 ?c1 ?c2 ?c3 ?_)
  case c0 => rfl
  case c00 => rfl
  case c1 => rw [hz2]; omega
  case c2 => unfold maxLen; omega
  case c3 => exact Nat.le_refl _
  intro w3 hown hgr
  have e0 : (madeCells #[.bool false] b).toList.toArray = sn r 0 := by rw [toList_madeCells_one, HS0.out]
  have hR := own_rowAt hown
  rw [e0] at hR
  have hb3 := (Below.refl w2.heap.size _).grown hgr (Nat.le_refl _) (by simp)
  obtain ⟨S, hS⟩ : ∃ S, S = w2.heap.size := ⟨_, rfl⟩
  have HX3 := Lib.hid (And.intro (HX2.out.1.below hb3 HX2.out.1.lt) (And.intro hR (And.intro (HX2.out.2.trans (hb3.mono HX2.out.2.size)) (And.intro HX2.out.2.size HX2.out.1.lt))))
  rw [← hS] at HX3 ⊢
  clear hown hgr e0 hR hb3 HX2 hS hbe
  go_wp2
  go_loopw [6, 7, 42] (fun _ _ v42 wr => ∃ i : Nat, i ≤ b ∧ v42 = .int .i64 (i : Int) ∧ RowAt wr G 3 (iq P) ∧ RowAt wr S 4 (sn r i) ∧ Below w.heap.size w wr ∧ w.heap.size ≤ S ∧ G < S) (fun _ _ v42 _ => b - (intOf v42).toNat)
  case atStart => exact ⟨0, by omega, rfl, HX3.out⟩
  case round =>
    clear HX3
    obtain ⟨i, hi, rfl, Y⟩ := hrel
    have HX := Lib.hid Y
    by_cases h : i < b
    · have hdt : decide ((i : Int) < (b : Int)) = true := by simp; omega
      have c1 := (Y.1.cell i).trans (iq_at P i (by rw [HPL.out]; exact h))
      rw [HPA.out i h] at c1
      have hp := HPT.out i h
      have c2 := (Y.2.1.cell (pl r i)).trans (HSA.out i _ hp)
      rw [HSP.out i h, show decide (i < i) = false by simp] at c2
      have f2 := Y.2.1.frozen (pl r i)
      have HN := Lib.hid (HSN.out i h)
      obtain ⟨m, hm⟩ : ∃ m, i % 2 = m := ⟨_, rfl⟩
      obtain ⟨q, hq⟩ : ∃ q, i / 2 = q := ⟨_, rfl⟩
      have e1 : (i : Int).tmod 2 = (m : Int) := by rw [Int.tmod_eq_emod_of_nonneg (by omega)]; omega
      have e2 : (i : Int).tdiv 2 = (q : Int) := by rw [Int.tdiv_eq_ediv_of_nonneg (by omega)]; omega
      have hpm : (m = 0 ∧ pl r i = q) ∨ (m = 1 ∧ pl r i = r + q) := by
        unfold pl
        rcases Nat.mod_two_eq_zero_or_one i with e | e <;> rw [e] <;> omega
      have HIB := Lib.hid h
      generalize pl r i = p at *
      have p0 : decide ((p : Int) < 0) = false := by simp
      have p1 : decide ((p : Int) ≥ (b : Int)) = false := by simp; omega
      have p2 : (p : Int) < (b : Int) := by omega
      have p3 : (0 : Int) ≤ (p : Int) := by omega
      have i1 : (i : Int) < (b : Int) := by omega
      have i3 : (0 : Int) ≤ (i : Int) := by omega
      have hr512 := H2.out
      clear Y hm hq h
      rcases hpm with ⟨rfl, rfl⟩ | ⟨rfl, hp2⟩
      · have e1' : (i : Int).tmod 2 = 0 := e1
        clear e1
        go_wp2
        go_roundw
        case rel =>
          obtain ⟨x1, x2, x3, x4, x5⟩ := HX.out
          refine ⟨i + 1, by have := HIB.out; omega, by go_num, x1.setOther _ (by simp; omega) _, ?_, x3.setCell x4 _, x4, x5⟩
          rw [← HN.out]
          exact x2.setCell p _
        case measure => have := HIB.out; simp [intOf]; omega
      · have ep : (r : Int) + (q : Int) = (p : Int) := by omega
        have e1' : (i : Int).tmod 2 = 1 := e1
        clear e1 hp2
        go_wp2
        go_roundw
        case rel =>
          obtain ⟨x1, x2, x3, x4, x5⟩ := HX.out
          refine ⟨i + 1, by have := HIB.out; omega, by go_num, x1.setOther _ (by simp; omega) _, ?_, x3.setCell x4 _, x4, x5⟩
          rw [← HN.out]
          exact x2.setCell p _
        case measure => have := HIB.out; simp [intOf]; omega
    · obtain rfl : i = b := by omega
      have hdt : decide ((i : Int) < (i : Int)) = false := by simp
      clear Y
      go_wp2
      go_ret
      exact ⟨rfl, HX.out.2.2.1⟩

theorem lawp_any (z : Int) (w : World) (hk : QAt w) : Calls Tryd.prog 4 #[.int .i64 z] w fun e w' => e = .returned (.bool true) ∧ Below w.heap.size w w' := by
  by_cases h : z < 1 ∨ 512 < z
  · exact lawp_bad z h w hk
  · obtain ⟨r, rfl⟩ : ∃ r : Nat, z = (r : Int) := ⟨z.toNat, by omega⟩
    exact lawp_good r (by omega) (by omega) w hk
end Go.Proofs.YtdbghgdhjgapbaaDoor
