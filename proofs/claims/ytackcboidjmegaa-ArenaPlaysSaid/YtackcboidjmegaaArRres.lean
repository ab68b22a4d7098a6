/- Reserve of the document's arena, by its contract. Conditions: those typed. -/
import Derived.Test.YtackcboidjmegaaArRrel
namespace Go.Proofs.Ytackcboidjmegaa
set_option maxRecDepth 50000
open Go.RowKit

/-- behind the call of Used: the arena that came in, a row for the answer -/
structure RrAt (w w2 : World) (B h : Nat) (v : Value) : Prop where
  r0 : RowAt w2 w.heap.size 32 (mcells B v h)
  r1 : RowAt w2 (w.heap.size + 1) 32 (mcells 0 (.slice none 0 0) 0)
  below : Below w.heap.size w w2
theorem rr_calls {N : Nat} (B h : Nat) {v : Value} {l : Pz} {w : World} (ho : OwnP w N v l) (hl : l.length ≤ 1000000) (hu : usd l ≤ 1000000000) :
    Calls Try.prog 23 #[.agg #[.int .i64 (B : Int), v, .int .i64 (h : Int)]] ((w.alloc (.cells #[.int .i64 (B : Int), v, .int .i64 (h : Int)] 32)).alloc (.cells #[.int .i64 0, .slice none 0 0, .int .i64 0] 32))
      fun e w2 => e = .returned (.tuple #[.int .i64 (usd l : Int), .int .i64 (mny l : Int)]) ∧ RrAt w w2 B h v := by
  obtain ⟨A, c, rfl, hr⟩ := ho.form
  have B1 : Below w.heap.size w ((w.alloc (.cells #[.int .i64 (B : Int), .slice A l.length c, .int .i64 (h : Int)] 32)).alloc (.cells #[.int .i64 0, .slice none 0 0, .int .i64 0] 32)) := ((Below.refl _ w).alloc (Nat.le_refl _) _).alloc (by simp) _
  refine (rused_any B h A c l _ ((hr.below B1).more B1.size) hl hu).mono ?_
  rintro e w2 ⟨rfl, hb⟩
  refine ⟨rfl, ?_, ?_, B1.trans (hb.mono B1.size)⟩
  · exact RowAt.below ((RowAt.new w 32 (mcells B (.slice A l.length c) h)).alloc _) hb (by simp; omega)
  · exact RowAt.below (two_new w _ (mcells 0 (.slice none 0 0) 0) 32) hb (by simp)

section
variable {w w2 : World} {B h : Nat} {v : Value}
theorem RrAt.at_ (H : RrAt w w2 B h v) : (w2.cell? ⟨w.heap.size, 0, none⟩ = some (.int .i64 (B : Int)) ∧ w2.cell? ⟨w.heap.size, 1, none⟩ = some v ∧ w2.cell? ⟨w.heap.size, 2, none⟩ = some (.int .i64 (h : Int))) ∧
    (w2.cell? ⟨w.heap.size + 1, 0, none⟩ = some (.int .i64 0) ∧ w2.cell? ⟨w.heap.size + 1, 1, none⟩ = some (.slice none 0 0) ∧ w2.cell? ⟨w.heap.size + 1, 2, none⟩ = some (.int .i64 0)) ∧
    w2.frozen? ⟨w.heap.size + 1, 0, none⟩ = false ∧ w2.frozen? ⟨w.heap.size + 1, 1, none⟩ = false ∧ w2.frozen? ⟨w.heap.size + 1, 2, none⟩ = false :=
  ⟨⟨H.r0.cell 0, H.r0.cell 1, H.r0.cell 2⟩, ⟨H.r1.cell 0, H.r1.cell 1, H.r1.cell 2⟩, H.r1.frozen 0, H.r1.frozen 1, H.r1.frozen 2⟩
end

set_option maxHeartbeats 1600000 in
theorem rres_bad {N : Nat} (B h : Nat) {v : Value} {l : Pz} {w : World} (ho : OwnP w N v l) (hl : l.length ≤ 1000000) (hB : B ≤ 4194304) (hu : usd l ≤ B) (n : Int) (z : Int) (hn : n < 0 ∧ z = 1 ∨ 0 ≤ n ∧ (B : Int) - usd l < n ∧ z = 4) :
    Calls Try.prog 19 #[.agg (mcells B v h), .int .i64 n] w fun e w' => e = .returned (.tuple #[.agg (mcells B v h), .int .i64 z]) ∧ Below w.heap.size w w' := by
  obtain ⟨A, c, rfl, _⟩ := ho.form
  have C := Lib.hid (rr_calls B h ho hl (by omega))
  clear ho
  generalize usd l = U at *
  generalize mny l = V at *
  obtain ⟨r, hr⟩ : ∃ r : Nat, (B : Int) - U = r := ⟨B - U, by omega⟩
  have hw : IntKind.i64.wrap ((B : Int) - U) = (r : Int) := by rw [IntKind.wrap_i64]; omega
  have hh : decide (n < 0) = true ∧ z = 1 ∨ decide (n < 0) = false ∧ decide ((r : Int) < n) = true ∧ z = 4 := by simp; omega
  clear hn
  unfold mcells at *
  rcases hh with ⟨d1, rfl⟩ | ⟨d1, d2, rfl⟩
  all_goals
    go_enter Try.func19, Try.ntmps19
    go_wp2_with fail
    refine C.out.mono ?_
    rintro e w2 ⟨rfl, hR⟩
    obtain ⟨⟨x0, x1, x2⟩, ⟨y0, y1, y2⟩, g0, g1, g2⟩ := hR.at_
    have HR := Lib.hid hR
    clear C hR
    go_wp2
    refine bodyPost_ret (results_row_tmp (C := mcells B (.slice A l.length c) h) (t := 32) (b := w.heap.size + 1) rfl _ (p := 4) rfl (((HR.out.r1.setCell 0 (.int .i64 (B : Int))).setCell 1 (.slice A l.length c)).setCell 2 (.int .i64 (h : Int))) Try.underlying32 rfl m_size) rfl ⟨rfl, ?_⟩
    exact ((HR.out.below.setCell (by simp) _).setCell (by simp) _).setCell (by simp) _

set_option maxHeartbeats 3200000 in
theorem rres_any {N : Nat} (B h : Nat) {v : Value} {l : Pz} {w : World} (ho : OwnP w N v l) (hl : l.length ≤ 100000) (hB : B ≤ 4194304) (hh : h ≤ 4194304) (n : Nat) (hu : usd l + n ≤ B) :
    Calls Try.prog 19 #[.agg (mcells B v h), .int .i64 (n : Int)] w fun e w' => (∃ v', e = .returned (.tuple #[.agg (mcells B v' (max h (usd l + n))), .int .i64 0]) ∧ OwnP w' w.heap.size v' (l ++ [(n, true)])) ∧ Below w.heap.size w w' := by
  have C := Lib.hid (rr_calls B h ho (by omega) (by omega))
  obtain ⟨A, c, rfl, hrd⟩ := ho.form
  have HRD := Lib.hid hrd
  have HW := Lib.hid (rfl : w.heap.size = w.heap.size)
  clear ho hrd
  have hll : l.length ≤ 100000 := hl
  generalize hU : usd l = U at *
  generalize mny l = V at *
  clear hU hl
  obtain ⟨r, hr⟩ : ∃ r : Nat, (B : Int) - U = r := ⟨B - U, by omega⟩
  have hw : IntKind.i64.wrap ((B : Int) - U) = (r : Int) := by rw [IntKind.wrap_i64]; omega
  have d1 : decide ((n : Int) < 0) = false := by simp
  have d2 : decide ((r : Int) < (n : Int)) = false := by simp; omega
  have d3 : decide (r < n) = false := by simp; omega
  obtain ⟨m, hm⟩ : ∃ m, m = max h (U + n) := ⟨_, rfl⟩
  rw [← hm]
  have HM := Lib.hid hm
  clear hm
  unfold mcells at *
  go_enter Try.func19, Try.ntmps19
  go_wp2_with fail
  refine C.out.mono ?_
  rintro e w2 ⟨rfl, hR⟩
  obtain ⟨⟨x0, x1, x2⟩, ⟨y0, y1, y2⟩, g0, g1, g2⟩ := hR.at_
  have h1lt := hR.r1.lt
  -- a copy, an empty row, the pieces, one more
  have B2 := hR.below
  obtain ⟨w3, e3⟩ : ∃ w3, w3 = w2.alloc (.cells (mcells B (.slice A l.length c) h) 32) := ⟨_, rfl⟩
  have hz3 : w3.heap.size = w2.heap.size + 1 := by rw [e3]; simp
  have B3 : Below w.heap.size w w3 := by rw [e3]; exact B2.alloc (by omega) _
  have R0 : RowAt w3 w.heap.size 32 (mcells B (.slice A l.length c) h) := by rw [e3]; exact hR.r0.alloc _
  have R1 : RowAt w3 (w.heap.size + 1) 32 (mcells 0 (.slice none 0 0) 0) := by rw [e3]; exact hR.r1.alloc _
  have R2 : RowAt w3 w2.heap.size 32 (mcells B (.slice A l.length c) h) := by rw [e3]; exact RowAt.new _ _ _
  have B4 : Below w.heap.size w (w3.alloc (.cells #[] 62)) := B3.alloc (by omega) _
  obtain ⟨v4, w4, hap, ho4, hb4⟩ := app_ps (k := l) (x := .slice A l.length c) (own_empty w3 w3.heap.size (Nat.le_refl _)) (by simp) rfl ((HRD.out.below B4).more B4.size) (by simp; omega) 30
  rw [List.nil_append] at ho4
  obtain ⟨w5, e5⟩ : ∃ w5, w5 = w4.alloc (.cells #[.int .i64 (n : Int), .bool true] 62) := ⟨_, rfl⟩
  have hz4 := hb4.size
  have ho5 : OwnP w5 w3.heap.size v4 l := by rw [e5]; exact own_kept' (M := fun _ => False) ho4 ((Kept.refl _ w4).alloc _) (fun _ _ => id)
  have hr5 : Reads w5 w5.heap.size (some ⟨w4.heap.size, 0, none⟩) (mcs [(n, true)]) := by
    rw [e5]
    intro k hk
    have hR5 := RowAt.new w4 62 #[.int .i64 (n : Int), .bool true]
    refine ⟨_, 0, rfl, by simp, ?_⟩
    rw [Nat.zero_add, hR5.cell, ← List.getElem?_eq_getElem, show mcs [(n, true)] = [.int .i64 (n : Int), .bool true] by simp [mcs]]
    simp
  obtain ⟨v6, w6, hap2, ho6, hb6⟩ := app_ps (k := [(n, true)]) ho5 (by rw [e5]; simp at hz4 ⊢; omega) (x := .slice (some ⟨w4.heap.size, 0, none⟩) 1 1) rfl hr5 (by simp; omega) 30
  have hb46 : Below w3.heap.size (w3.alloc (.cells #[] 62)) w6 := (hb4.trans (by rw [e5]; exact (Below.refl _ w4).alloc (by simp at hz4; omega) _)).trans hb6
  have hb06 : Below w.heap.size w w6 := B4.trans (hb46.mono (by omega))
  have R0 := (R0.alloc (.cells #[] 62)).below hb46 (by omega)
  have R1 := (R1.alloc (.cells #[] 62)).below hb46 (by omega)
  have R2 := (R2.alloc (.cells #[] 62)).below hb46 (by omega)
  have hn1 := own_unlike ho6 R1 (by rfl)
  have hn2 := own_unlike ho6 R2 (by rfl)
  rw [hz3] at hap
  rw [e3] at hap
  rw [e5] at hap2
  obtain ⟨A6, c6, rfl, _⟩ := ho6.form
  rw [show (l ++ [(n, true)]).length = l.length + 1 by simp] at hn1 hn2 hap2 ho6
  have HAP := Lib.hid hap
  have HAP2 := Lib.hid hap2
  have HO := Lib.hid ho6
  have HN1 := Lib.hid hn1
  have HN2 := Lib.hid hn2
  have HR1 := Lib.hid R1
  have HR2 := Lib.hid R2
  have HB := Lib.hid hb06
  have hq := hR.below.size
  have X0 : w6.cell? ⟨w.heap.size, 2, none⟩ = some (.int .i64 (h : Int)) := R0.cell 2
  have Y0 : w6.cell? ⟨w.heap.size + 1, 0, none⟩ = some (.int .i64 0) := R1.cell 0
  have Y1 : w6.cell? ⟨w.heap.size + 1, 1, none⟩ = some (.slice none 0 0) := R1.cell 1
  have Y2 : w6.cell? ⟨w.heap.size + 1, 2, none⟩ = some (.int .i64 0) := R1.cell 2
  have Z0 : w6.cell? ⟨w2.heap.size, 0, none⟩ = some (.int .i64 (B : Int)) := R2.cell 0
  have Z1 : w6.cell? ⟨w2.heap.size, 1, none⟩ = some (.slice A l.length c) := R2.cell 1
  have Z2 : w6.cell? ⟨w2.heap.size, 2, none⟩ = some (.int .i64 (h : Int)) := R2.cell 2
  have q0 := R1.frozen 0
  have q1 := R1.frozen 1
  have q2 := R1.frozen 2
  have s1 := R2.frozen 1
  have s2 := R2.frozen 2
  have k1 : ¬ w2.heap.size = w.heap.size := by omega
  have k2 : ¬ w2.heap.size = w.heap.size + 1 := by omega
  have h0lt : w.heap.size < w2.heap.size := by omega
  have h3 : w.heap.size ≤ w3.heap.size := by omega
  have k3 : ¬ w.heap.size = w2.heap.size := by omega
  have k4 : ¬ w.heap.size = w2.heap.size + 1 := by omega
  clear hap hap2 ho6 hn1 hn2 R0 R1 R2 hb06 hb46 hb4 hb6 ho4 ho5 hr5 e3 e5 B2 B3 B4 hz3 hz4 hR C y0 y1 y2 g0 g1 g2
  by_cases hx : h < U + n
  · have dx : decide ((h : Int) < (U : Int) + (n : Int)) = true := by simp; omega
    obtain rfl : m = U + n := by rw [HM.out]; omega
    go_wp2_with (first
      | (at_builtin; refine wpList_append_of rfl (.tmp 25) (.tmp 27) 30 rfl _ _ _ rfl rfl HAP.out ?_)
      | (at_builtin; refine wpList_append_of rfl (.tmp 28) (.tmp 31) 30 rfl _ _ _ rfl rfl HAP2.out ?_))
    have hR := (((((HR1.out.setOther ⟨w2.heap.size, 1, none⟩ k2 (.slice A6 (l.length + 1) c6)).setOther ⟨w2.heap.size, 2, none⟩ k2 (.int .i64 ((U : Int) + (n : Int)))).setCell 0 (.int .i64 (B : Int))).setCell 1 (.slice A6 (l.length + 1) c6)).setCell 2 (.int .i64 ((U : Int) + (n : Int))))
    refine bodyPost_ret (results_row_tmp (t := 32) (b := w.heap.size + 1) rfl _ (p := 4) rfl hR Try.underlying32 rfl m_size) rfl ⟨⟨.slice A6 (l.length + 1) c6, by rw [show ((U + n : Nat) : Int) = (U : Int) + n by omega]; rfl, ?_⟩, ?_⟩
    · refine own_base' (base := w3.heap.size) (own_kept' (M := fun k => k = w2.heap.size ∨ k = w.heap.size + 1) HO.out (((((((Kept.refl (fun k => k = w2.heap.size ∨ k = w.heap.size + 1) w6).set (p := ⟨w2.heap.size, 1, none⟩) (.inl (.inl rfl)) _).set (p := ⟨w2.heap.size, 2, none⟩) (.inl (.inl rfl)) _).set (p := ⟨w.heap.size + 1, 0, none⟩) (.inl (.inr rfl)) _).set (p := ⟨w.heap.size + 1, 1, none⟩) (.inl (.inr rfl)) _).set (p := ⟨w.heap.size + 1, 2, none⟩) (.inl (.inr rfl)) _)) ?_) (by omega)
      rintro k hk (rfl | rfl)
      · exact HN2.out hk
      · exact HN1.out hk
    · exact ((((HB.out.setCell (by simp; omega) _).setCell (by simp; omega) _).setCell (by simp) _).setCell (by simp) _).setCell (by simp) _
  · have dx : decide ((h : Int) < (U : Int) + (n : Int)) = false := by simp; omega
    obtain rfl : h = m := by rw [HM.out]; omega
    go_wp2_with (first
      | (at_builtin; refine wpList_append_of rfl (.tmp 25) (.tmp 27) 30 rfl _ _ _ rfl rfl HAP.out ?_)
      | (at_builtin; refine wpList_append_of rfl (.tmp 28) (.tmp 31) 30 rfl _ _ _ rfl rfl HAP2.out ?_))
    have hR := ((((HR1.out.setOther ⟨w2.heap.size, 1, none⟩ k2 (.slice A6 (l.length + 1) c6)).setCell 0 (.int .i64 (B : Int))).setCell 1 (.slice A6 (l.length + 1) c6)).setCell 2 (.int .i64 ((h : Int))))
    refine bodyPost_ret (results_row_tmp (t := 32) (b := w.heap.size + 1) rfl _ (p := 4) rfl hR Try.underlying32 rfl m_size) rfl ⟨⟨.slice A6 (l.length + 1) c6, rfl, ?_⟩, ?_⟩
    · refine own_base' (base := w3.heap.size) (own_kept' (M := fun k => k = w2.heap.size ∨ k = w.heap.size + 1) HO.out ((((((Kept.refl (fun k => k = w2.heap.size ∨ k = w.heap.size + 1) w6).set (p := ⟨w2.heap.size, 1, none⟩) (.inl (.inl rfl)) _).set (p := ⟨w.heap.size + 1, 0, none⟩) (.inl (.inr rfl)) _).set (p := ⟨w.heap.size + 1, 1, none⟩) (.inl (.inr rfl)) _).set (p := ⟨w.heap.size + 1, 2, none⟩) (.inl (.inr rfl)) _)) ?_) (by omega)
      rintro k hk (rfl | rfl)
      · exact HN2.out hk
      · exact HN1.out hk
    · exact (((HB.out.setCell (by simp; omega) _).setCell (by simp) _).setCell (by simp) _).setCell (by simp) _
end Go.Proofs.Ytackcboidjmegaa
