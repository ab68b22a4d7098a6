/- Release of the document's arena, by its contract. Conditions: those typed. -/
import Derived.Test.YtackcboidjmegaaArRefs
namespace Go.Proofs.Ytackcboidjmegaa
set_option maxRecDepth 50000
open Go.RowKit

theorem two_new (w : World) (o : Obj) (C : Array Value) (t : TypeId) : RowAt ((w.alloc o).alloc (.cells C t)) (w.heap.size + 1) t C := by
  have := RowAt.new (w.alloc o) t C
  rwa [World.size_alloc] at this
theorem three_new (w : World) (o o' : Obj) (C : Array Value) (t : TypeId) : RowAt (((w.alloc o).alloc o').alloc (.cells C t)) (w.heap.size + 2) t C := by
  have := two_new (w.alloc o) o' C t
  rwa [World.size_alloc] at this
theorem mcs_set (l : Pz) (i : Nat) (h : i < l.length) : (mcs l).set (i * 2 + 1) (.bool false) = mcs (l.set i (l[i].1, false)) := by
  induction l generalizing i with
  | nil => simp at h
  | cons x l ih =>
    have e : ∀ y : Nat × Bool, ∀ k : Pz, mcs (y :: k) = .int .i64 (y.1 : Int) :: .bool y.2 :: mcs k := fun y k => by simp [mcs]
    cases i with
    | zero => simp [e]
    | succ i =>
      rw [List.set_cons_succ, e, e, show (i + 1) * 2 + 1 = i * 2 + 1 + 1 + 1 by omega, List.set_cons_succ, List.set_cons_succ, ih i (by simpa using h)]
      rfl
theorem OwnP.set {w : World} {N : Nat} {v : Value} {l : Pz} (h : OwnP w N v l) (i : Nat) (hi : i < l.length) :
    ∃ g c, v = .slice (some ⟨g, 0, none⟩) l.length c ∧ g < w.heap.size ∧ N ≤ g ∧ w.cell? ⟨g, i * 2 + 1, none⟩ = some (.bool l[i].2) ∧ w.frozen? ⟨g, i * 2 + 1, none⟩ = false ∧ OwnP (w.setCell ⟨g, i * 2 + 1, none⟩ (.bool false)) N v (l.set i (l[i].1, false)) := by
  rcases h.2 with ⟨_, h0⟩ | ⟨g, cap, cur, rfl, hN, hg, h1, h2, h3, ht⟩
  · omega
  · have hR : RowAt w g 62 cur := hg
    have hc : cur[i * 2 + 1]? = some (.bool l[i].2) := by
      have := (mcs_at l i hi).2
      rw [← ht, List.getElem?_take, if_pos (by omega)] at this
      simpa using this
    refine ⟨g, cap, rfl, hR.lt, hN, by rw [hR.cell]; exact hc, hR.frozen _, ?_⟩
    refine ⟨by rw [mcs_length], .inr ⟨g, cap, cur.setIfInBounds (i * 2 + 1) (.bool false), by rw [List.length_set], hN, hR.setCell _ _, by rw [List.length_set]; exact h1, h2, by rw [Array.size_setIfInBounds]; exact h3, ?_⟩⟩
    rw [Array.toList_setIfInBounds, List.length_set, List.take_set, ht, mcs_set l i hi]
theorem usd_set (l : Pz) (i : Nat) (h : i < l.length) (hl : l[i].2 = true) : usd (l.set i (l[i].1, false)) + l[i].1 = usd l ∧ mny (l.set i (l[i].1, false)) + 1 = mny l := by
  induction l generalizing i with
  | nil => simp at h
  | cons x l ih =>
    cases i with
    | zero =>
      obtain ⟨n, k⟩ := x
      simp only [List.getElem_cons_zero] at hl
      subst hl
      simp [usd, mny]
      omega
    | succ i =>
      have := ih i (by simpa using h) (by simpa using hl)
      simp only [List.getElem_cons_succ, List.set_cons_succ, usd, mny]
      omega

set_option maxHeartbeats 1600000 in
theorem rrel_out {N : Nat} (B h : Nat) {v : Value} {l : Pz} {w : World} (ho : OwnP w N v l) (i : Int) (hi : i < 0 ∨ (l.length : Int) ≤ i) :
    Calls Try.prog 20 #[.agg (mcells B v h), .int .i64 i] w fun e w' => e = .returned (.tuple #[.agg (mcells B v h), .int .i64 11]) ∧ Below w.heap.size w w' := by
  obtain ⟨A, c, rfl, _⟩ := ho.form
  clear ho
  have hh : decide (i < 0) = true ∨ decide (i < 0) = false ∧ decide ((l.length : Int) ≤ i) = true := by simp; omega
  unfold mcells at *
  rcases hh with d1 | ⟨d1, d2⟩
  all_goals
    go_enter Try.func20, Try.ntmps20
    go_wp2
    refine bodyPost_ret (results_row_tmp (C := mcells B (.slice A l.length c) h) (t := 32) (b := w.heap.size + 1) rfl _ (p := 4) rfl (two_new w _ _ _) Try.underlying32 rfl m_size) rfl ⟨rfl, ?_⟩
    exact ((Below.refl _ w).alloc (Nat.le_refl _) _).alloc (by simp) _

set_option maxHeartbeats 1600000 in
theorem rrel_dead {N : Nat} (B h : Nat) {v : Value} {l : Pz} {w : World} (ho : OwnP w N v l) (i : Nat) (hi : i < l.length) (hd : l[i].2 = false) :
    Calls Try.prog 20 #[.agg (mcells B v h), .int .i64 (i : Int)] w fun e w' => e = .returned (.tuple #[.agg (mcells B v h), .int .i64 12]) ∧ Below w.heap.size w w' := by
  obtain ⟨g, c, rfl, hg, hN, x0, f0, _⟩ := ho.set i hi
  rw [hd] at x0
  have hgne : ¬ g = w.heap.size := by omega
  have hgne1 : ¬ g = w.heap.size + 1 := by omega
  clear ho
  have d1 : decide ((i : Int) < 0) = false := by simp
  have d2 : decide ((l.length : Int) ≤ (i : Int)) = false := by simp; omega
  have d3 : decide (l.length ≤ i) = false := by simp; omega
  have hi0 : (0 : Int) ≤ (i : Int) := by omega
  have hi1 : (i : Int) < (l.length : Int) := by omega
  unfold mcells at *
  go_enter Try.func20, Try.ntmps20
  go_wp2
  refine bodyPost_ret (results_row_tmp (C := mcells B (.slice (some ⟨g, 0, none⟩) l.length c) h) (t := 32) (b := w.heap.size + 1) rfl _ (p := 4) rfl (two_new w _ _ _) Try.underlying32 rfl m_size) rfl ⟨rfl, ?_⟩
  exact ((Below.refl _ w).alloc (Nat.le_refl _) _).alloc (by simp) _

set_option maxHeartbeats 1600000 in
theorem rrel_any {N : Nat} (B h : Nat) {v : Value} {l : Pz} {w : World} (ho : OwnP w N v l) (i : Nat) (hi : i < l.length) (hd : l[i].2 = true) (hl : l.length ≤ 1000000) :
    Calls Try.prog 20 #[.agg (mcells B v h), .int .i64 (i : Int)] w fun e w' => (∃ v', e = .returned (.tuple #[.agg (mcells B v' h), .int .i64 0]) ∧ OwnP w' w.heap.size v' (l.set i (l[i].1, false))) ∧ Below w.heap.size w w' := by
  obtain ⟨A, cA, eA, hr⟩ := ho.form
  obtain ⟨g, c, rfl, hg, hN, x0, f0, _⟩ := ho.set i hi
  rw [hd] at x0
  have hgne : ¬ g = w.heap.size := by omega
  have hgne1 : ¬ g = w.heap.size + 1 := by omega
  obtain ⟨w3, e3⟩ : ∃ w3, w3 = ((w.alloc (.cells (mcells B (.slice (some ⟨g, 0, none⟩) l.length c) h) 32)).alloc (.cells (mcells 0 (.slice none 0 0) 0) 32)).alloc (.cells (mcells B (.slice (some ⟨g, 0, none⟩) l.length c) h) 32) := ⟨_, rfl⟩
  have B3 : Below w.heap.size w w3 := by rw [e3]; exact (((Below.refl _ w).alloc (Nat.le_refl _) _).alloc (by simp) _).alloc (by simp; omega) _
  have R0 : RowAt w3 w.heap.size 32 (mcells B (.slice (some ⟨g, 0, none⟩) l.length c) h) := by rw [e3]; exact ((RowAt.new w _ _).alloc _).alloc _
  have R1 : RowAt w3 (w.heap.size + 1) 32 (mcells 0 (.slice none 0 0) 0) := by rw [e3]; exact (two_new w _ _ _).alloc _
  have R2 : RowAt w3 (w.heap.size + 1 + 1) 32 (mcells B (.slice (some ⟨g, 0, none⟩) l.length c) h) := by rw [e3]; exact three_new w _ _ _ _
  have hz3 : w3.heap.size = w.heap.size + 3 := by rw [e3]; simp
  have B4 : Below w.heap.size w (w3.alloc (.cells #[] 62)) := B3.alloc (by omega) _
  obtain ⟨v', w4, hap, ho4, hb4⟩ := app_ps (k := l) (own_empty w3 w3.heap.size (Nat.le_refl _)) (by simp) eA ((hr.below B4).more B4.size) (by simpa using hl) 30
  rw [List.nil_append] at ho4
  obtain ⟨g4, c4, rfl, hg4, hN4, x4, f4, _⟩ := ho4.set i hi
  have hb4' : Below w.heap.size w w4 := B4.trans (hb4.mono (by omega))
  have R0 := (R0.alloc (.cells #[] 62)).below hb4 (by omega)
  have R1 := (R1.alloc (.cells #[] 62)).below hb4 (by omega)
  have R2 := (R2.alloc (.cells #[] 62)).below hb4 (by omega)
  have hu := own_unlike ho4 R1 (by rfl)
  rw [hz3] at hap
  rw [e3] at hap
  have HAP := Lib.hid hap
  clear hap
  have HR1 := Lib.hid R1
  have HR2 := Lib.hid R2
  have HB := Lib.hid hb4'
  have HO := Lib.hid ho4
  have HU := Lib.hid hu
  have hgn : ¬ g4 = w.heap.size := by omega
  have hgn1 : ¬ g4 = w.heap.size + 1 := by omega
  have hgn2 : ¬ g4 = w.heap.size + 1 + 1 := by omega
  have x1 : w4.cell? ⟨w.heap.size, 0, none⟩ = some (.int .i64 (B : Int)) := R0.cell 0
  have y0 : w4.cell? ⟨w.heap.size + 1, 0, none⟩ = some (.int .i64 0) := R1.cell 0
  have y1 : w4.cell? ⟨w.heap.size + 1, 1, none⟩ = some (.slice none 0 0) := R1.cell 1
  have y2 : w4.cell? ⟨w.heap.size + 1, 2, none⟩ = some (.int .i64 0) := R1.cell 2
  have z0 : w4.cell? ⟨w.heap.size + 1 + 1, 0, none⟩ = some (.int .i64 (B : Int)) := R2.cell 0
  have z1 : w4.cell? ⟨w.heap.size + 1 + 1, 1, none⟩ = some (.slice (some ⟨g, 0, none⟩) l.length c) := R2.cell 1
  have z2 : w4.cell? ⟨w.heap.size + 1 + 1, 2, none⟩ = some (.int .i64 (h : Int)) := R2.cell 2
  have q0 := R1.frozen 0
  have q1 := R1.frozen 1
  have q2 := R1.frozen 2
  have s1 := R2.frozen 1
  have d1 : decide ((i : Int) < 0) = false := by simp
  have d2 : decide ((l.length : Int) ≤ (i : Int)) = false := by simp; omega
  have d3 : decide (l.length ≤ i) = false := by simp; omega
  have hi0 : (0 : Int) ≤ (i : Int) := by omega
  have hi1 : (i : Int) < (l.length : Int) := by omega
  clear ho ho4 hb4 hb4' R0 R1 R2 B3 B4 e3 hr hu
  rw [hd] at x4
  unfold mcells at *
  go_enter Try.func20, Try.ntmps20
  go_wp2_with (at_builtin; refine wpList_append_of rfl (.tmp 26) (.tmp 28) 30 rfl _ _ _ rfl rfl HAP.out ?_)
  have hO1 : OwnP (w4.setCell ⟨w.heap.size + 1 + 1, 1, none⟩ (.slice (some ⟨g4, 0, none⟩) l.length c4)) w3.heap.size (.slice (some ⟨g4, 0, none⟩) l.length c4) l :=
    own_kept' (M := fun k => k = w.heap.size + 1 + 1) HO.out ((Kept.refl (fun k => k = w.heap.size + 1 + 1) w4).set (p := ⟨w.heap.size + 1 + 1, 1, none⟩) (.inl rfl) _) (fun k hk e => by simp only [Value.ownBlock, Option.some.injEq] at hk; omega)
  obtain ⟨g5, c5, e5, _, _, _, _, hO2⟩ := hO1.set i hi
  simp only [Value.slice.injEq, Option.some.injEq, Addr.mk.injEq, and_true, true_and] at e5
  obtain ⟨rfl, rfl⟩ := e5
  have hR := (((HR1.out.setOther ⟨w.heap.size + 1 + 1, 1, none⟩ (by simp) (.slice (some ⟨g4, 0, none⟩) l.length c4)).setOther ⟨g4, i * 2 + 1, none⟩ (by simpa using hgn1) (.bool false)).setCell 0 (.int .i64 (B : Int))).setCell 1 (.slice (some ⟨g4, 0, none⟩) l.length c4) |>.setCell 2 (.int .i64 (h : Int))
  refine bodyPost_ret (results_row_tmp (C := mcells B (.slice (some ⟨g4, 0, none⟩) l.length c4) h) (t := 32) (b := w.heap.size + 1) rfl _ (p := 4) rfl hR Try.underlying32 rfl m_size) rfl ⟨⟨_, rfl, ?_⟩, ?_⟩
  · refine own_base' (base := w3.heap.size) (own_kept' (M := fun k => k = w.heap.size + 1) hO2 ((((Kept.refl (fun k => k = w.heap.size + 1) _).set (p := ⟨w.heap.size + 1, 0, none⟩) (.inl rfl) _).set (p := ⟨w.heap.size + 1, 1, none⟩) (.inl rfl) _).set (p := ⟨w.heap.size + 1, 2, none⟩) (.inl rfl) _) (fun k hk e => by simp only [Value.ownBlock, Option.some.injEq] at hk; omega)) (by omega)
  · exact ((((HB.out.setCell (by simp; omega) _).setCell (by simp; omega) _).setCell (by simp) _).setCell (by simp) _).setCell (by simp) _
end Go.Proofs.Ytackcboidjmegaa
