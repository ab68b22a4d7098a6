/- The shape of any parameters of Argon2: package shape's Of by its contract. Conditions: the parameters are ints. -/
import Derived.Test.YtnbdmkgldjhcaaaDoorSpRow
namespace Go.Proofs.YtnbdmkgldjhcaaaDoor
set_option maxRecDepth 50000
open Go.RowKit

theorem mul_four (l : Nat) (h : l ≤ 16777215) : proN [4, (l : Int)] = ((4 * l : Nat) : Int) ∧ proE [4, (l : Int)] = 0 := by
  have ha : allIn [4, (l : Int)] = true := by simp [allIn, inB]; omega
  have hn : natsOf [4, (l : Int)] = [4, l] := by simp [natsOf]
  have hp : prodOf [4, l] = 4 * l := by simp [prodOf]
  rw [proN_yes ha hn, proE_yes ha hn, hp]
  exact ⟨fitN_yes (by omega), fitE_yes (by omega)⟩
theorem mul_lanes (l : Nat) (h : l ≤ 16777215) (w : World) : Calls Tryd.prog 19 #[.slice (some ⟨w.heap.size, 0, none⟩) 2 2] (w.alloc (.cells #[.int .i64 4, .int .i64 (l : Int)] 3)) fun e w' => e = .returned (.tuple #[.int .i64 ((4 * l : Nat) : Int), .int .i64 0]) ∧ Below w.heap.size w w' := by
  have C := mul_any _ 2 _ _ (two_read 4 (l : Int) w) (by simp)
  rw [(mul_four l h).1, (mul_four l h).2] at C
  refine C.mono ?_
  rintro e w' ⟨rfl, rfl⟩
  exact ⟨rfl, (Below.refl _ _).alloc (Nat.le_refl _) _⟩
theorem down_lanes (m u : Nat) (hm : m ≤ 4294967295) (hu : 1 ≤ u) (w : World) : Calls Tryd.prog 20 #[.int .i64 (m : Int), .int .i64 (u : Int)] w fun e w' => e = .returned (.tuple #[.int .i64 ((m / u * u : Nat) : Int), .int .i64 0]) ∧ Below w.heap.size w w' := by
  have h : partOK (m : Int) (u : Int) = true := by simp [partOK, inB]; omega
  have C := szdown_any (m : Int) (u : Int) w
  rw [downN_yes h, partE_yes h] at C
  exact C

theorem of_rows (a t m l z : Int) (w : World) {w1 : World} (hb : Below ((w.alloc (.cells (pac a t m l z) 23)).alloc (.cells spzc 28)).heap.size ((w.alloc (.cells (pac a t m l z) 23)).alloc (.cells spzc 28)) w1) :
    RowAt w1 w.heap.size 23 (pac a t m l z) ∧ RowAt w1 (w.heap.size + 1) 28 spzc ∧ Below w.heap.size w w1 ∧ w.heap.size + 2 ≤ w1.heap.size := by
  have s1 : (w.alloc (.cells (pac a t m l z) 23)).heap.size = w.heap.size + 1 := World.size_alloc _ _
  refine ⟨((RowAt.new w _ _).alloc _).step hb, ?_, ?_, ?_⟩
  · have := (RowAt.new (w.alloc (.cells (pac a t m l z) 23)) 28 spzc).step hb
    rwa [s1] at this
  · have b1 : Below w.heap.size w ((w.alloc (.cells (pac a t m l z) 23)).alloc (.cells spzc 28)) := ((Below.refl _ _).alloc (Nat.le_refl _) _).alloc (by rw [s1]; omega) _
    exact b1.trans (hb.mono b1.size)
  · have := hb.size
    rw [World.size_alloc, s1] at this
    omega

set_option maxHeartbeats 800000 in
theorem of_bad (a t m l z : Int) (h : mayB a t m l z = false) (w : World) : Calls Tryd.prog 6 #[pav a t m l z] w fun e w' => e = .returned (.tuple #[spz, .int .i64 2]) ∧ Below w.heap.size w w' := by
  have C : ∀ w, Calls Tryd.prog 18 #[pav a t m l z] w fun e w' => e = .returned (.bool false) ∧ Below w.heap.size w w' := fun w => h ▸ may_any a t m l z w
  have H := Lib.hid C
  clear C h
  go_enter Tryd.func6, Tryd.ntmps6
  go_wp2_with fail
  refine (H.out _).mono ?_
  rintro e w1 ⟨rfl, hb⟩
  have HR := Lib.hid (of_rows a t m l z w hb)
  clear hb
  go_wp2_with (refine wpList_store_of rfl _ _ _ rfl ⟨w.heap.size + 1, 0, none⟩ _ rfl rfl (sp_clear rfl HR.out.2.1) ?_)
  refine bodyPost_ret (results_row_tmp (fn := Tryd.f6) (p := 2) (u := 3) (b := w.heap.size + 1) (t := 28) (C := spzc) rfl _ rfl (HR.out.2.1.setRow _) Tryd.underlying28 rfl sp_size) rfl ⟨rfl, ?_⟩
  exact below_setRow HR.out.2.2.1 (by omega) _

/-- parameters that may be, as naturals -/
def Mok (a t m l z : Nat) : Prop := (a = 1 ∨ a = 2 ∨ a = 3) ∧ 1 ≤ t ∧ t ≤ 4294967295 ∧ 1 ≤ l ∧ l ≤ 16777215 ∧ 8 * l ≤ m ∧ m ≤ 4294967295 ∧ 4 ≤ z ∧ z ≤ 1024
theorem may_nats {a t m l z : Int} (h : mayB a t m l z = true) : ∃ a' t' m' l' z' : Nat, a = (a' : Int) ∧ t = (t' : Int) ∧ m = (m' : Int) ∧ l = (l' : Int) ∧ z = (z' : Int) ∧ Mok a' t' m' l' z' := by
  obtain ⟨h1, h2, h3, h4, h5⟩ := may_yes h
  have h2 := in_true _ _ _ h2
  have h3 := in_true _ _ _ h3
  have h4 := in_true _ _ _ h4
  have h5 := in_true _ _ _ h5
  exact ⟨a.toNat, t.toNat, m.toNat, l.toNat, z.toNat, by omega, by omega, by omega, by omega, by omega, by unfold Mok; omega⟩

set_option maxHeartbeats 1600000 in
theorem of_walk (a t m l z u b c g : Nat) (hM : Mok a t m l z) (hu : 4 * l = u) (hb : m / u * u = b) (hc : b / l = c) (hg : b / u = g) (w : World) :
    Calls Tryd.prog 6 #[pav a t m l z] w fun e w' => e = .returned (.tuple #[spv a t l m b c g z, .int .i64 0]) ∧ Below w.heap.size w w' := by
  have hy : mayB a t m l z = true := by
    unfold Mok at hM
    simp [mayB, inB]
    omega
  have C : ∀ w, Calls Tryd.prog 18 #[pav a t m l z] w fun e w' => e = .returned (.bool true) ∧ Below w.heap.size w w' := fun w => hy ▸ may_any a t m l z w
  have C1 := Lib.hid C
  obtain ⟨ha, ht1, ht2, hl1, hl2, hm1, hm2, hz1, hz2⟩ := hM
  have C2 := Lib.hid (mul_lanes l hl2)
  have C3 := Lib.hid (down_lanes m u hm2 (by omega))
  rw [hu] at C2
  rw [hb] at C3
  have hbm : b ≤ m := by rw [← hb]; exact Nat.div_mul_le_self _ _
  have e1 : (b : Int) / (l : Int) = (c : Int) := by rw [← hc]; rfl
  have e2 : (b : Int) / (u : Int) = (g : Int) := by rw [← hg]; rfl
  have hcb : c ≤ b := by rw [← hc]; exact Nat.div_le_self _ _
  have hgb : g ≤ b := by rw [← hg]; exact Nat.div_le_self _ _
  have hl0 : ((l : Int) == 0) = false := by simp; omega
  have hu0 : ((u : Int) == 0) = false := by simp; omega
  have hbn : b ≤ 4294967295 := by omega
  have hub : 1 ≤ u := by omega
  clear C hy ha hb hc hg hu
  go_enter Tryd.func6, Tryd.ntmps6
  go_wp2_with fail
  refine (C1.out _).mono ?_
  rintro e w1 ⟨rfl, hb⟩
  obtain ⟨R1, R2, B1, s1⟩ := of_rows a t m l z w hb
  obtain ⟨-, -, -, k3, -⟩ := pa_cells R1
  have HR := Lib.hid R1
  have HS := Lib.hid R2
  have HB := Lib.hid B1
  clear hb C1 R1 R2 B1
  go_wp2_with fail
  refine (C2.out _).mono ?_
  rintro e w2 ⟨rfl, hb⟩
  have s2 := hb.size
  have HR2 := Lib.hid (HR.out.step hb)
  have HS2 := Lib.hid (HS.out.step hb)
  have HB2 := Lib.hid (HB.out.trans (hb.mono HB.out.size))
  obtain ⟨-, -, k2, -, -⟩ := pa_cells HR2.out
  clear hb C2 HR HS HB k3
  go_wp2_with fail
  refine (C3.out _).mono ?_
  rintro e w3 ⟨rfl, hb⟩
  have s3 := hb.size
  have HR3 := Lib.hid (HR2.out.step hb)
  have HS3 := Lib.hid (HS2.out.step hb)
  have HB3 := Lib.hid (HB2.out.trans (hb.mono HB2.out.size))
  obtain ⟨k0, k1, k2', k3, k4⟩ := pa_cells HR3.out
  clear hb C3 HR2 HB2 k2 HS2
  go_wp2_with fail
  have w1' : IntKind.i64.wrap (b : Int) = (b : Int) := by rw [IntKind.wrap_i64]; omega
  have w2' : IntKind.i64.wrap (c : Int) = (c : Int) := by rw [IntKind.wrap_i64]; omega
  have w3' : IntKind.i64.wrap (g : Int) = (g : Int) := by rw [IntKind.wrap_i64]; omega
  have l0 : ¬ l = 0 := by omega
  have u0 : ¬ u = 0 := by omega
  have q1 : Int.tdiv (b : Int) (l : Int) = (c : Int) := by rw [Int.tdiv_eq_ediv_of_nonneg (by omega)]; exact e1
  have q2 : Int.tdiv (b : Int) (u : Int) = (g : Int) := by rw [Int.tdiv_eq_ediv_of_nonneg (by omega)]; exact e2
  refine wp_region_still_tail 19 (by kernel_rfl) (by kernel_rfl) ?_
  simp only [List.take_succ_cons, List.take_zero, List.drop_succ_cons, List.drop_zero]
  repeat still_step
  refine wpStill_nil ?_
  change wpList _ _ _ _ _ w3.drew
  have HS4 := Lib.hid HS3.out.drew
  have HB4 := Lib.hid (below_drewN HB3.out 1)
  have s4 : w3.drew.heap.size = w3.heap.size := rfl
  change Hid (Below w.heap.size w w3.drew) at HB4
  have HST := Lib.hid (sp_store (a := a) (t := t) (l := l) (m := m) (b := b) (c := c) (g := g) (z := z) rfl HS4.out)
  clear HS3 HB3 HR3 k0 k1 k2' k3 k4
  generalize w3.drew = w4 at *
  go_wp2_with (refine wpList_store_of rfl _ _ _ rfl ⟨w.heap.size + 1, 0, none⟩ _ rfl rfl HST.out ?_)
  refine bodyPost_ret (results_row_tmp (fn := Tryd.f6) (p := 2) (u := 3) (b := w.heap.size + 1) (t := 28) (C := spc a t l m b c g z) rfl _ rfl (HS4.out.setRow _) Tryd.underlying28 rfl sp_size) rfl ⟨rfl, ?_⟩
  exact below_setRow HB4.out (by omega) _
end Go.Proofs.YtnbdmkgldjhcaaaDoor
