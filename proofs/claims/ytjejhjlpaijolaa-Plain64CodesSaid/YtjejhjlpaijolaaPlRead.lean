/- Read and Bounds of package plain64 by their contracts. Conditions: those typed. -/
import Derived.Test.YtjejhjlpaijolaaPlCode
import Derived.StillTailTactics
namespace Go.Proofs.Ytjejhjlpaijolaa
set_option maxRecDepth 50000
open Go.RowKit Sx

theorem CodeRow.cells {w : World} {d b m M : Nat} (h : CodeRow w d b m M) : w.cell? ⟨d, 0, none⟩ = some (.pointer (some ⟨b, 0, none⟩)) ∧ w.cell? ⟨d, 1, none⟩ = some (.int .i64 m) ∧ w.cell? ⟨d, 2, none⟩ = some (.int .i64 M) :=
  ⟨h.row.cell 0, h.row.cell 1, h.row.cell 2⟩

set_option maxHeartbeats 800000 in
theorem pbounds_any (d b m M : Nat) (w : World) (hC : CodeRow w d b m M) (hm : m ≤ M) (hM : M ≤ 65536) :
    Calls Try.prog 11 #[.pointer (some ⟨d, 0, none⟩)] w fun e w' => e = .returned (.tuple #[.int .i64 ((ne m : Nat) : Int), .int .i64 ((ne M : Nat) : Int)]) ∧ w' = w.drew := by
  have c0 := hC.row.cell 0
  have c1 := hC.row.cell 1
  have c2 := hC.row.cell 2
  simp only [List.getElem?_toArray, List.getElem?_cons_zero, List.getElem?_cons_succ] at c0 c1 c2
  have L1 := Lib.hid (fun w => letters_any b (m : Int) w)
  have L2 := Lib.hid (fun w => letters_any b (M : Int) w)
  have e1 := lettN_nat m (by omega)
  have e2 := lettN_nat M (by omega)
  rw [e1] at L1
  rw [e2] at L2
  clear hC hm hM e1 e2
  generalize ne m = x at *
  generalize ne M = y at *
  go_enter Try.func11, Try.ntmps11
  go_wp2
  refine wp_region_still_tail 18 (by kernel_rfl) (by kernel_rfl) ?_
  simp only [List.take_succ_cons, List.take_zero, List.drop_succ_cons, List.drop_zero]
  repeat still_step
  still_call ((L1.out _).mono fun _ _ h => h)
  repeat still_step
  still_call ((L2.out _).mono fun _ _ h => h)
  refine wpStill_nil ?_
  change wpList _ _ _ _ _ w.drew
  go_wp2
  go_ret2
  exact ⟨rfl, rfl⟩

/-- Read in its four ways -/
def RdWay (m M : Nat) (s : ByteArray) : Prop := ne M < s.size ∨ s.size ≤ ne M ∧ decE (tl plainS) (tl s) ≠ 0 ∨ s.size ≤ ne M ∧ decE (tl plainS) (tl s) = 0 ∧ (decL (tl plainS) (tl s)).length < m ∨ s.size ≤ ne M ∧ decE (tl plainS) (tl s) = 0 ∧ m ≤ (decL (tl plainS) (tl s)).length
theorem rd_way (m M : Nat) (s : ByteArray) : RdWay m M s := by unfold RdWay; omega

set_option maxHeartbeats 1600000 in
theorem pread_any (d b m M : Nat) (s : ByteArray) (w : World) (hC : CodeRow w d b m M) (hM : M ≤ 65536) :
    Calls Try.prog 9 #[.pointer (some ⟨d, 0, none⟩), .string s] w fun e w' => e = .returned (.tuple #[.string (rdL m M s), .int .i64 (rdE m M s)]) ∧ Below w.heap.size w w' := by
  have c0 := hC.row.cell 0
  have c1 := hC.row.cell 1
  have c2 := hC.row.cell 2
  simp only [List.getElem?_toArray, List.getElem?_cons_zero, List.getElem?_cons_succ] at c0 c1 c2
  have HC := Lib.hid hC
  clear hC
  have L2 := Lib.hid (fun w => letters_any b (M : Int) w)
  have e2 := lettN_nat M (by omega)
  rw [e2] at L2
  clear e2
  rcases rd_way m M s with h1 | ⟨h1, hx⟩ | ⟨h1, hx, hl⟩ | ⟨h1, hx, hl⟩
  · obtain ⟨hE, hL⟩ := rd_long (m := m) h1
    have HE := Lib.hid hE
    have HL := Lib.hid hL
    clear hE hL
    generalize ne M = y at *
    have d1 : decide (y < s.size) = true := by simp; omega
    go_enter Try.func9, Try.ntmps9
    go_wp2
    go_quiet (refine Calls.quiet_of_same (L2.out _))
    go_wp2
    go_ret2
    exact ⟨by rw [HE.out, HL.out]; rfl, below_drewN (Below.refl _ _) _⟩
  all_goals
    have hz : s.size ≤ 100000 := by unfold ne at h1; omega
    have hdl : (decL (tl plainS) (tl s)).length ≤ s.size := by have := decL_length (tl plainS) (tl s); rwa [tl_length] at this
    have CD := Lib.hid (fun w hC => decode_any b (tl plainS) s w hC plain_fine (by omega))
  · obtain ⟨hE, hL⟩ := rd_wrong (m := m) h1 hx
    have HE := Lib.hid hE
    have HL := Lib.hid hL
    clear hE hL
    have hn : decL (tl plainS) (tl s) = [] := decL_bad hx
    rw [hn] at CD
    generalize decE (tl plainS) (tl s) = z at *
    generalize ne M = y at *
    have d1 : decide (y < s.size) = false := by simp; omega
    have z1 : (z == 0) = false := by simp; omega
    have z2 : (z != 0) = true := by simp; omega
    clear hn hx hdl
    go_enter Try.func9, Try.ntmps9
    go_wp2
    go_quiet (refine Calls.quiet_of_same (L2.out _))
    generalize hwr : World.drewN w _ = wr
    have HR : Hid (CodeRow wr d b m M ∧ Below w.heap.size w wr) := Lib.hid (by subst hwr; exact ⟨⟨HC.out.row, HC.out.cod⟩, below_drewN (Below.refl _ _) _⟩)
    clear hwr c0 c1 c2
    obtain ⟨c0, c1, c2⟩ := HR.out.1.cells
    go_wp2_with fail
    refine (CD.out wr HR.out.1.cod).mono ?_
    rintro e w1 ⟨rfl, hb⟩
    have B1 := Lib.hid (below_step HR.out.2 hb)
    clear hb
    go_wp2
    go_ret2
    exact ⟨by rw [HE.out, HL.out]; rfl, B1.out⟩
  · obtain ⟨hE, hL⟩ := rd_short h1 hx hl
    have HE := Lib.hid hE
    have HL := Lib.hid hL
    clear hE hL
    rw [hx] at CD
    have hn : (tx (decL (tl plainS) (tl s))).size = (decL (tl plainS) (tl s)).length := tx_size _
    generalize (decL (tl plainS) (tl s)).length = N at *
    generalize tx (decL (tl plainS) (tl s)) = D at *
    generalize ne M = y at *
    subst hn
    have d1 : decide (y < s.size) = false := by simp; omega
    have d2 : decide (D.size < m) = true := by simp; omega
    clear hx
    go_enter Try.func9, Try.ntmps9
    go_wp2
    go_quiet (refine Calls.quiet_of_same (L2.out _))
    generalize hwr : World.drewN w _ = wr
    have HR : Hid (CodeRow wr d b m M ∧ Below w.heap.size w wr) := Lib.hid (by subst hwr; exact ⟨⟨HC.out.row, HC.out.cod⟩, below_drewN (Below.refl _ _) _⟩)
    clear hwr c0 c1 c2
    obtain ⟨c0, c1, c2⟩ := HR.out.1.cells
    go_wp2_with fail
    refine (CD.out wr HR.out.1.cod).mono ?_
    rintro e w1 ⟨rfl, hb⟩
    have HC1 := Lib.hid (HR.out.1.below hb)
    have B1 := Lib.hid (below_step HR.out.2 hb)
    clear hb c0 c1 c2
    obtain ⟨c0, c1, c2⟩ := HC1.out.cells
    go_wp2
    go_ret2
    exact ⟨by rw [HE.out, HL.out]; rfl, B1.out⟩
  · obtain ⟨hE, hL⟩ := rd_good h1 hx hl
    have HE := Lib.hid hE
    have HL := Lib.hid hL
    clear hE hL
    rw [hx] at CD
    have hn : (tx (decL (tl plainS) (tl s))).size = (decL (tl plainS) (tl s)).length := tx_size _
    generalize (decL (tl plainS) (tl s)).length = N at *
    generalize tx (decL (tl plainS) (tl s)) = D at *
    generalize ne M = y at *
    subst hn
    have d1 : decide (y < s.size) = false := by simp; omega
    have d2 : decide (D.size < m) = false := by simp; omega
    clear hx
    go_enter Try.func9, Try.ntmps9
    go_wp2
    go_quiet (refine Calls.quiet_of_same (L2.out _))
    generalize hwr : World.drewN w _ = wr
    have HR : Hid (CodeRow wr d b m M ∧ Below w.heap.size w wr) := Lib.hid (by subst hwr; exact ⟨⟨HC.out.row, HC.out.cod⟩, below_drewN (Below.refl _ _) _⟩)
    clear hwr c0 c1 c2
    obtain ⟨c0, c1, c2⟩ := HR.out.1.cells
    go_wp2_with fail
    refine (CD.out wr HR.out.1.cod).mono ?_
    rintro e w1 ⟨rfl, hb⟩
    have HC1 := Lib.hid (HR.out.1.below hb)
    have B1 := Lib.hid (below_step HR.out.2 hb)
    clear hb c0 c1 c2
    obtain ⟨c0, c1, c2⟩ := HC1.out.cells
    go_wp2
    go_ret2
    exact ⟨by rw [HE.out, HL.out]; rfl, B1.out⟩
end Go.Proofs.Ytjejhjlpaijolaa
