/- Integer of package shuffle and the document's by their contracts: the number that a row's last block begins with. Conditions: those typed. -/
import Derived.Test.YtohmkhmanidljaaDoorSfLast
import Derived.BigQuiet
namespace Go.Proofs.YtohmkhmanidljaaDoor
set_option maxRecDepth 50000
open Go.RowKit Rot Sl Sf

/-- the number of two words -/
def inN (l : List Nat) : Nat := (lst l).getD 0 0 + 4294967296 * (lst l).getD 1 0
theorem inN_lt {l : List Nat} (h : okw l) : inN l < 18446744073709551616 := by
  have h0 := (okw_drop h (l.length - 16)).at_ 0
  have h1 := (okw_drop h (l.length - 16)).at_ 1
  unfold inN lst
  omega
theorem or_two (a b : Nat) (ha : a < 4294967296) (hb : b < 4294967296) : bits .or .u64 ((b * 4294967296 : Nat) : Int) (a : Int) = ((a + 4294967296 * b : Nat) : Int) := by
  have e : bits .or .u64 ((b * 4294967296 : Nat) : Int) (a : Int) = IntKind.u64.wrap (((BitVec.ofInt 64 ((b * 4294967296 : Nat) : Int)) ||| (BitVec.ofInt 64 (a : Int))).toNat : Int) := rfl
  have t1 : (BitVec.ofInt 64 ((b * 4294967296 : Nat) : Int)).toNat = 2 ^ 32 * b := by
    rw [BitVec.toNat_ofInt]; simp only [Nat.reducePow]; omega
  have t2 : (BitVec.ofInt 64 (a : Int)).toNat = a := by
    rw [BitVec.toNat_ofInt]; simp only [Nat.reducePow]; omega
  have h := Nat.two_pow_add_eq_or_of_lt (show a < 2 ^ 32 by simpa using ha) b
  rw [e, BitVec.toNat_or, t1, t2, ← h, IntKind.wrap_u64]
  simp only [Nat.reducePow]
  omega

theorem int_bad (z : Int) (h : z < 1 ∨ 512 < z) (v : Value) (w : World) : Calls Tryd.prog 39 #[.int .i64 z, v] w fun e w' => e = .returned (.tuple #[.int .u64 0, .int .i64 2]) ∧ w = w' := by
  have HC := Lib.hid fun w => check_bad z h v w
  clear h
  go_enter Tryd.func39, Tryd.ntmps39
  go_wp2_with fail
  refine (HC.out w).mono ?_
  rintro e w2 ⟨rfl, rfl⟩
  go_wp2
  go_ret2
  exact ⟨rfl, rfl⟩
theorem int_size (r : Nat) (h1 : 1 ≤ r) (h2 : r ≤ 512) (A : Option Addr) (n c : Nat) (hn : n ≠ 32 * r) (w : World) : Calls Tryd.prog 39 #[.int .i64 (r : Int), .slice A n c] w fun e w' => e = .returned (.tuple #[.int .u64 0, .int .i64 9]) ∧ w = w' := by
  have HC := Lib.hid fun w => check_size r h1 h2 A n c hn w
  clear hn
  go_enter Tryd.func39, Tryd.ntmps39
  go_wp2_with fail
  refine (HC.out w).mono ?_
  rintro e w2 ⟨rfl, rfl⟩
  go_wp2
  go_ret2
  exact ⟨rfl, rfl⟩

set_option maxHeartbeats 3200000 in
theorem int_any (r : Nat) (h1 : 1 ≤ r) (h2 : r ≤ 512) (A : Option Addr) (n c : Nat) (l : List Nat) (hl : l.length = n) (hn : n = 32 * r) (hnc : n ≤ c) (ho : okw l) (w : World) (hr : Reads w w.heap.size A (u32s l)) :
    Calls Tryd.prog 39 #[.int .i64 (r : Int), .slice A n c] w fun e w' => e = .returned (.tuple #[.int .u64 ((inN l : Nat) : Int), .int .i64 0]) ∧ Below w.heap.size w w' := by
  have HCK := Lib.hid fun w => check_ok r h1 h2 A n c hn w
  have HLA := Lib.hid fun w => last_any A n c l hl (by omega) (by omega) hnc w
  have HR := Lib.hid hr
  have HL := Lib.hid (lst_length l (by omega))
  have hx := okw_drop ho (l.length - 16)
  have h0 := hx.at_ 0
  have h1' := hx.at_ 1
  have HI : Hid (inN l = (lst l).getD 0 0 + 4294967296 * (lst l).getD 1 0) := Lib.hid rfl
  change (lst l).getD 0 0 < _ at h0
  change (lst l).getD 1 0 < _ at h1'
  clear hx hr ho hl hnc hn
  generalize lst l = x at *
  have c0 := wd_at x 0 (by rw [HL.out]; decide)
  have c1 := wd_at x 1 (by rw [HL.out]; decide)
  have hor := or_two (x.getD 0 0) (x.getD 1 0) h0 h1'
  rw [← HI.out] at hor
  generalize inN l = N at *
  generalize x.getD 0 0 = a at *
  generalize x.getD 1 0 = b at *
  have hw1 : IntKind.u64.wrap (a : Int) = (a : Int) := by rw [IntKind.wrap_u64]; omega
  have hw2 : IntKind.u64.wrap (b : Int) = (b : Int) := by rw [IntKind.wrap_u64]; omega
  have hw3 : IntKind.u64.wrap ((b : Int) * 4294967296) = ((b * 4294967296 : Nat) : Int) := by rw [IntKind.wrap_u64]; omega
  generalize b * 4294967296 = d at *
  have HZ := Lib.hid (show (wd x).size = 16 by rw [wd_size]; exact HL.out)
  have C0 := Lib.hid c0
  have C1 := Lib.hid c1
  clear c0 c1 HI h1 h2
  go_enter Tryd.func39, Tryd.ntmps39
  go_wp2_with fail
  refine (HCK.out w).mono ?_
  rintro e w' ⟨rfl, rfl⟩
  go_wp2_with fail
  refine (HLA.out w HR.out).mono ?_
  rintro e w1 ⟨rfl, b1⟩
  have RX := Lib.hid ((RowAt.new w1 81 (wd (List.replicate 16 0))))
  have R2 := RX.out.setRow (wd x)
  have k0 : ((w1.alloc (.cells (wd (List.replicate 16 0)) 81)).setRow w1.heap.size (wd x)).cell? ⟨w1.heap.size, 0, none⟩ = some (.int .u32 (a : Int)) := (R2.cell 0).trans C0.out
  have k1 : ((w1.alloc (.cells (wd (List.replicate 16 0)) 81)).setRow w1.heap.size (wd x)).cell? ⟨w1.heap.size, 1, none⟩ = some (.int .u32 (b : Int)) := (R2.cell 1).trans C1.out
  have BX := Lib.hid (b1.trans (((below_setRow ((Below.refl _ w1).alloc (Nat.le_refl _) (.cells (wd (List.replicate 16 0)) 81)) (Nat.le_refl _) (wd x))).mono b1.size))
  have ez : wd (List.replicate 16 0) = #[.int .u32 0, .int .u32 0, .int .u32 0, .int .u32 0, .int .u32 0, .int .u32 0, .int .u32 0, .int .u32 0, .int .u32 0, .int .u32 0, .int .u32 0, .int .u32 0, .int .u32 0, .int .u32 0, .int .u32 0, .int .u32 0] := rfl
  rw [ez] at k0 k1
  clear R2 b1 ez
  go_wp2_with (first
    | refine wpList_store_row rfl 81 (.tmp 7) (.tmp 15) rfl w1.heap.size (wd x) rfl rfl 81 _ RX.out (by rw [HZ.out]; exact size_16) (by rw [HZ.out]; rfl) (wd_one _) ?_)
  go_ret2
  exact ⟨rfl, BX.out⟩

set_option maxHeartbeats 3200000 in
theorem rint_any (r : Nat) (h1 : 1 ≤ r) (h2 : r ≤ 512) (A : Option Addr) (n c : Nat) (l : List Nat) (hl : l.length = n) (hn : n = 32 * r) (ho : okw l) (w : World) (hr : Reads w w.heap.size A (u32s l)) :
    Calls Tryd.prog 29 #[.int .i64 (r : Int), .slice A n c] w fun e w' => e = .returned (.int .u64 ((inN l : Nat) : Int)) ∧ Below w.heap.size w w' := by
  obtain ⟨g, o, rfl, hg, hc⟩ := reads_words hr (by omega)
  obtain ⟨m, hm⟩ : ∃ m, 32 * r = m + 16 := ⟨32 * r - 16, by omega⟩
  have h0 := ho.at_ m
  have h1' := ho.at_ (m + 1)
  have c0 := hc m (by omega)
  have c1 := hc (m + 1) (by omega)
  have HI : Hid (inN l = l.getD m 0 + 4294967296 * l.getD (m + 1) 0) := Lib.hid (by
    unfold inN
    rw [lst_at, lst_at, show l.length - 16 + 0 = m by omega, show l.length - 16 + 1 = m + 1 by omega])
  have hN := inN_lt ho
  generalize l.getD m 0 = a at *
  generalize l.getD (m + 1) 0 = b at *
  have hw1 : IntKind.u64.wrap (a : Int) = (a : Int) := by rw [IntKind.wrap_u64]; omega
  have hw2 : IntKind.u64.wrap (b : Int) = (b : Int) := by rw [IntKind.wrap_u64]; omega
  have hw3 : IntKind.u64.wrap (4294967296 * (b : Int)) = ((4294967296 * b : Nat) : Int) := by rw [IntKind.wrap_u64]; omega
  have hw4 : IntKind.u64.wrap ((a : Int) + ((4294967296 * b : Nat) : Int)) = ((inN l : Nat) : Int) := by rw [IntKind.wrap_u64, HI.out]; have := HI.out; omega
  generalize inN l = N at *
  generalize 4294967296 * b = d at *
  obtain ⟨m1, hm1⟩ : ∃ m1, m + 1 = m1 := ⟨_, rfl⟩
  rw [hm1] at c1
  obtain ⟨q, hq⟩ : ∃ q, 32 * r = q := ⟨_, rfl⟩
  have e1 : (32 : Int) * (r : Int) = (q : Int) := by omega
  have e2 : (q : Int) - 16 = (m : Int) := by omega
  have e3 : (q : Int) - 15 = (m1 : Int) := by omega
  have k1 : ∀ tp d os out, (World.mk w.heap tp d os out).cell? ⟨g, o + m, none⟩ = some (.int .u32 (a : Int)) := fun _ _ _ _ => c0
  have k2 : ∀ tp d os out, (World.mk w.heap tp d os out).cell? ⟨g, o + m1, none⟩ = some (.int .u32 (b : Int)) := fun _ _ _ _ => c1
  have hqb : q ≤ 16384 := by omega
  have hmn : m < n := by omega
  have hmn1 : m1 < n := by omega
  have p0 : (0 : Int) ≤ (m : Int) := by omega
  have p1 : (m : Int) < (n : Int) := by omega
  have p2 : (0 : Int) ≤ (m1 : Int) := by omega
  have p3 : (m1 : Int) < (n : Int) := by omega
  have hmq : m ≤ 16384 := by omega
  have hmq1 : m1 ≤ 16384 := by omega
  clear c0 c1 hc hr ho hg HI hN h0 h1' hm hm1 hq hl hn h1 h2
  go_enter Tryd.func29, Tryd.ntmps29
  go_wp2
  go_quiet (fail)
  go_wp2
  go_ret
  exact ⟨rfl, below_drewN (Below.refl _ _) _⟩
end Go.Proofs.YtohmkhmanidljaaDoor
