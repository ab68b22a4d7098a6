/- Small functions of package shuffle by their contracts: which widths may be, how many blocks, where each goes, what is a row. Conditions: those typed. A row's last block as an array: package shuffle's last by its contract. Conditions: those typed. Words that came in, as numbers. No condition. Integer of package shuffle and the document's by their contracts: the number that a row's last block begins with. Conditions: those typed. Mix of package shuffle by its contract. Condition: the table of package salsa reads as it was laid. -/
import Derived.Test.YtlifpplhinmajaaGreatDoorPu
import Derived.Test.YtlifpplhinmajaaGreatDoorSl
import Derived.OpenShut
import Derived.BigQuiet
import Derived.Test.YtlifpplhinmajaaGreatDoorLaid
import Derived.Laws.CopyRow
import Derived.Deep.Onto
namespace Go.Proofs.YtlifpplhinmajaaGreatDoor
set_option maxRecDepth 50000
open Go.RowKit Rot Sl Sf

theorem may_good (r : Nat) (h1 : 1 ≤ r) (h2 : r ≤ 512) (w : World) : Calls Tryz.prog 59 #[.int .i64 (r : Int)] w fun e w' => e = .returned (.bool true) ∧ w = w' := by
  have d1 : decide ((1 : Int) ≤ (r : Int)) = true := by simp; omega
  have d2 : decide ((r : Int) ≤ 512) = true := by simp; omega
  go_enter Tryz.func59, Tryz.ntmps59
  go_wp2
  go_ret
  exact ⟨rfl, rfl⟩
theorem may_bad (z : Int) (h : z < 1 ∨ 512 < z) (w : World) : Calls Tryz.prog 59 #[.int .i64 z] w fun e w' => e = .returned (.bool false) ∧ w = w' := by
  rcases h with h | h
  · have d1 : decide ((1 : Int) ≤ z) = false := by simp; omega
    go_enter Tryz.func59, Tryz.ntmps59
    go_wp2
    go_ret
    exact ⟨rfl, rfl⟩
  · have d1 : decide ((1 : Int) ≤ z) = true := by simp; omega
    have d2 : decide (z ≤ 512) = false := by simp; omega
    go_enter Tryz.func59, Tryz.ntmps59
    go_wp2
    go_ret
    exact ⟨rfl, rfl⟩
theorem blocks_any (r : Nat) (h2 : r ≤ 512) (w : World) : Calls Tryz.prog 60 #[.int .i64 (r : Int)] w fun e w' => e = .returned (.int .i64 ((2 * r : Nat) : Int)) ∧ w = w' := by
  obtain ⟨n, hn⟩ : ∃ n, 2 * r = n := ⟨_, rfl⟩
  have hm : (2 : Int) * (r : Int) = (n : Int) := by omega
  have hb : n ≤ 1024 := by omega
  rw [hn]
  clear hn
  go_enter Tryz.func60, Tryz.ntmps60
  go_wp2
  go_ret
  exact ⟨rfl, rfl⟩
theorem place_any (r i : Nat) (hr : r ≤ 512) (hi : i < 2 * r) (w : World) : Calls Tryz.prog 98 #[.int .i64 (r : Int), .int .i64 (i : Int)] w fun e w' => e = .returned (.int .i64 ((pl r i : Nat) : Int)) ∧ w = w' := by
  obtain ⟨m, hm⟩ : ∃ m, i % 2 = m := ⟨_, rfl⟩
  obtain ⟨q, hq⟩ : ∃ q, i / 2 = q := ⟨_, rfl⟩
  obtain ⟨p, hp⟩ : ∃ p, m * r = p := ⟨_, rfl⟩
  have hmr : (m : Int) * (r : Int) = (p : Int) := by rw [← hp]; exact (Int.natCast_mul _ _).symm
  have hpb : p ≤ 512 := by
    rcases Nat.mod_two_eq_zero_or_one i with e | e <;> rw [hm] at e <;> subst e <;> omega
  have e1 : (i : Int).tmod 2 = (m : Int) := by rw [Int.tmod_eq_emod_of_nonneg (by omega)]; omega
  have e2 : (i : Int).tdiv 2 = (q : Int) := by rw [Int.tdiv_eq_ediv_of_nonneg (by omega)]; omega
  have HE : Hid (pl r i = p + q) := Lib.hid (by unfold pl; rw [hm, hq, hp])
  have hib : i < 1024 := by omega
  have hqb : q ≤ 512 := by omega
  have hmb : m < 2 := by omega
  obtain ⟨z, hz⟩ : ∃ z, pl r i = z := ⟨_, rfl⟩
  have e3 : (p : Int) + (q : Int) = (z : Int) := by have := HE.out; omega
  have hzb : z ≤ 1024 := by have := HE.out; omega
  rw [hz]
  clear hm hq hp hi hz HE
  go_enter Tryz.func98, Tryz.ntmps98
  go_wp2
  go_ret
  exact ⟨rfl, rfl⟩
theorem check_bad (z : Int) (h : z < 1 ∨ 512 < z) (v : Value) (w : World) : Calls Tryz.prog 38 #[.int .i64 z, v] w fun e w' => e = .returned (.int .i64 2) ∧ w = w' := by
  have HC := Lib.hid fun w => may_bad z h w
  clear h
  go_enter Tryz.func38, Tryz.ntmps38
  go_wp2_with fail
  refine (HC.out w).mono ?_
  rintro e w2 ⟨rfl, rfl⟩
  go_wp2
  go_ret
  exact ⟨rfl, rfl⟩
theorem check_size (r : Nat) (h1 : 1 ≤ r) (h2 : r ≤ 512) (A : Option Addr) (n c : Nat) (hn : n ≠ 32 * r) (w : World) : Calls Tryz.prog 38 #[.int .i64 (r : Int), .slice A n c] w fun e w' => e = .returned (.int .i64 9) ∧ w = w' := by
  have HC := Lib.hid fun w => may_good r h1 h2 w
  have HB := Lib.hid fun w => blocks_any r h2 w
  obtain ⟨b, hb⟩ : ∃ b, 2 * r = b := ⟨_, rfl⟩
  rw [hb] at HB
  have hbb : b ≤ 1024 := by omega
  have d1 : ((n : Int) == (b : Int) * 16) = false := by simp; omega
  have d2 : ¬ (n : Int) = (b : Int) * 16 := by omega
  clear hb hn
  go_enter Tryz.func38, Tryz.ntmps38
  go_wp2_with fail
  refine (HC.out w).mono ?_
  rintro e w2 ⟨rfl, rfl⟩
  go_wp2_with fail
  refine (HB.out w).mono ?_
  rintro e w2 ⟨rfl, rfl⟩
  go_wp2
  go_ret
  exact ⟨rfl, rfl⟩
theorem check_ok (r : Nat) (h1 : 1 ≤ r) (h2 : r ≤ 512) (A : Option Addr) (n c : Nat) (hn : n = 32 * r) (w : World) : Calls Tryz.prog 38 #[.int .i64 (r : Int), .slice A n c] w fun e w' => e = .returned (.int .i64 0) ∧ w = w' := by
  have HC := Lib.hid fun w => may_good r h1 h2 w
  have HB := Lib.hid fun w => blocks_any r h2 w
  obtain ⟨b, hb⟩ : ∃ b, 2 * r = b := ⟨_, rfl⟩
  rw [hb] at HB
  have hbb : b ≤ 1024 := by omega
  have d1 : ((n : Int) == (b : Int) * 16) = true := by simp; omega
  have d2 : (n : Int) = (b : Int) * 16 := by omega
  have HD := Lib.hid d2
  clear hb hn d2
  go_enter Tryz.func38, Tryz.ntmps38
  go_wp2_with fail
  refine (HC.out w).mono ?_
  rintro e w2 ⟨rfl, rfl⟩
  go_wp2_with fail
  refine (HB.out w).mono ?_
  rintro e w2 ⟨rfl, rfl⟩
  go_wp2
  go_ret
  exact ⟨rfl, rfl⟩
end Go.Proofs.YtlifpplhinmajaaGreatDoor

namespace Go.Proofs.YtlifpplhinmajaaGreatDoor
set_option maxRecDepth 50000
open Go.RowKit Rot Sl Sf

/-- an array loaded out of cells from a place on -/
theorem load_at {w : World} {g o : Nat} {L : List Nat} (hL : L.length = 16) (h : ∀ k, k < 16 → w.cell? ⟨g, o + k, none⟩ = some (.int .u32 (L.getD k 0 : Nat))) : (loadVar 128 ⟨g, o, none⟩).run Tryz.prog w = .ok (.agg (wd L)) w := by
  have hl : (loadCells ⟨g, o, none⟩ (u32s L).length).run Tryz.prog w = .ok (u32s L).toArray w :=
    run_loadCells_list (P := Tryz.prog) w ⟨g, o, none⟩ _ (fun j v hv => by
      have hadd : (⟨g, o, none⟩ : Addr).add j = ⟨g, o + j, none⟩ := by unfold Addr.add; split <;> simp_all
      have hj : j < 16 := by
        have := (List.getElem?_eq_some_iff.1 hv).1
        rwa [u32s_length, hL] at this
      rw [hadd, h j hj, ← hv]
      unfold u32s
      rw [List.getElem?_map, List.getElem?_eq_getElem (by omega), List.getD_eq_getElem?_getD, List.getElem?_eq_getElem (by omega)]
      rfl)
  rw [u32s_length, hL] at hl
  have hz := size_16
  cases hq : Tryz.prog.info? 128 with
  | none => rw [hq] at hz; simp at hz
  | some i =>
    have hsz : i.size = 16 := by rw [hq] at hz; simpa using hz
    simp [loadVar, Sem.run_bind, sizeOf, typeInfo, hq, hsz, hl, wd]
theorem array_at (g o n c : Nat) (hn : n = 16) (w : World) : (Instr.arrayAt 128 (.slice (some ⟨g, o, none⟩) n c)).run Tryz.prog w = .ok (.pointer (some ⟨g, o, none⟩)) w := by
  subst hn
  simp [Instr.arrayAt, go_sem]
/-- what a list of words reads as, by its place -/
theorem reads_words {w : World} {B : Nat} {A : Option Addr} {l : List Nat} (h : Reads w B A (u32s l)) (h0 : 0 < l.length) : ∃ g o, A = some ⟨g, o, none⟩ ∧ g < B ∧ ∀ k, k < l.length → w.cell? ⟨g, o + k, none⟩ = some (.int .u32 (l.getD k 0 : Nat)) := by
  obtain ⟨g, o, e, hg, _⟩ := h 0 (by rw [u32s_length]; exact h0)
  refine ⟨g, o, e, hg, fun k hk => ?_⟩
  obtain ⟨b', off', e', _, hc'⟩ := h k (by rw [u32s_length]; exact hk)
  rw [e] at e'
  cases e'
  rw [hc', u32_at, List.getD_eq_getElem?_getD, List.getElem?_eq_getElem hk]
  rfl

set_option maxHeartbeats 1600000 in
theorem last_any (A : Option Addr) (n c : Nat) (l : List Nat) (hl : l.length = n) (hn : 16 ≤ n) (hn2 : n ≤ 100000) (hnc : n ≤ c) (w : World) (hr : Reads w w.heap.size A (u32s l)) :
    Calls Tryz.prog 96 #[.slice A n c] w fun e w' => e = .returned (.agg (wd (lst l))) ∧ Below w.heap.size w w' := by
  obtain ⟨g, o, rfl, hg, hc⟩ := reads_words hr (by omega)
  have hL := lst_length l (by omega)
  obtain ⟨m, hm⟩ : ∃ m, n = m + 16 := ⟨n - 16, by omega⟩
  have HC : Hid (∀ k, k < 16 → (w.alloc (.cells (wd (List.replicate 16 0)) 128)).cell? ⟨g, o + m + k, none⟩ = some (.int .u32 ((lst l).getD k 0 : Nat))) := Lib.hid fun k hk => by
    have h1 := hc (m + k) (by omega)
    rw [lst_at, show l.length - 16 + k = m + k by omega, Nat.add_assoc, ← h1]
    exact ((Below.refl g.succ w).alloc (by omega) _).cell (p := ⟨g, o + (m + k), none⟩) (Nat.lt_succ_self g)
  have HL := Lib.hid hL
  generalize lst l = x at *
  have HZ := Lib.hid (show (wd x).size = 16 by rw [wd_size]; exact HL.out)
  have HR := Lib.hid (RowAt.new w 128 (wd (List.replicate 16 0)))
  have e1 : (n : Int) - 16 = (m : Int) := by omega
  have hA := array_at g (o + m) (n - m) (c - m) (by omega)
  have hmn : m ≤ n := by omega
  have hmb : m ≤ 100000 := by omega
  have hmc : m < c := by omega
  have hmc2 : ¬ c = m := by omega
  clear hr hl hc hL hm
  go_enter Tryz.func96, Tryz.ntmps96
  go_wp2_with (first
    | refine wpList_load_of rfl 128 (.tmp 8) rfl ⟨g, o + m, none⟩ _ rfl (load_at HL.out HC.out) ?_
    | refine wpList_store_row rfl 128 (.tmp 2) (.tmp 9) rfl w.heap.size (wd x) rfl rfl 128 _ HR.out (by rw [HZ.out]; exact size_16) (by rw [HZ.out]; rfl) (wd_one _) ?_)
  have hR := HR.out.setRow (wd x)
  refine bodyPost_ret (v := .agg (wd x)) (results_cell_row rfl _ _ w.heap.size 128 (wd x) (0, 0) _ rfl hR Tryz.underlying128 rfl (by rw [HZ.out]; exact size_16)) rfl ⟨rfl, ?_⟩
  exact below_setRow ((Below.refl _ w).alloc (Nat.le_refl _) _) (Nat.le_refl _) _
end Go.Proofs.YtlifpplhinmajaaGreatDoor

namespace Go.Proofs.YtlifpplhinmajaaGreatDoor
set_option maxRecDepth 50000
open Go.ChangeShapes Go.WideShapes Go.ChangeAt Go.RowKit Sl

theorem open_words {zs : List Int} (hw : ∀ n ∈ zs, (Lit.int .u32 n).wf = true) : ∃ bs : List Nat, bs.length = zs.length ∧ okw bs ∧ zs.map (Value.int .u32) = u32s bs := by
  refine ⟨zs.map Int.toNat, by simp, ?_, ?_⟩
  · intro x hx
    obtain ⟨z, hz, rfl⟩ := List.mem_map.1 hx
    have := bounds_u32 (hw z hz)
    omega
  · unfold u32s
    rw [List.map_map]
    refine List.map_congr_left fun z hz => ?_
    have := bounds_u32 (hw z hz)
    simp [Function.comp, Int.toNat_of_nonneg this.1]
end Go.Proofs.YtlifpplhinmajaaGreatDoor

namespace Go.Proofs.YtlifpplhinmajaaGreatDoor
set_option maxRecDepth 50000
open Go.RowKit Rot Sl Sf

/-- the number of two words -/
def inN (l : List Nat) : Nat := (lst l).getD 0 0 + 4294967296 * (lst l).getD 1 0
theorem inN_lt {l : List Nat} (h : okw l) : inN l < 18446744073709551616 := by
  have h0 := (okw_drop h (l.length - 16)).at_ 0
  have h1 := (okw_drop h (l.length - 16)).at_ 1
  unfold inN lst
  omega
theorem or_two (a b : Nat) (ha : a < 4294967296) (hb : b < 4294967296) : bits .or .u64 ((b * 4294967296 : Nat) : Int) (a : Int) = ((a + 4294967296 * b : Nat) : Int) := by
  have e : bits .or .u64 ((b * 4294967296 : Nat) : Int) (a : Int) = IntKind.u64.wrap (((BitVec.ofInt 64 ((b * 4294967296 : Nat) : Int)) ||| (BitVec.ofInt 64 (a : Int))).toNat : Int) := rfl
  have t1 : (BitVec.ofInt 64 ((b * 4294967296 : Nat) : Int)).toNat = 2 ^ 32 * b := by
    rw [BitVec.toNat_ofInt]; simp only [Nat.reducePow]; omega
  have t2 : (BitVec.ofInt 64 (a : Int)).toNat = a := by
    rw [BitVec.toNat_ofInt]; simp only [Nat.reducePow]; omega
  have h := Nat.two_pow_add_eq_or_of_lt (show a < 2 ^ 32 by simpa using ha) b
  rw [e, BitVec.toNat_or, t1, t2, ← h, IntKind.wrap_u64]
  simp only [Nat.reducePow]
  omega

theorem int_bad (z : Int) (h : z < 1 ∨ 512 < z) (v : Value) (w : World) : Calls Tryz.prog 76 #[.int .i64 z, v] w fun e w' => e = .returned (.tuple #[.int .u64 0, .int .i64 2]) ∧ w = w' := by
  have HC := Lib.hid fun w => check_bad z h v w
  clear h
  go_enter Tryz.func76, Tryz.ntmps76
  go_wp2_with fail
  refine (HC.out w).mono ?_
  rintro e w2 ⟨rfl, rfl⟩
  go_wp2
  go_ret2
  exact ⟨rfl, rfl⟩
theorem int_size (r : Nat) (h1 : 1 ≤ r) (h2 : r ≤ 512) (A : Option Addr) (n c : Nat) (hn : n ≠ 32 * r) (w : World) : Calls Tryz.prog 76 #[.int .i64 (r : Int), .slice A n c] w fun e w' => e = .returned (.tuple #[.int .u64 0, .int .i64 9]) ∧ w = w' := by
  have HC := Lib.hid fun w => check_size r h1 h2 A n c hn w
  clear hn
  go_enter Tryz.func76, Tryz.ntmps76
  go_wp2_with fail
  refine (HC.out w).mono ?_
  rintro e w2 ⟨rfl, rfl⟩
  go_wp2
  go_ret2
  exact ⟨rfl, rfl⟩

set_option maxHeartbeats 3200000 in
theorem int_any (r : Nat) (h1 : 1 ≤ r) (h2 : r ≤ 512) (A : Option Addr) (n c : Nat) (l : List Nat) (hl : l.length = n) (hn : n = 32 * r) (hnc : n ≤ c) (ho : okw l) (w : World) (hr : Reads w w.heap.size A (u32s l)) :
    Calls Tryz.prog 76 #[.int .i64 (r : Int), .slice A n c] w fun e w' => e = .returned (.tuple #[.int .u64 ((inN l : Nat) : Int), .int .i64 0]) ∧ Below w.heap.size w w' := by
  have HCK := Lib.hid fun w => check_ok r h1 h2 A n c hn w
  have HLA := Lib.hid fun w => last_any A n c l hl (by omega) (by omega) hnc w
  have HR := Lib.hid hr
  have HL := Lib.hid (lst_length l (by omega))
  have hx := okw_drop ho (l.length - 16)
  have h0 := hx.at_ 0
  have h1' := hx.at_ 1
  have HI : Hid (inN l = (lst l).getD 0 0 + 4294967296 * (lst l).getD 1 0) := Lib.hid rfl
  change (lst l).getD 0 0 < _ at h0
  change (lst l).getD 1 0 < _ at h1'
  clear hx hr ho hl hnc hn
  generalize lst l = x at *
  have c0 := wd_at x 0 (by rw [HL.out]; decide)
  have c1 := wd_at x 1 (by rw [HL.out]; decide)
  have hor := or_two (x.getD 0 0) (x.getD 1 0) h0 h1'
  rw [← HI.out] at hor
  generalize inN l = N at *
  generalize x.getD 0 0 = a at *
  generalize x.getD 1 0 = b at *
  have hw1 : IntKind.u64.wrap (a : Int) = (a : Int) := by rw [IntKind.wrap_u64]; omega
  have hw2 : IntKind.u64.wrap (b : Int) = (b : Int) := by rw [IntKind.wrap_u64]; omega
  have hw3 : IntKind.u64.wrap ((b : Int) * 4294967296) = ((b * 4294967296 : Nat) : Int) := by rw [IntKind.wrap_u64]; omega
  generalize b * 4294967296 = d at *
  have HZ := Lib.hid (show (wd x).size = 16 by rw [wd_size]; exact HL.out)
  have C0 := Lib.hid c0
  have C1 := Lib.hid c1
  clear c0 c1 HI h1 h2
  go_enter Tryz.func76, Tryz.ntmps76
  go_wp2_with fail
  refine (HCK.out w).mono ?_
  rintro e w' ⟨rfl, rfl⟩
  go_wp2_with fail
  refine (HLA.out w HR.out).mono ?_
  rintro e w1 ⟨rfl, b1⟩
  have RX := Lib.hid ((RowAt.new w1 128 (wd (List.replicate 16 0))))
  have R2 := RX.out.setRow (wd x)
  have k0 : ((w1.alloc (.cells (wd (List.replicate 16 0)) 128)).setRow w1.heap.size (wd x)).cell? ⟨w1.heap.size, 0, none⟩ = some (.int .u32 (a : Int)) := (R2.cell 0).trans C0.out
  have k1 : ((w1.alloc (.cells (wd (List.replicate 16 0)) 128)).setRow w1.heap.size (wd x)).cell? ⟨w1.heap.size, 1, none⟩ = some (.int .u32 (b : Int)) := (R2.cell 1).trans C1.out
  have BX := Lib.hid (b1.trans (((below_setRow ((Below.refl _ w1).alloc (Nat.le_refl _) (.cells (wd (List.replicate 16 0)) 128)) (Nat.le_refl _) (wd x))).mono b1.size))
  have ez : wd (List.replicate 16 0) = #[.int .u32 0, .int .u32 0, .int .u32 0, .int .u32 0, .int .u32 0, .int .u32 0, .int .u32 0, .int .u32 0, .int .u32 0, .int .u32 0, .int .u32 0, .int .u32 0, .int .u32 0, .int .u32 0, .int .u32 0, .int .u32 0] := rfl
  rw [ez] at k0 k1
  clear R2 b1 ez
  go_wp2_with (first
    | refine wpList_store_row rfl 128 (.tmp 7) (.tmp 15) rfl w1.heap.size (wd x) rfl rfl 128 _ RX.out (by rw [HZ.out]; exact size_16) (by rw [HZ.out]; rfl) (wd_one _) ?_)
  go_ret2
  exact ⟨rfl, BX.out⟩

set_option maxHeartbeats 3200000 in
theorem rint_any (r : Nat) (h1 : 1 ≤ r) (h2 : r ≤ 512) (A : Option Addr) (n c : Nat) (l : List Nat) (hl : l.length = n) (hn : n = 32 * r) (ho : okw l) (w : World) (hr : Reads w w.heap.size A (u32s l)) :
    Calls Tryz.prog 56 #[.int .i64 (r : Int), .slice A n c] w fun e w' => e = .returned (.int .u64 ((inN l : Nat) : Int)) ∧ Below w.heap.size w w' := by
  obtain ⟨g, o, rfl, hg, hc⟩ := reads_words hr (by omega)
  obtain ⟨m, hm⟩ : ∃ m, 32 * r = m + 16 := ⟨32 * r - 16, by omega⟩
  have h0 := ho.at_ m
  have h1' := ho.at_ (m + 1)
  have c0 := hc m (by omega)
  have c1 := hc (m + 1) (by omega)
  have HI : Hid (inN l = l.getD m 0 + 4294967296 * l.getD (m + 1) 0) := Lib.hid (by
    unfold inN
    rw [lst_at, lst_at, show l.length - 16 + 0 = m by omega, show l.length - 16 + 1 = m + 1 by omega])
  have hN := inN_lt ho
  generalize l.getD m 0 = a at *
  generalize l.getD (m + 1) 0 = b at *
  have hw1 : IntKind.u64.wrap (a : Int) = (a : Int) := by rw [IntKind.wrap_u64]; omega
  have hw2 : IntKind.u64.wrap (b : Int) = (b : Int) := by rw [IntKind.wrap_u64]; omega
  have hw3 : IntKind.u64.wrap (4294967296 * (b : Int)) = ((4294967296 * b : Nat) : Int) := by rw [IntKind.wrap_u64]; omega
  have hw4 : IntKind.u64.wrap ((a : Int) + ((4294967296 * b : Nat) : Int)) = ((inN l : Nat) : Int) := by rw [IntKind.wrap_u64, HI.out]; have := HI.out; omega
  generalize inN l = N at *
  generalize 4294967296 * b = d at *
  obtain ⟨m1, hm1⟩ : ∃ m1, m + 1 = m1 := ⟨_, rfl⟩
  rw [hm1] at c1
  obtain ⟨q, hq⟩ : ∃ q, 32 * r = q := ⟨_, rfl⟩
  have e1 : (32 : Int) * (r : Int) = (q : Int) := by omega
  have e2 : (q : Int) - 16 = (m : Int) := by omega
  have e3 : (q : Int) - 15 = (m1 : Int) := by omega
  have k1 : ∀ tp d os out, (World.mk w.heap tp d os out).cell? ⟨g, o + m, none⟩ = some (.int .u32 (a : Int)) := fun _ _ _ _ => c0
  have k2 : ∀ tp d os out, (World.mk w.heap tp d os out).cell? ⟨g, o + m1, none⟩ = some (.int .u32 (b : Int)) := fun _ _ _ _ => c1
  have hqb : q ≤ 16384 := by omega
  have hmn : m < n := by omega
  have hmn1 : m1 < n := by omega
  have p0 : (0 : Int) ≤ (m : Int) := by omega
  have p1 : (m : Int) < (n : Int) := by omega
  have p2 : (0 : Int) ≤ (m1 : Int) := by omega
  have p3 : (m1 : Int) < (n : Int) := by omega
  have hmq : m ≤ 16384 := by omega
  have hmq1 : m1 ≤ 16384 := by omega
  clear c0 c1 hc hr ho hg HI hN h0 h1' hm hm1 hq hl hn h1 h2
  go_enter Tryz.func56, Tryz.ntmps56
  go_wp2
  go_quiet (fail)
  go_wp2
  go_ret
  exact ⟨rfl, below_drewN (Below.refl _ _) _⟩
end Go.Proofs.YtlifpplhinmajaaGreatDoor

namespace Go.Proofs.YtlifpplhinmajaaGreatDoor
set_option maxRecDepth 50000
open Go.RowKit Rot Sl Sf

theorem mix_bad (z : Int) (h : z < 1 ∨ 512 < z) (v : Value) (w : World) : Calls Tryz.prog 75 #[.int .i64 z, v] w fun e w' => e = .returned (.tuple #[.slice none 0 0, .int .i64 2]) ∧ w = w' := by
  have HC := Lib.hid fun w => check_bad z h v w
  clear h
  go_enter Tryz.func75, Tryz.ntmps75
  go_wp2_with fail
  refine (HC.out w).mono ?_
  rintro e w2 ⟨rfl, rfl⟩
  go_wp2
  go_ret2
  exact ⟨rfl, rfl⟩
theorem mix_size (r : Nat) (h1 : 1 ≤ r) (h2 : r ≤ 512) (A : Option Addr) (n c : Nat) (hn : n ≠ 32 * r) (w : World) : Calls Tryz.prog 75 #[.int .i64 (r : Int), .slice A n c] w fun e w' => e = .returned (.tuple #[.slice none 0 0, .int .i64 9]) ∧ w = w' := by
  have HC := Lib.hid fun w => check_size r h1 h2 A n c hn w
  clear hn
  go_enter Tryz.func75, Tryz.ntmps75
  go_wp2_with fail
  refine (HC.out w).mono ?_
  rintro e w2 ⟨rfl, rfl⟩
  go_wp2
  go_ret2
  exact ⟨rfl, rfl⟩

theorem u32_info : (Tryz.prog.info? 36).map (fun i => (i.zero, i.size, i.bytes)) = some (some (.int .u32 0), 1, 4) := by kernel_rfl
/-- a row that was made whole is a row at its place -/
theorem own_rowAt {w : World} {B g n : Nat} {e : TypeId} {xs : List Value} (h : w.ownsRow B e 1 (.slice (some ⟨g, 0, none⟩) n n) n xs) : RowAt w g e xs.toArray := by
  rcases h.2 with ⟨h', _⟩ | ⟨g', cap', cur, h', hb, hg, hnc, hcm, hcs, htake⟩
  · simp at h'
  · simp only [Value.slice.injEq, Option.some.injEq, Addr.mk.injEq, and_true, true_and] at h'
    obtain ⟨rfl, rfl⟩ := h'
    have : cur.toList = xs := by rw [← htake, List.take_of_length_le (by simp [hcs])]
    rw [← this]
    exact hg
theorem rowAt_own {w : World} {B g n : Nat} {e : TypeId} {C : Array Value} (h : RowAt w g e C) (hn : C.size = n) (hm : n ≤ maxLen) (hB : B ≤ g) : w.ownsRow B e 1 (.slice (some ⟨g, 0, none⟩) n n) n C.toList :=
  ⟨by simp [hn], .inr ⟨g, n, C, rfl, hB, h, Nat.le_refl _, hm, by omega, by rw [List.take_of_length_le (by simp [hn])]⟩⟩
theorem wd_list (l : List Nat) : (u32s l).toArray = wd l := rfl
theorem wd_put (L : List Nat) (a : Nat) (y : List Nat) : ((wd L).toList.take a ++ u32s y ++ (wd L).toList.drop (a + (u32s y).length)).toArray = wd (put L a y) := by
  simp [wd, u32s, put]

/-- a block while it is mixed, and the row that it goes to -/
structure Bx (w wr : World) (X G : Nat) (x L : List Nat) : Prop where
  rx : RowAt wr X 128 (wd x)
  rg : RowAt wr G 36 (wd L)
  below : Below w.heap.size w wr
  atX : w.heap.size ≤ X
  atG : w.heap.size ≤ G
  ne : X ≠ G
section
variable {w wr wr' : World} {X G : Nat} {x L : List Nat}
theorem Bx.step (h : Bx w wr X G x L) (hb : Below wr.heap.size wr wr') : Bx w wr' X G x L :=
  ⟨h.rx.below hb h.rx.lt, h.rg.below hb h.rg.lt, h.below.trans (hb.mono h.below.size), h.atX, h.atG, h.ne⟩
theorem Bx.drew (h : Bx w wr X G x L) : Bx w wr.drew X G x L := h.step (Below.refl _ _).drew
theorem Bx.set (h : Bx w wr X G x L) (i z : Nat) : Bx w (wr.setCell ⟨X, i, none⟩ (.int .u32 (z : Int))) X G (x.set i z) L :=
  ⟨by rw [← wd_set]; exact h.rx.setCell i _, h.rg.setOther _ h.ne _, h.below.setCell h.atX _, h.atX, h.atG, h.ne⟩
theorem Bx.setX (h : Bx w wr X G x L) (y : List Nat) : Bx w (wr.setRow X (wd y)) X G y L :=
  ⟨h.rx.setRow _, h.rg.setRowOther _ h.ne _, below_setRow h.below h.atX _, h.atX, h.atG, h.ne⟩
theorem Bx.setG (h : Bx w wr X G x L) (M : List Nat) : Bx w (wr.setRow G (wd M)) X G x M :=
  ⟨h.rx.setRowOther _ (Ne.symm h.ne) _, h.rg.setRow _, below_setRow h.below h.atG _, h.atX, h.atG, h.ne⟩
end

set_option maxHeartbeats 6400000 in
theorem mix_any (r : Nat) (h1 : 1 ≤ r) (h2 : r ≤ 512) (A : Option Addr) (n c : Nat) (l : List Nat) (hl : l.length = n) (hn : n = 32 * r) (hnc : n ≤ c) (ho : okw l) (w : World) (hk : QAt w) (hr : Reads w w.heap.size A (u32s l)) :
    Calls Tryz.prog 75 #[.int .i64 (r : Int), .slice A n c] w fun e w' => ∃ G, e = .returned (.tuple #[.slice (some ⟨G, 0, none⟩) n n, .int .i64 0]) ∧ RowAt w' G 36 (wd (mx l r (2 * r))) ∧ w.heap.size ≤ G ∧ Below w.heap.size w w' := by
  have HCK := Lib.hid fun w => check_ok r h1 h2 A n c hn w
  have HBL := Lib.hid fun w => blocks_any r h2 w
  have HLA := Lib.hid fun w => last_any A n c l hl (by omega) (by omega) hnc w
  have HPL := Lib.hid fun i hi w => place_any r i h2 hi w
  obtain ⟨b, hb⟩ : ∃ b, 2 * r = b := ⟨_, rfl⟩
  rw [hb] at HBL ⊢
  have HB := Lib.hid hb
  have HN := Lib.hid hn
  have HL := Lib.hid hl
  have HO := Lib.hid ho
  have HQ := Lib.hid hk
  have HR := Lib.hid hr
  obtain ⟨g, o, rfl, hg, hc⟩ := reads_words hr (by omega)
  have HC : Hid (∀ wr, Below w.heap.size w wr → ∀ k, k < n → wr.cell? ⟨g, o + k, none⟩ = some (.int .u32 (l.getD k 0 : Nat))) := Lib.hid fun wr hb k hk => (hb.cell (p := ⟨g, o + k, none⟩) hg).trans (hc k (by omega))
  have HSL := Lib.hid (st_length l (by omega))
  have HSO := Lib.hid fun i => st_ok ho i
  have HML := Lib.hid (mx_length l r (by omega))
  have hbb : b ≤ 1024 := by omega
  have hnb : n ≤ 16384 := by omega
  have hn16 : n = 16 * b := by omega
  have HN16 := Lib.hid hn16
  have H1 := Lib.hid h1
  obtain ⟨i0, hi0, hz0, hz1, hz2⟩ := info_parts u32_info
  clear hr hc hg hk ho hl hn hb h1 h2 hnc hn16
  go_enter Tryz.func75, Tryz.ntmps75
  go_wp2_with fail
  refine (HCK.out w).mono ?_
  rintro e w' ⟨rfl, rfl⟩
  go_wp2_with fail
  refine (HLA.out w HR.out).mono ?_
  rintro e w1 ⟨rfl, b1⟩
  have RX := Lib.hid ((RowAt.new w1 128 (wd (List.replicate 16 0))))
  have HZ := Lib.hid (show (wd (lst l)).size = 16 by rw [wd_size]; exact HSL.out 0)
  have HST : Hid (lst l = st l 0) := Lib.hid rfl
  have BX := Lib.hid ((below_setRow ((Below.refl _ w1).alloc (Nat.le_refl _) (.cells (wd (List.replicate 16 0)) 128)) (Nat.le_refl _) (wd (lst l))))
  generalize lst l = x0 at *
  go_wp2_with (first
    | refine wpList_store_row rfl 128 (.tmp 7) (.tmp 18) rfl w1.heap.size (wd x0) rfl rfl 128 _ RX.out (by rw [HZ.out]; exact size_16) (by rw [HZ.out]; rfl) (wd_one _) ?_
    | (at_make; refine wpList_make_full _ rfl _ _ 63 rfl w1.heap.size.succ 36 i0 (.int .u32 0) 1 Tryz.underlying63 hi0 hz0 hz1 _ _ _ _ n rfl rfl ?c0 ?c00 ?c1 ?c2 ?c3 ?_))
  case c0 => rfl
  case c00 => rfl
  case c1 => rw [hz2]; omega
  case c2 => unfold maxLen; omega
  case c3 => simp [setRow_size]
  intro w2 hown hgr
  have e0 : (madeCells #[.int .u32 0] n).toList = u32s (mx l r 0) := by
    rw [toList_madeCells_one, mx, ← HN.out]
    unfold u32s
    rw [List.map_replicate]; rfl
  rw [e0] at hown
  have hgb := (Below.refl (w1.heap.size + 1) _).grown hgr (by simp [setRow_size]) (by simp)
  have HX1 : Hid (Bx w w2 w1.heap.size (w1.heap.size + 1) x0 (mx l r 0)) := Lib.hid ⟨(RX.out.setRow (wd x0)).below hgb (Nat.lt_succ_self _), own_rowAt hown, (b1.trans (BX.out.mono b1.size)).trans (hgb.mono (by have := b1.size; omega)), b1.size, by have := b1.size; omega, by omega⟩
  clear hown hgr e0 hgb BX RX HZ HLA HCK
  obtain ⟨X, hX⟩ : ∃ X, X = w1.heap.size := ⟨_, rfl⟩
  obtain ⟨G, hG⟩ : ∃ G, G = w1.heap.size + 1 := ⟨_, rfl⟩
  rw [← hG] at HX1 ⊢
  rw [← hX] at HX1 ⊢
  rw [HST.out] at HX1
  clear hX hG HST b1
  go_wp2_with fail
  refine (HBL.out w2).mono ?_
  rintro e w' ⟨rfl, rfl⟩
  go_wp2
  clear HBL
  go_loopw [9, 10, 24, 27] (fun _ _ v24 _ wr => ∃ i : Nat, i ≤ b ∧ v24 = .int .i64 (i : Int) ∧ Bx w wr X G (st l i) (mx l r i)) (fun _ _ v24 _ _ => b - (intOf v24).toNat)
  case atStart => exact ⟨0, by omega, rfl, HX1.out⟩
  case round =>
    clear HX1
    obtain ⟨i, hi, rfl, Y⟩ := hrel
    have HX := Lib.hid Y
    clear Y
    by_cases h : i < b
    · have hdt : decide ((i : Int) < (b : Int)) = true := by simp; omega
      have HN1 : Hid (st l (i + 1) = core (xr (st l i) l (16 * i) 16) 4) := Lib.hid rfl
      have HM1 : Hid (mx l r (i + 1) = put (mx l r i) (16 * pl r i) (st l (i + 1))) := Lib.hid rfl
      have hxl := HSL.out i
      have hxo := HSO.out i
      have HYL := Lib.hid (HSL.out (i + 1))
      have HML2 := Lib.hid (HML.out i (by have := HB.out; omega))
      have HPI := Lib.hid fun w => HPL.out i (by have := HB.out; omega) w
      have hpl := pl_lt (r := r) (i := i) (by have := HB.out; omega)
      generalize pl r i = p at *
      obtain ⟨L2, hL2⟩ : ∃ L2, mx l r (i + 1) = L2 := ⟨_, rfl⟩
      have HL2 := Lib.hid hL2
      rw [hL2] at HM1
      clear hL2
      generalize mx l r i = L at *
      generalize st l i = x at *
      have HXL := Lib.hid hxl
      have HXO := Lib.hid hxo
      clear hxl hxo
      go_wp2
      go_loopw [10, 27] (fun _ v27 wr => ∃ k : Nat, k ≤ 16 ∧ v27 = .int .i64 (k : Int) ∧ Bx w wr X G (xr x l (16 * i) k) L) (fun _ v27 _ => 16 - (intOf v27).toNat)
      case atStart => exact ⟨0, by omega, rfl, HX.out⟩
      case round =>
        clear HX
        obtain ⟨k, hk, rfl, Y⟩ := hrel
        have HX := Lib.hid Y
        clear Y
        by_cases h6 : k < 16
        · have hd : decide ((k : Int) < 16) = true := by simp; omega
          have cj := (HX.out.rx.cell k).trans (wd_at _ k (by rw [xr_length, HXL.out]; exact h6))
          rw [xr_at x l (16 * i) k k (Nat.le_refl _)] at cj
          have dj := HC.out wr HX.out.below (16 * i + k) (by have := HN16.out; omega)
          have HF : Hid (xr x l (16 * i) (k + 1) = (xr x l (16 * i) k).set k (x.getD k 0 ^^^ l.getD (16 * i + k) 0)) := Lib.hid rfl
          have hv := xor32 (x.getD k 0) (l.getD (16 * i + k) 0) (HXO.out.at_ _) (HO.out.at_ _)
          have e1 : (i : Int) * 16 = ((16 * i : Nat) : Int) := by omega
          have e2 : ((16 * i : Nat) : Int) + (k : Int) = ((16 * i + k : Nat) : Int) := by omega
          have hq : 16 * i + k < n := by have := HN16.out; omega
          generalize x.getD k 0 = u at *
          generalize l.getD (16 * i + k) 0 = v at *
          generalize u ^^^ v = s at *
          generalize xr x l (16 * i) k = z at *
          generalize 16 * i + k = q at *
          generalize 16 * i = f at *
          have hj0 : (0 : Int) ≤ (k : Int) := by omega
          have hj6 : (k : Int) < 16 := by omega
          have hq0 : (0 : Int) ≤ (q : Int) := by omega
          have hq6 : (q : Int) < (n : Int) := by omega
          have hfb : f ≤ 100000 := by omega
          have hwf : IntKind.i64.wrap (f : Int) = (f : Int) := IntWalk.i64_in _ (by omega)
          have hwq : IntKind.i64.wrap (q : Int) = (q : Int) := IntWalk.i64_in _ (by omega)
          have k1 : ∀ tp d os out, (World.mk wr.heap tp d os out).cell? ⟨X, k, none⟩ = some (.int .u32 (u : Int)) := fun _ _ _ _ => cj
          have k2 : ∀ tp d os out, (World.mk wr.heap tp d os out).cell? ⟨g, o + q, none⟩ = some (.int .u32 (v : Int)) := fun _ _ _ _ => dj
          clear cj dj
          go_wp2
          refine wp_region_still_tail 12 (by kernel_rfl) (by kernel_rfl) ?_
          simp only [List.take_succ_cons, List.take_zero, List.drop_succ_cons, List.drop_zero]
          repeat still_step
          refine wpStill_nil ?_
          change wpList _ _ _ _ _ wr.drew
          have HD := Lib.hid HX.out.drew
          have fk : wr.drew.frozen? ⟨X, k, none⟩ = false := HX.out.drew.rx.frozen k
          have ck : wr.drew.cell? ⟨X, k, none⟩ = some (.int .u32 (u : Int)) := k1 _ _ _ _
          clear k1 k2 HX
          generalize wr.drew = w4 at *
          go_wp2
          go_roundw
          case rel => exact ⟨k + 1, by omega, by go_num, by rw [HF.out]; exact HD.out.set k s⟩
          case measure => simp [intOf]; omega
        · obtain rfl : k = 16 := by omega
          have hd : decide (((16 : Nat) : Int) < 16) = false := by simp
          have hzl : (xr x l (16 * i) 16).length = 16 := by rw [xr_length]; exact HXL.out
          have CE := Lib.hid (eight_any (xr x l (16 * i) 16) hzl (xr_ok HXO.out HO.out _ _) wr (HQ.out.next HX.out.below))
          rw [← HN1.out] at CE
          generalize xr x l (16 * i) 16 = z at *
          obtain ⟨y, hy⟩ : ∃ y, st l (i + 1) = y := ⟨_, rfl⟩
          have HY := Lib.hid hy
          rw [hy] at CE HM1 HYL
          clear hy
          have HZS := Lib.hid (show (wd z).size = 16 by rw [wd_size]; exact hzl)
          have HYS := Lib.hid (show (wd y).size = 16 by rw [wd_size]; exact HYL.out)
          clear hzl
          go_wp2_with (refine wpList_load_row rfl 128 (.tmp 7) rfl X rfl 128 (wd z) (0, 0) _ HX.out.rx Tryz.underlying128 rfl (by rw [HZS.out]; exact size_16) ?_)
          refine CE.out.mono ?_
          rintro e w2 ⟨rfl, hb⟩
          have HX2 := Lib.hid (HX.out.step hb)
          clear hb HX CE
          have HX3 := Lib.hid (HX2.out.setX y)
          go_wp2_with (refine wpList_store_row rfl 128 (.tmp 7) (.tmp 44) rfl X (wd y) rfl rfl 128 _ HX2.out.rx (by rw [HYS.out]; exact size_16) (by rw [HYS.out, HZS.out]) (wd_one _) ?_)
          generalize World.setRow _ _ _ = w3 at *
          clear HX2
          have ha : 16 * p + 16 ≤ n := by have := HN16.out; have := HB.out; omega
          have e1 : (p : Int) * 16 = ((16 * p : Nat) : Int) := by omega
          have HD := Lib.hid HX3.out.drew
          have hcp := fun (ty : TypeId) => run_copy_row (P := Tryz.prog) w3.drew 63 63 ty 36 G (16 * p) (n - 16 * p) (n - 16 * p) ⟨X, 0, none⟩ 16 16 (wd L) 36 (u32s y) Tryz.underlying63 size_u32 HD.out.rg (by rw [u32s_length, HYL.out]; exact (Nat.min_eq_left (by omega)).symm)
            (fun j u hj => by
              have hadd : (⟨X, 0, none⟩ : Addr).add j = ⟨X, j, none⟩ := by unfold Addr.add; split <;> simp_all
              rw [hadd, HD.out.rx.cell j]
              simpa [wd] using hj) (by rw [u32s_length, HYL.out, wd_size, HML2.out, ← HN.out]; exact ha) (fun u hu => by simp only [u32s, List.mem_map] at hu; obtain ⟨x, _, rfl⟩ := hu; rfl)
          rw [wd_put, ← HM1.out, u32s_length, HYL.out] at hcp
          clear HX3
          generalize 16 * p = a at *
          have hab : a < n := by omega
          have han : a ≤ n := by omega
          have hwa : IntKind.i64.wrap (a : Int) = (a : Int) := IntWalk.i64_in _ (by omega)
          have hane : ¬ n = a := by omega
          have hpb : p ≤ 100000 := by omega
          have hp0 : (0 : Int) ≤ (a : Int) := by omega
          have hp1 : (a : Int) ≤ (n : Int) := by omega
          go_wp2
          refine wp_region_still_tail 7 (by kernel_rfl) (by kernel_rfl) ?_
          simp only [List.take_succ_cons, List.take_zero, List.drop_succ_cons, List.drop_zero]
          repeat still_step
          still_call ((HPI.out _).mono fun _ _ h => And.intro h.1 h.2.symm)
          repeat still_step
          refine wpStill_nil ?_
          change wpList _ _ _ _ _ w3.drew
          generalize w3.drew = w4 at *
          have HIB := Lib.hid h
          clear e1 ha han hwa hane hpb hp0 hp1 h hpl hd hdt
          go_wp2
          go_roundw
          case rel => exact ⟨i + 1, by have := HIB.out; omega, by go_num, by rw [HY.out, HL2.out]; exact HD.out.setG L2⟩
          case measure => have := HIB.out; simp [intOf]; omega
    · obtain rfl : i = b := by omega
      have hdt : decide ((i : Int) < (i : Int)) = false := by simp
      go_wp2
      go_ret2
      have := HX.out
      exact ⟨G, rfl, this.rg, this.atG, this.below⟩
end Go.Proofs.YtlifpplhinmajaaGreatDoor
