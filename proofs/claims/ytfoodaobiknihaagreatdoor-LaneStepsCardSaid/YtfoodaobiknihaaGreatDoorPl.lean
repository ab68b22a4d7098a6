/- Pick of package place and the document's Pick, by their contracts; the chapter's example. Conditions: those typed. Area, From, Lane and refers of package place by their contracts. Conditions: those typed. Spots as rows and as values held against each other; a shape and a turn that stand in memory; calls of four and of five arguments. Conditions: those typed. refers of package place by its contract. Conditions: those typed. Of of package place by its contract. Conditions: those typed. What a block refers to, in numbers: it is one of the shape's, it is settled, it is not the block itself. Conditions: those typed. Of of package place where there is a block that refers. Conditions: those typed. A turn that came in. No condition. -/
import Derived.Test.YtfoodaobiknihaaGreatDoorSp
import Derived.StillTailTactics
namespace Go.Proofs.YtfoodaobiknihaaGreatDoor
set_option maxRecDepth 50000
open Go.RowKit
theorem or_low32 (a b : Nat) (h : b < 4294967296) : (a * 4294967296) ||| b = a * 4294967296 + b := by
  have h := Nat.two_pow_add_eq_or_of_lt (i := 32) (b := b) (by omega) a
  rw [show (2 : Nat) ^ 32 = 4294967296 from rfl, Nat.mul_comm] at h
  exact h.symm
theorem share_any (x y p : Nat) (hx : x < 18446744073709551616) (hy : y < 18446744073709551616) (hp : x * y = p) (h : p < 79228162514264337593543950336) (w : World) :
    Calls Tryz.prog 108 #[.int .u64 (x : Int), .int .u64 (y : Int)] w fun e w' => e = .returned (.int .u64 ((p / 4294967296 : Nat) : Int)) ∧ w = w' := by
  have C := mul64_any x y hx hy w
  rw [hp] at C
  obtain ⟨H, hH⟩ : ∃ H, p / 18446744073709551616 = H := ⟨_, rfl⟩
  obtain ⟨L, hL⟩ : ∃ L, p % 18446744073709551616 = L := ⟨_, rfl⟩
  rw [hH, hL] at C
  have hr : p / 4294967296 = H * 4294967296 + L / 4294967296 := by omega
  have hHb : H < 4294967296 := by omega
  have hLb : L < 18446744073709551616 := by omega
  have e1 : IntKind.u64.wrap ((H : Int) * 4294967296) = ((H * 4294967296 : Nat) : Int) := by rw [IntKind.wrap_u64]; omega
  have e2 : bits .or .u64 ((H * 4294967296 : Nat) : Int) ((L : Int) / 4294967296) = ((p / 4294967296 : Nat) : Int) := by
    rw [show (L : Int) / 4294967296 = ((L / 4294967296 : Nat) : Int) from rfl, bits_or_u64_nat _ _ (by omega) (by omega), or_low32 _ _ (by omega), hr]
  have HC := Lib.hid C
  have E2 := Lib.hid e2
  clear C hp hx hy h hH hL hr e2
  generalize H * 4294967296 = G at *
  generalize p / 4294967296 = q at *
  go_enter Tryz.func108, Tryz.ntmps108
  go_wp2_with fail
  refine (HC.out).mono ?_
  rintro e w' ⟨rfl, rfl⟩
  go_wp2
  go_ret
  exact ⟨by rw [E2.out]; rfl, rfl⟩
def shN (A J : Nat) : Nat := A * (J * J / 4294967296) / 4294967296
def piN (A J : Nat) : Nat := A - 1 - shN A J
theorem sq_lt {J : Nat} (hJ : J < 4294967296) : J * J < 18446744073709551616 ∧ J * J / 4294967296 < 4294967296 := by
  have h := Nat.mul_le_mul (show J ≤ 4294967295 by omega) (show J ≤ 4294967295 by omega)
  omega
theorem sh_lt {A J : Nat} (hA : 1 ≤ A) (hJ : J < 4294967296) : shN A J < A := by
  unfold shN
  refine Nat.div_lt_of_lt_mul ?_
  rw [Nat.mul_comm 4294967296]
  exact Nat.mul_lt_mul_of_pos_left (sq_lt hJ).2 (by omega)
theorem pi_lt {A J : Nat} (hA : 1 ≤ A) : piN A J < A := by unfold piN; omega
theorem pick_any (A J : Nat) (hA : 1 ≤ A) (hA2 : A ≤ 4294967296) (hJ : J < 4294967296) (w : World) :
    Calls Tryz.prog 90 #[.int .i64 (A : Int), .int .u32 (J : Int)] w fun e w' => e = .returned (.int .i64 ((piN A J : Nat) : Int)) ∧ w = w' := by
  obtain ⟨S, hS⟩ : ∃ S, J * J / 4294967296 = S := ⟨_, rfl⟩
  obtain ⟨Y, hY⟩ : ∃ Y, A * S / 4294967296 = Y := ⟨_, rfl⟩
  have hsq := sq_lt hJ
  have hSb : S < 4294967296 := by omega
  have hYA : Y < A := by
    have := sh_lt hA hJ
    unfold shN at this
    rwa [hS, hY] at this
  have hAS : A * S < 79228162514264337593543950336 := by
    have := Nat.mul_le_mul hA2 (show S ≤ 4294967296 by omega)
    omega
  have hP : piN A J = A - 1 - Y := by unfold piN shN; rw [hS, hY]
  have C1 := Lib.hid (share_any J J _ (by omega) (by omega) rfl (by omega))
  have C2 := Lib.hid (share_any A S _ (by omega) (by omega) rfl hAS)
  rw [hS] at C1
  rw [hY] at C2
  rw [hP]
  clear hsq hAS hS hY hP
  go_enter Tryz.func90, Tryz.ntmps90
  go_wp2_with fail
  refine (C1.out _).mono ?_
  rintro e w' ⟨rfl, rfl⟩
  go_wp2_with fail
  refine (C2.out _).mono ?_
  rintro e w' ⟨rfl, rfl⟩
  go_wp2
  go_ret
  exact ⟨by go_num, rfl⟩
theorem rpick_any (A J : Nat) (hA : 1 ≤ A) (hA2 : A < 2147483648) (hJ : J < 4294967296) (w : World) :
    Calls Tryz.prog 82 #[.int .i64 (A : Int), .int .u32 (J : Int)] w fun e w' => e = .returned (.int .i64 ((piN A J : Nat) : Int)) ∧ w = w' := by
  obtain ⟨Q, hQ⟩ : ∃ Q, J * J = Q := ⟨_, rfl⟩
  obtain ⟨S, hS⟩ : ∃ S, Q / 4294967296 = S := ⟨_, rfl⟩
  obtain ⟨R, hR⟩ : ∃ R, A * S = R := ⟨_, rfl⟩
  obtain ⟨Y, hY⟩ : ∃ Y, R / 4294967296 = Y := ⟨_, rfl⟩
  have hsq := sq_lt hJ
  rw [hQ] at hsq
  have hSb : S < 4294967296 := by omega
  have hYA : Y < A := by
    have := sh_lt hA hJ
    unfold shN at this
    rwa [hQ, hS, hR, hY] at this
  have hRb : R < 18446744073709551616 := by
    rw [← hR]
    have := Nat.mul_le_mul (show A ≤ 2147483648 by omega) (show S ≤ 4294967296 by omega)
    omega
  have hQb : Q < 18446744073709551616 := by omega
  have hP : piN A J = A - 1 - Y := by unfold piN shN; rw [hQ, hS, hR, hY]
  have e1 : (J : Int) * (J : Int) = (Q : Int) := by rw [← hQ]; exact (Int.natCast_mul _ _).symm
  have e2 : (Q : Int) / 4294967296 = (S : Int) := by rw [← hS]; rfl
  have e3 : (A : Int) * (S : Int) = (R : Int) := by rw [← hR]; exact (Int.natCast_mul _ _).symm
  have e4 : (R : Int) / 4294967296 = (Y : Int) := by rw [← hY]; rfl
  have w1 : IntKind.u64.wrap (Q : Int) = (Q : Int) := by rw [IntKind.wrap_u64]; omega
  have w2 : IntKind.u64.wrap (R : Int) = (R : Int) := by rw [IntKind.wrap_u64]; omega
  rw [hP]
  clear hsq hS hQ hR hY hP
  go_enter Tryz.func82, Tryz.ntmps82
  go_wp2
  go_ret
  exact ⟨by go_num, rfl⟩
open Go.RowKit
theorem column_is (a t l m b c g z x y j : Nat) (h : x * g + y = j) (hj : j ≤ 4611686018427387904) (w : World) : Calls Tryz.prog 92 #[spv a t l m b c g z, .int .i64 (x : Int), .int .i64 (y : Int)] w fun e w' => e = .returned (.int .i64 (j : Int)) ∧ Below w.heap.size w w' := by
  have C := spcolumn_any a t l m b c g z x y (by omega) w
  rwa [h] at C
theorem two_rows (a t l m b c g z : Nat) (p s : Int) (w : World) {w1 : World} (hb : Below ((w.alloc (.cells (spc a t l m b c g z) 44)).alloc (.cells (tuc p s) 28)).heap.size ((w.alloc (.cells (spc a t l m b c g z) 44)).alloc (.cells (tuc p s) 28)) w1) :
    RowAt w1 w.heap.size 44 (spc a t l m b c g z) ∧ RowAt w1 (w.heap.size + 1) 28 (tuc p s) ∧ Below w.heap.size w w1 := by
  have s1 : (w.alloc (.cells (spc a t l m b c g z) 44)).heap.size = w.heap.size + 1 := World.size_alloc _ _
  refine ⟨((RowAt.new w _ _).alloc _).step hb, ?_, ?_⟩
  · have := (RowAt.new (w.alloc (.cells (spc a t l m b c g z) 44)) 28 (tuc p s)).step hb
    rwa [s1] at this
  · have b1 := two_box w (.cells (spc a t l m b c g z) 44) (.cells (tuc p s) 28)
    exact b1.trans (hb.mono b1.size)
def bsN (c g p s : Nat) : Nat := if p = 0 then s * g else c - g
def arI (B i : Nat) (own : Bool) : Int := if own then (B : Int) + (i : Int) - 1 else if i = 0 then (B : Int) - 1 else (B : Int)
set_option maxHeartbeats 1600000 in
theorem area_any (a t l m b c g z p s i B : Nat) (own : Bool) (hB : bsN c g p s = B) (hg : g ≤ c) (hc : c ≤ 4294967296) (hs : s * g ≤ 4294967296) (hi : i ≤ 4294967296) (w : World) :
    Calls Tryz.prog 91 #[spv a t l m b c g z, tuv p s, .int .i64 (i : Int), .bool own] w fun e w' => e = .returned (.int .i64 (arI B i own)) ∧ Below w.heap.size w w' := by
  have HA := Lib.hid (show arI B i own = if own then (B : Int) + (i : Int) - 1 else if i = 0 then (B : Int) - 1 else (B : Int) from rfl)
  generalize arI B i own = R at *
  have HB := Lib.hid (two_box w (.cells (spc a t l m b c g z) 44) (.cells (tuc p s) 28))
  have HR : Hid (∀ w1, _ → _) := Lib.hid fun w1 hb => two_rows a t l m b c g z (p : Int) (s : Int) w (w1 := w1) hb
  by_cases hp : p = 0
  · have CC := Lib.hid (column_is a t l m b c g z s 0 B (by rw [← hB, bsN, if_pos hp, Nat.add_zero]) (by rw [← hB, bsN, if_pos hp]; omega))
    have hBb : B ≤ 4294967296 := by rw [← hB, bsN, if_pos hp]; exact hs
    clear hB hs
    subst hp
    go_enter Tryz.func91, Tryz.ntmps91
    go_wp2_with fail
    refine (CC.out _).mono ?_
    rintro e w1 ⟨rfl, hb⟩
    have HR1 := Lib.hid (HR.out _ hb).2.2
    clear hb HR HB CC
    cases own
    · by_cases h0 : i = 0
      · subst h0
        have hA := HA.out
        simp only [Bool.false_eq_true, if_false, if_true] at hA
        have HH := Lib.hid hA
        clear HA hA
        go_wp2
        go_ret
        exact ⟨by rw [HH.out]; go_num, HR1.out⟩
      · have hA := HA.out
        simp only [Bool.false_eq_true, if_false, if_neg h0] at hA
        have HH := Lib.hid hA
        clear HA hA
        go_wp2
        go_ret
        exact ⟨by rw [HH.out]; rfl, HR1.out⟩
    · have hA := HA.out
      simp only [if_true] at hA
      have HH := Lib.hid hA
      clear HA hA
      go_wp2
      go_ret
      exact ⟨by rw [HH.out]; go_num, HR1.out⟩
  · have hBc : B + g = c := by rw [← hB, bsN, if_neg hp]; omega
    have hBe : (c : Int) - (g : Int) = (B : Int) := by omega
    clear hB hs HR
    cases own
    · by_cases h0 : i = 0
      · subst h0
        have hA := HA.out
        simp only [Bool.false_eq_true, if_false, if_true] at hA
        have HH := Lib.hid hA
        clear HA hA
        go_enter Tryz.func91, Tryz.ntmps91
        go_wp2
        go_ret
        exact ⟨by rw [HH.out]; go_num, HB.out⟩
      · have hA := HA.out
        simp only [Bool.false_eq_true, if_false, if_neg h0] at hA
        have HH := Lib.hid hA
        clear HA hA
        go_enter Tryz.func91, Tryz.ntmps91
        go_wp2
        go_ret
        exact ⟨by rw [HH.out]; go_num, HB.out⟩
    · have hA := HA.out
      simp only [if_true] at hA
      have HH := Lib.hid hA
      clear HA hA
      go_enter Tryz.func91, Tryz.ntmps91
      go_wp2
      go_ret
      exact ⟨by rw [HH.out]; go_num, HB.out⟩
def frN (g p s : Nat) : Nat := if p = 0 ∨ s = 3 then 0 else (s + 1) * g
theorem from_anyL (a t l m b c g z p s F : Nat) (hF : frN g p s = F) (hs : (s + 1) * g ≤ 4294967296) (hs2 : s ≤ 3) (w : World) :
    Calls Tryz.prog 89 #[spv a t l m b c g z, tuv p s] w fun e w' => e = .returned (.int .i64 (F : Int)) ∧ Below w.heap.size w w' := by
  have HB := Lib.hid (two_box w (.cells (spc a t l m b c g z) 44) (.cells (tuc p s) 28))
  by_cases hp : p = 0
  · have h0 : F = 0 := by rw [← hF, frN, if_pos (.inl hp)]
    subst hp; subst h0
    clear hF hs
    go_enter Tryz.func89, Tryz.ntmps89
    go_wp2
    go_ret
    exact ⟨rfl, HB.out⟩
  · by_cases h3 : s = 3
    · have h0 : F = 0 := by rw [← hF, frN, if_pos (.inr h3)]
      subst h3; subst h0
      clear hF hs
      go_enter Tryz.func89, Tryz.ntmps89
      go_wp2
      go_ret
      exact ⟨rfl, HB.out⟩
    · have CC := Lib.hid (column_is a t l m b c g z (s + 1) 0 F (by rw [← hF, frN, if_neg (by omega), Nat.add_zero]) (by rw [← hF, frN, if_neg (by omega)]; omega))
      have HR : Hid (∀ w1, _ → _) := Lib.hid fun w1 hb => two_rows a t l m b c g z (p : Int) (s : Int) w (w1 := w1) hb
      have e1 : (s : Int) + 1 = ((s + 1 : Nat) : Int) := by omega
      have hsb : s + 1 ≤ 4 := by omega
      have d1 : ((p : Int) == 0) = false := by simp; omega
      have d2 : ((s : Int) == 3) = false := by simp; omega
      clear hF hs HB
      generalize s + 1 = k at *
      go_enter Tryz.func89, Tryz.ntmps89
      go_wp2_with fail
      refine (CC.out _).mono ?_
      rintro e w1 ⟨rfl, hb⟩
      have HR1 := Lib.hid (HR.out _ hb).2.2
      clear hb HR CC
      go_wp2
      go_ret
      exact ⟨rfl, HR1.out⟩
def lnN (l p s k K : Nat) : Nat := if p = 0 ∧ s = 0 then k else K % l
theorem lane_any (a t l m b c g z p s k K L : Nat) (hL : lnN l p s k K = L) (hl : 1 ≤ l) (hK : K < 4294967296) (w : World) :
    Calls Tryz.prog 88 #[spv a t l m b c g z, tuv p s, .int .i64 (k : Int), .int .u32 (K : Int)] w fun e w' => e = .returned (.int .i64 (L : Int)) ∧ Below w.heap.size w w' := by
  have HB := Lib.hid (two_box w (.cells (spc a t l m b c g z) 44) (.cells (tuc p s) 28))
  by_cases h : p = 0 ∧ s = 0
  · have h0 : L = k := by rw [← hL, lnN, if_pos h]
    obtain ⟨rfl, rfl⟩ := h
    subst h0
    clear hL
    go_enter Tryz.func88, Tryz.ntmps88
    go_wp2
    go_ret
    exact ⟨rfl, HB.out⟩
  · have h0 : K % l = L := by rw [← hL, lnN, if_neg h]
    have e1 : Int.tmod (K : Int) (l : Int) = (L : Int) := by rw [Int.tmod_eq_emod_of_nonneg (by omega), ← h0]; rfl
    have e2 : (K : Int) % (l : Int) = (L : Int) := by rw [← h0]; rfl
    have l0 : ¬ l = 0 := by omega
    have hL2 : L < l := by rw [← h0]; exact Nat.mod_lt _ (by omega)
    clear hL h0
    by_cases hp : p = 0
    · have hs : ¬ s = 0 := fun hs => h ⟨hp, hs⟩
      subst hp
      clear h
      go_enter Tryz.func88, Tryz.ntmps88
      go_wp2
      go_ret
      exact ⟨rfl, HB.out⟩
    · clear h
      go_enter Tryz.func88, Tryz.ntmps88
      go_wp2
      go_ret
      exact ⟨rfl, HB.out⟩
def reB (t l g : Nat) (p s k i : Int) : Bool := hasB t p s && (inB k 0 ((l : Int) - 1) && inB i (firN p s) ((g : Int) - 1))
theorem first_is (a t l m b c g z : Nat) (p s f : Int) (hf : firN p s = f) (w : World) : Calls Tryz.prog 43 #[spv a t l m b c g z, .int .i64 p, .int .i64 s] w fun e w' => ∃ v, e = .returned v ∧ Is (.int .i64 f) v w' ∧ Below w.heap.size w w' := by
  have C := spfirst_any a t l m b c g z p s w
  rw [hf] at C
  refine C.mono ?_
  rintro e w' ⟨rfl, hb⟩
  exact ⟨_, rfl, rfl, hb⟩
theorem has_is (a t l m b c g z : Nat) (ht : t ≤ 4294967295) (p s : Int) (x : Bool) (hx : hasB t p s = x) (w : World) : Calls Tryz.prog 42 #[spv a t l m b c g z, tuv p s] w fun e w' => ∃ v, e = .returned v ∧ Is (.bool x) v w' ∧ Below w.heap.size w w' := by
  have C := sphas_any a t l m b c g z ht p s w
  rw [hx] at C
  refine C.mono ?_
  rintro e w' ⟨rfl, hb⟩
  exact ⟨_, rfl, rfl, hb⟩
theorem within_is (n a b : Int) (x : Bool) (hx : inB n a b = x) (w : World) : Calls Tryz.prog 68 #[.int .i64 n, .int .i64 a, .int .i64 b] w fun e w' => ∃ v, e = .returned v ∧ Is (.bool x) v w' ∧ Below w.heap.size w w' := by
  refine (within_at hx w).mono ?_
  rintro e w' ⟨rfl, rfl⟩
  exact ⟨_, rfl, rfl, Below.refl _ _⟩
open Go.RowKit
abbrev sovL (x y : Nat) : Value := .agg #[.int .i64 (x : Int), .int .i64 (y : Int)]
abbrev socL (x y : Nat) : Array Value := #[.int .i64 (x : Int), .int .i64 (y : Int)]
theorem so_sizeL : (Tryz.prog.info? 30).map (·.size) = some 2 := by kernel_rfl
theorem so_store {w : World} {k : Nat} {C : Array Value} (hC : C.size = 2) {x y : Nat} (h : RowAt w k 30 C) : (storeVar 30 ⟨k, 0, none⟩ (sovL x y)).run Tryz.prog w = .ok () (w.setRow k (socL x y)) :=
  h.store so_sizeL hC (by simp [Value.oneCell'])
theorem kso (d p s : Nat) (hp : p ≤ 140737488351232) (hs : s ≤ 140737488351232) : Tryz.prog.keyLits (d + 2) 30 [.int .i64 (p : Int), .int .i64 (s : Int)] = some [.int .i64 (p : Int), .int .i64 (s : Int)] := by
  have k1 := ktu_int d p hp
  have k2 := ktu_int d s hs
  unfold Program.keyLits
  simp only [Tryz.underlying30]
  have c1 : Tryz.prog.cellsOf 30 = 2 := by kernel_rfl
  have c2 : Tryz.prog.cellsOf 3 = 1 := by kernel_rfl
  simp [c1, c2, k1, k2]
theorem so_equal (p s p' s' : Nat) (hp : p ≤ 140737488351232) (hs : s ≤ 140737488351232) (hp' : p' ≤ 140737488351232) (hs' : s' ≤ 140737488351232) (w : World) : (Op.equalIn 10000 30 (sovL p s) (sovL p' s')).run Tryz.prog w = .ok (decide (p = p' ∧ s = s')) w := by
  obtain ⟨r, q1, q2⟩ := run_equalIn_deep (P := Tryz.prog) 9990 10 30 (by kernel_rfl) w 10 10 (sovL p s) (sovL p' s') _ _ (by kernel_rfl) (by kernel_rfl) (kso 8 p s hp hs) (kso 8 p' s' hp' hs')
  have hr : r = decide (p = p' ∧ s = s') := by
    rw [Bool.eq_iff_iff, q2, decide_eq_true_eq]
    constructor
    · intro h
      simp only [List.cons.injEq, Lit.int.injEq, true_and, and_true] at h
      omega
    · rintro ⟨rfl, rfl⟩; rfl
  subst hr
  exact q1
theorem so_eql (p s p' s' : Nat) (hp : p ≤ 140737488351232) (hs : s ≤ 140737488351232) (hp' : p' ≤ 140737488351232) (hs' : s' ≤ 140737488351232) (w : World) : (binOp .eql 30 (sovL p s) (sovL p' s')).run Tryz.prog w = .ok (.bool (decide (p = p' ∧ s = s'))) w := by
  rw [run_eql_struct, so_equal p s p' s' hp hs hp' hs']; rfl
theorem g_so : Tryz.prog.eqGuardType Tryz.prog.depth 30 = false := by kernel_rfl
structure Tw (wr : World) (q r : Nat) (a t l m b c g z : Nat) (p s : Int) : Prop where
  sh : RowAt wr q 44 (spc a t l m b c g z)
  tu : RowAt wr r 28 (tuc p s)
structure TwF (wr : World) (q r : Nat) (a t l m b c g z : Nat) (p s : Int) : Prop where
  sh : (loadVar 44 ⟨q, 0, none⟩).run Tryz.prog wr = .ok (spv a t l m b c g z) wr
  tu : (loadVar 28 ⟨r, 0, none⟩).run Tryz.prog wr = .ok (tuv p s) wr
  l : wr.cell? ⟨q, 0 + 2, none⟩ = some (.int .i64 (l : Int))
  c : wr.cell? ⟨q, 0 + 5, none⟩ = some (.int .i64 (c : Int))
  g : wr.cell? ⟨q, 0 + 6, none⟩ = some (.int .i64 (g : Int))
  p : wr.cell? ⟨r, 0 + 0, none⟩ = some (.int .i64 p)
  s : wr.cell? ⟨r, 0 + 1, none⟩ = some (.int .i64 s)
section
variable {w wr w' : World} {q r a t l m b c g z : Nat} {p s : Int}
theorem Tw.on (H : Tw wr q r a t l m b c g z p s) (hb : Below wr.heap.size wr w') : Tw w' q r a t l m b c g z p s := ⟨H.sh.step hb, H.tu.step hb⟩
theorem Tw.facts (H : Tw wr q r a t l m b c g z p s) : TwF wr q r a t l m b c g z p s :=
  ⟨sp_load H.sh, tu_load H.tu, (H.sh.cell 2).trans rfl, (H.sh.cell 5).trans rfl, (H.sh.cell 6).trans rfl, (H.tu.cell 0).trans rfl, (H.tu.cell 1).trans rfl⟩
theorem Tw.later (H : Tw wr q r a t l m b c g z p s) : Hid (∀ w', Below wr.heap.size wr w' → TwF w' q r a t l m b c g z p s) := Lib.hid fun _ hb => (H.on hb).facts
theorem tw_new (a t l m b c g z : Nat) (p s : Int) (w : World) : Tw ((w.alloc (.cells (spc a t l m b c g z) 44)).alloc (.cells (tuc p s) 28)) w.heap.size (w.heap.size + 1) a t l m b c g z p s := by
  have H := two_rows a t l m b c g z p s w (Below.refl _ _)
  exact ⟨H.1, H.2.1⟩
end
section
variable {P : Program} {o : Oper} {a : Act} {w : World} {Q : Exit → Act → World → Prop} {p : Value → World → Prop} {f : FuncId} {x y z u t : Operand} {ts : Array TypeId} {v1 v2 v3 v4 v5 : Value}
theorem op_call4L (ho : o.op = .call { callee := .value (.func f), args := #[x, y, z, u], argTypes := ts }) (he : ∀ (args : Array Value) (w : World), (callFunc f args).run P w = .ok (.enter f args) w)
    (hx : a.eval x = v1) (hy : a.eval y = v2) (hz : a.eval z = v3) (hu : a.eval u = v4) (hc : Calls P f #[v1, v2, v3, v4] w fun e w' => ∃ v, e = .returned v ∧ p v w' ∧ Below w.heap.size w w') : Does P p o a w Q := by
  subst hx; subst hy; subst hz; subst hu
  exact op_call ho he hc
end
theorem calls_isL {P : Program} {f : FuncId} {args : Array Value} {w : World} {v : Value} (h : Calls P f args w fun e w' => e = .returned v ∧ Below w.heap.size w w') : Calls P f args w fun e w' => ∃ u, e = .returned u ∧ Is v u w' ∧ Below w.heap.size w w' := by
  refine h.mono ?_
  rintro e w' ⟨rfl, hb⟩
  exact ⟨_, rfl, rfl, hb⟩
theorem calls_sameL {P : Program} {f : FuncId} {args : Array Value} {w : World} {v : Value} (h : Calls P f args w fun e w' => e = .returned v ∧ w = w') : Calls P f args w fun e w' => ∃ u, e = .returned u ∧ Is v u w' ∧ Below w.heap.size w w' := by
  refine h.mono ?_
  rintro e w' ⟨rfl, rfl⟩
  exact ⟨_, rfl, rfl, Below.refl _ _⟩
open Go.RowKit
set_option maxHeartbeats 3200000 in
theorem refers_no (a t l m b c g z : Nat) (p s k i : Int) (hx : hasB t p s = false) (ht : t ≤ 4294967295) (w : World) :
    Calls Tryz.prog 87 #[spv a t l m b c g z, tuv p s, .int .i64 k, .int .i64 i] w fun e w' => e = .returned (.bool false) ∧ Below w.heap.size w w' := by
  have CH := Lib.hid (has_is a t l m b c g z ht p s _ hx)
  have HT := Lib.hid (tw_new a t l m b c g z p s w)
  have HB := Lib.hid (two_box w (.cells (spc a t l m b c g z) 44) (.cells (tuc p s) 28))
  clear hx
  go_enter Tryz.func87, Tryz.ntmps87
  go_wp2_with fail
  generalize World.alloc (World.alloc w _) _ = w2 at *
  have HC := HT.out.later
  clear HT
  generalize hr : w.heap.size + 1 = r at *
  generalize hq : w.heap.size = q at *
  refine wp_region_text [Is (spv a t l m b c g z), Is (tuv p s), Is (.bool false), Is (.bool false), Is undef, Is undef, Is undef, Is undef, Is undef, Is (.bool false), Is (.bool false), Is undef, Is undef, Is undef, Is undef, Is undef, Is undef, Is undef, Is undef, Is undef, Is undef, Is undef, Is (.bool false), Is (.bool false)] (by kernel_rfl) (by kernel_rfl) rfl ⟨stable_is _, stable_is _, stable_is _, stable_is _, stable_is _, stable_is _, stable_is _, stable_is _, stable_is _, stable_is _, stable_is _, stable_is _, stable_is _, stable_is _, stable_is _, stable_is _, stable_is _, stable_is _, stable_is _, stable_is _, stable_is _, stable_is _, stable_is _, stable_is _, trivial⟩ ⟨?_, ?_, ?_, ?_, ?_, ?_, ?_, ?_, ?_, ?_, ?_, ?_, ?_, ?_, ?_, ?_, ?_, ?_, ?_, ?_, ?_, ?_, ?_, ?_, trivial⟩ ?_
  · intro a w C
    exact part_on (wanted_free rfl _) (op_value (load_runS rfl (C.was 4 (by kernel_rfl)) (HC.out w C.below).sh) rfl)
  · intro a w C
    exact part_on (wanted_free rfl _) (op_value (load_runS rfl (C.was 5 (by kernel_rfl)) (HC.out w C.below).tu) rfl)
  · intro a w C
    exact part_on (wanted_free rfl _) (op_call2 rfl (reg_enters Tryz.func42 (by kernel_rfl) (by kernel_rfl)) (C.on (j := 0) (by kernel_rfl) rfl rfl) (C.on (j := 1) (by kernel_rfl) rfl rfl) (CH.out w))
  · intro a w C
    exact part_on (wanted_free rfl _) (op_move (.inl rfl) (C.on (j := 2) (by kernel_rfl) rfl rfl))
  · intro a w C
    exact part_off (wanted_off (j := 3) rfl rfl rfl (C.on (j := 3) (by kernel_rfl) rfl rfl)) rfl
  · intro a w C
    exact part_off (wanted_off (j := 3) rfl rfl rfl (C.on (j := 3) (by kernel_rfl) rfl rfl)) rfl
  · intro a w C
    exact part_off (wanted_off (j := 3) rfl rfl rfl (C.on (j := 3) (by kernel_rfl) rfl rfl)) rfl
  · intro a w C
    exact part_off (wanted_off (j := 3) rfl rfl rfl (C.on (j := 3) (by kernel_rfl) rfl rfl)) rfl
  · intro a w C
    exact part_off (wanted_off (j := 3) rfl rfl rfl (C.on (j := 3) (by kernel_rfl) rfl rfl)) rfl
  · intro a w C
    exact part_on (wanted_free rfl _) (op_pick (k := false) rfl (C.on (j := 3) (by kernel_rfl) rfl rfl) rfl)
  · intro a w C
    exact part_on (wanted_free rfl _) (op_move (.inl rfl) (C.on (j := 9) (by kernel_rfl) rfl rfl))
  · intro a w C
    exact part_off (wanted_off (j := 10) rfl rfl rfl (C.on (j := 10) (by kernel_rfl) rfl rfl)) rfl
  · intro a w C
    exact part_off (wanted_off (j := 10) rfl rfl rfl (C.on (j := 10) (by kernel_rfl) rfl rfl)) rfl
  · intro a w C
    exact part_off (wanted_off (j := 10) rfl rfl rfl (C.on (j := 10) (by kernel_rfl) rfl rfl)) rfl
  · intro a w C
    exact part_off (wanted_off (j := 10) rfl rfl rfl (C.on (j := 10) (by kernel_rfl) rfl rfl)) rfl
  · intro a w C
    exact part_off (wanted_off (j := 10) rfl rfl rfl (C.on (j := 10) (by kernel_rfl) rfl rfl)) rfl
  · intro a w C
    exact part_off (wanted_off (j := 10) rfl rfl rfl (C.on (j := 10) (by kernel_rfl) rfl rfl)) rfl
  · intro a w C
    exact part_off (wanted_off (j := 10) rfl rfl rfl (C.on (j := 10) (by kernel_rfl) rfl rfl)) rfl
  · intro a w C
    exact part_off (wanted_off (j := 10) rfl rfl rfl (C.on (j := 10) (by kernel_rfl) rfl rfl)) rfl
  · intro a w C
    exact part_off (wanted_off (j := 10) rfl rfl rfl (C.on (j := 10) (by kernel_rfl) rfl rfl)) rfl
  · intro a w C
    exact part_off (wanted_off (j := 10) rfl rfl rfl (C.on (j := 10) (by kernel_rfl) rfl rfl)) rfl
  · intro a w C
    exact part_off (wanted_off (j := 10) rfl rfl rfl (C.on (j := 10) (by kernel_rfl) rfl rfl)) rfl
  · intro a w C
    exact part_on (wanted_free rfl _) (op_pick (k := false) rfl (C.on (j := 10) (by kernel_rfl) rfl rfl) rfl)
  · intro a w C
    exact part_on (wanted_free rfl _) (op_move (.inr rfl) (C.on (j := 22) (by kernel_rfl) rfl rfl))
  rintro wF hbF _ rfl _ rfl _ rfl _ rfl _ rfl _ rfl _ rfl _ rfl _ rfl _ rfl _ rfl _ rfl _ rfl _ rfl _ rfl _ rfl _ rfl _ rfl _ rfl _ rfl _ rfl _ rfl _ rfl _ rfl
  simp only [Fin, setAt, Exit.then, List.setIfInBounds_toArray, List.set_cons_succ, List.set_cons_zero]
  subst hq
  have HBF := Lib.hid (HB.out.trans (hbF.mono HB.out.size))
  clear hbF HC HB
  go_wp2
  go_ret
  exact ⟨rfl, HBF.out⟩
set_option maxHeartbeats 3200000 in
theorem refers_lane (a t l m b c g z : Nat) (p s k i : Int) (hx : hasB t p s = true) (hy : inB k 0 ((l : Int) - 1) = false) (ht : t ≤ 4294967295) (hl : l ≤ 4294967295) (w : World) :
    Calls Tryz.prog 87 #[spv a t l m b c g z, tuv p s, .int .i64 k, .int .i64 i] w fun e w' => e = .returned (.bool false) ∧ Below w.heap.size w w' := by
  have CH := Lib.hid (has_is a t l m b c g z ht p s _ hx)
  have CL := Lib.hid (within_is k 0 _ _ hy)
  have HT := Lib.hid (tw_new a t l m b c g z p s w)
  have HB := Lib.hid (two_box w (.cells (spc a t l m b c g z) 44) (.cells (tuc p s) 28))
  clear hx hy
  go_enter Tryz.func87, Tryz.ntmps87
  go_wp2_with fail
  generalize World.alloc (World.alloc w _) _ = w2 at *
  have HC := HT.out.later
  clear HT
  generalize hr : w.heap.size + 1 = r at *
  generalize hq : w.heap.size = q at *
  refine wp_region_text [Is (spv a t l m b c g z), Is (tuv p s), Is (.bool true), Is (.bool true), Is (.int .i64 k), Is (.pointer (some ⟨q, 0 + 2, none⟩)), Is (.int .i64 (l : Int)), Is (.int .i64 ((l : Int) - 1)), Is (.bool false), Is (.bool false), Is (.bool false), Is undef, Is undef, Is undef, Is undef, Is undef, Is undef, Is undef, Is undef, Is undef, Is undef, Is undef, Is (.bool false), Is (.bool false)] (by kernel_rfl) (by kernel_rfl) rfl ⟨stable_is _, stable_is _, stable_is _, stable_is _, stable_is _, stable_is _, stable_is _, stable_is _, stable_is _, stable_is _, stable_is _, stable_is _, stable_is _, stable_is _, stable_is _, stable_is _, stable_is _, stable_is _, stable_is _, stable_is _, stable_is _, stable_is _, stable_is _, stable_is _, trivial⟩ ⟨?_, ?_, ?_, ?_, ?_, ?_, ?_, ?_, ?_, ?_, ?_, ?_, ?_, ?_, ?_, ?_, ?_, ?_, ?_, ?_, ?_, ?_, ?_, ?_, trivial⟩ ?_
  · intro a w C
    exact part_on (wanted_free rfl _) (op_value (load_runS rfl (C.was 4 (by kernel_rfl)) (HC.out w C.below).sh) rfl)
  · intro a w C
    exact part_on (wanted_free rfl _) (op_value (load_runS rfl (C.was 5 (by kernel_rfl)) (HC.out w C.below).tu) rfl)
  · intro a w C
    exact part_on (wanted_free rfl _) (op_call2 rfl (reg_enters Tryz.func42 (by kernel_rfl) (by kernel_rfl)) (C.on (j := 0) (by kernel_rfl) rfl rfl) (C.on (j := 1) (by kernel_rfl) rfl rfl) (CH.out w))
  · intro a w C
    exact part_on (wanted_free rfl _) (op_move (.inl rfl) (C.on (j := 2) (by kernel_rfl) rfl rfl))
  · intro a w C
    exact part_on (wanted_on (j := 3) rfl rfl rfl (C.on (j := 3) (by kernel_rfl) rfl rfl)) (op_move (.inl rfl) (C.was 2 (by kernel_rfl)))
  · intro a w C
    exact part_on (wanted_on (j := 3) rfl rfl rfl (C.on (j := 3) (by kernel_rfl) rfl rfl)) (op_value (spf_run (k := 2) rfl (by decide) (C.was 4 (by kernel_rfl))) rfl)
  · intro a w C
    exact part_on (wanted_on (j := 3) rfl rfl rfl (C.on (j := 3) (by kernel_rfl) rfl rfl)) (op_value (int_runS rfl (C.on (j := 5) (by kernel_rfl) rfl rfl) (HC.out w C.below).l) rfl)
  · intro a w C
    exact part_on (wanted_on (j := 3) rfl rfl rfl (C.on (j := 3) (by kernel_rfl) rfl rfl)) (op_bin rfl (C.on (j := 6) (by kernel_rfl) rfl rfl) rfl rfl (sub_runS w _ _ _ rfl (by omega) (by omega)) rfl)
  · intro a w C
    exact part_on (wanted_on (j := 3) rfl rfl rfl (C.on (j := 3) (by kernel_rfl) rfl rfl)) (op_call3S rfl (reg_enters Tryz.func68 (by kernel_rfl) (by kernel_rfl)) (C.on (j := 4) (by kernel_rfl) rfl rfl) rfl (C.on (j := 7) (by kernel_rfl) rfl rfl) (CL.out w))
  · intro a w C
    exact part_on (wanted_free rfl _) (op_pick (k := true) rfl (C.on (j := 3) (by kernel_rfl) rfl rfl) (C.on (j := 8) (by kernel_rfl) rfl rfl))
  · intro a w C
    exact part_on (wanted_free rfl _) (op_move (.inl rfl) (C.on (j := 9) (by kernel_rfl) rfl rfl))
  · intro a w C
    exact part_off (wanted_off (j := 10) rfl rfl rfl (C.on (j := 10) (by kernel_rfl) rfl rfl)) rfl
  · intro a w C
    exact part_off (wanted_off (j := 10) rfl rfl rfl (C.on (j := 10) (by kernel_rfl) rfl rfl)) rfl
  · intro a w C
    exact part_off (wanted_off (j := 10) rfl rfl rfl (C.on (j := 10) (by kernel_rfl) rfl rfl)) rfl
  · intro a w C
    exact part_off (wanted_off (j := 10) rfl rfl rfl (C.on (j := 10) (by kernel_rfl) rfl rfl)) rfl
  · intro a w C
    exact part_off (wanted_off (j := 10) rfl rfl rfl (C.on (j := 10) (by kernel_rfl) rfl rfl)) rfl
  · intro a w C
    exact part_off (wanted_off (j := 10) rfl rfl rfl (C.on (j := 10) (by kernel_rfl) rfl rfl)) rfl
  · intro a w C
    exact part_off (wanted_off (j := 10) rfl rfl rfl (C.on (j := 10) (by kernel_rfl) rfl rfl)) rfl
  · intro a w C
    exact part_off (wanted_off (j := 10) rfl rfl rfl (C.on (j := 10) (by kernel_rfl) rfl rfl)) rfl
  · intro a w C
    exact part_off (wanted_off (j := 10) rfl rfl rfl (C.on (j := 10) (by kernel_rfl) rfl rfl)) rfl
  · intro a w C
    exact part_off (wanted_off (j := 10) rfl rfl rfl (C.on (j := 10) (by kernel_rfl) rfl rfl)) rfl
  · intro a w C
    exact part_off (wanted_off (j := 10) rfl rfl rfl (C.on (j := 10) (by kernel_rfl) rfl rfl)) rfl
  · intro a w C
    exact part_on (wanted_free rfl _) (op_pick (k := false) rfl (C.on (j := 10) (by kernel_rfl) rfl rfl) rfl)
  · intro a w C
    exact part_on (wanted_free rfl _) (op_move (.inr rfl) (C.on (j := 22) (by kernel_rfl) rfl rfl))
  rintro wF hbF _ rfl _ rfl _ rfl _ rfl _ rfl _ rfl _ rfl _ rfl _ rfl _ rfl _ rfl _ rfl _ rfl _ rfl _ rfl _ rfl _ rfl _ rfl _ rfl _ rfl _ rfl _ rfl _ rfl _ rfl
  simp only [Fin, setAt, Exit.then, List.setIfInBounds_toArray, List.set_cons_succ, List.set_cons_zero]
  subst hq
  have HBF := Lib.hid (HB.out.trans (hbF.mono HB.out.size))
  clear hbF HC HB
  go_wp2
  go_ret
  exact ⟨rfl, HBF.out⟩
set_option maxHeartbeats 3200000 in
theorem refers_walk (a t l m b c g z : Nat) (p s k i f : Int) (hf : firN p s = f) (x : Bool) (hx : hasB t p s = true) (hy : inB k 0 ((l : Int) - 1) = true) (hz : inB i f ((g : Int) - 1) = x) (ht : t ≤ 4294967295) (hl : l ≤ 4294967295) (hg : g ≤ 4294967295) (w : World) :
    Calls Tryz.prog 87 #[spv a t l m b c g z, tuv p s, .int .i64 k, .int .i64 i] w fun e w' => e = .returned (.bool x) ∧ Below w.heap.size w w' := by
  have CH := Lib.hid (has_is a t l m b c g z ht p s _ hx)
  have CL := Lib.hid (within_is k 0 _ _ hy)
  have CI := Lib.hid (within_is i f _ _ hz)
  have CF := Lib.hid (first_is a t l m b c g z p s f hf)
  have HT := Lib.hid (tw_new a t l m b c g z p s w)
  have HB := Lib.hid (two_box w (.cells (spc a t l m b c g z) 44) (.cells (tuc p s) 28))
  clear hx hy hz hf
  go_enter Tryz.func87, Tryz.ntmps87
  go_wp2_with fail
  generalize World.alloc (World.alloc w _) _ = w2 at *
  have HC := HT.out.later
  clear HT
  generalize hr : w.heap.size + 1 = r at *
  generalize hq : w.heap.size = q at *
  refine wp_region_text [Is (spv a t l m b c g z), Is (tuv p s), Is (.bool true), Is (.bool true), Is (.int .i64 k), Is (.pointer (some ⟨q, 0 + 2, none⟩)), Is (.int .i64 (l : Int)), Is (.int .i64 ((l : Int) - 1)), Is (.bool true), Is (.bool true), Is (.bool true), Is (.int .i64 i), Is (spv a t l m b c g z), Is (.pointer (some ⟨r, 0 + 0, none⟩)), Is (.int .i64 p), Is (.pointer (some ⟨r, 0 + 1, none⟩)), Is (.int .i64 s), Is (.int .i64 f), Is (.pointer (some ⟨q, 0 + 6, none⟩)), Is (.int .i64 (g : Int)), Is (.int .i64 ((g : Int) - 1)), Is (.bool x), Is (.bool x), Is (.bool x)] (by kernel_rfl) (by kernel_rfl) rfl ⟨stable_is _, stable_is _, stable_is _, stable_is _, stable_is _, stable_is _, stable_is _, stable_is _, stable_is _, stable_is _, stable_is _, stable_is _, stable_is _, stable_is _, stable_is _, stable_is _, stable_is _, stable_is _, stable_is _, stable_is _, stable_is _, stable_is _, stable_is _, stable_is _, trivial⟩ ⟨?_, ?_, ?_, ?_, ?_, ?_, ?_, ?_, ?_, ?_, ?_, ?_, ?_, ?_, ?_, ?_, ?_, ?_, ?_, ?_, ?_, ?_, ?_, ?_, trivial⟩ ?_
  · intro a w C
    exact part_on (wanted_free rfl _) (op_value (load_runS rfl (C.was 4 (by kernel_rfl)) (HC.out w C.below).sh) rfl)
  · intro a w C
    exact part_on (wanted_free rfl _) (op_value (load_runS rfl (C.was 5 (by kernel_rfl)) (HC.out w C.below).tu) rfl)
  · intro a w C
    exact part_on (wanted_free rfl _) (op_call2 rfl (reg_enters Tryz.func42 (by kernel_rfl) (by kernel_rfl)) (C.on (j := 0) (by kernel_rfl) rfl rfl) (C.on (j := 1) (by kernel_rfl) rfl rfl) (CH.out w))
  · intro a w C
    exact part_on (wanted_free rfl _) (op_move (.inl rfl) (C.on (j := 2) (by kernel_rfl) rfl rfl))
  · intro a w C
    exact part_on (wanted_on (j := 3) rfl rfl rfl (C.on (j := 3) (by kernel_rfl) rfl rfl)) (op_move (.inl rfl) (C.was 2 (by kernel_rfl)))
  · intro a w C
    exact part_on (wanted_on (j := 3) rfl rfl rfl (C.on (j := 3) (by kernel_rfl) rfl rfl)) (op_value (spf_run (k := 2) rfl (by decide) (C.was 4 (by kernel_rfl))) rfl)
  · intro a w C
    exact part_on (wanted_on (j := 3) rfl rfl rfl (C.on (j := 3) (by kernel_rfl) rfl rfl)) (op_value (int_runS rfl (C.on (j := 5) (by kernel_rfl) rfl rfl) (HC.out w C.below).l) rfl)
  · intro a w C
    exact part_on (wanted_on (j := 3) rfl rfl rfl (C.on (j := 3) (by kernel_rfl) rfl rfl)) (op_bin rfl (C.on (j := 6) (by kernel_rfl) rfl rfl) rfl rfl (sub_runS w _ _ _ rfl (by omega) (by omega)) rfl)
  · intro a w C
    exact part_on (wanted_on (j := 3) rfl rfl rfl (C.on (j := 3) (by kernel_rfl) rfl rfl)) (op_call3S rfl (reg_enters Tryz.func68 (by kernel_rfl) (by kernel_rfl)) (C.on (j := 4) (by kernel_rfl) rfl rfl) rfl (C.on (j := 7) (by kernel_rfl) rfl rfl) (CL.out w))
  · intro a w C
    exact part_on (wanted_free rfl _) (op_pick (k := true) rfl (C.on (j := 3) (by kernel_rfl) rfl rfl) (C.on (j := 8) (by kernel_rfl) rfl rfl))
  · intro a w C
    exact part_on (wanted_free rfl _) (op_move (.inl rfl) (C.on (j := 9) (by kernel_rfl) rfl rfl))
  · intro a w C
    exact part_on (wanted_on (j := 10) rfl rfl rfl (C.on (j := 10) (by kernel_rfl) rfl rfl)) (op_move (.inl rfl) (C.was 3 (by kernel_rfl)))
  · intro a w C
    exact part_on (wanted_on (j := 10) rfl rfl rfl (C.on (j := 10) (by kernel_rfl) rfl rfl)) (op_value (load_runS rfl (C.was 4 (by kernel_rfl)) (HC.out w C.below).sh) rfl)
  · intro a w C
    exact part_on (wanted_on (j := 10) rfl rfl rfl (C.on (j := 10) (by kernel_rfl) rfl rfl)) (op_value (tuf_run (k := 0) rfl (by decide) (C.was 5 (by kernel_rfl))) rfl)
  · intro a w C
    exact part_on (wanted_on (j := 10) rfl rfl rfl (C.on (j := 10) (by kernel_rfl) rfl rfl)) (op_value (int_runS rfl (C.on (j := 13) (by kernel_rfl) rfl rfl) (HC.out w C.below).p) rfl)
  · intro a w C
    exact part_on (wanted_on (j := 10) rfl rfl rfl (C.on (j := 10) (by kernel_rfl) rfl rfl)) (op_value (tuf_run (k := 1) rfl (by decide) (C.was 5 (by kernel_rfl))) rfl)
  · intro a w C
    exact part_on (wanted_on (j := 10) rfl rfl rfl (C.on (j := 10) (by kernel_rfl) rfl rfl)) (op_value (int_runS rfl (C.on (j := 15) (by kernel_rfl) rfl rfl) (HC.out w C.below).s) rfl)
  · intro a w C
    exact part_on (wanted_on (j := 10) rfl rfl rfl (C.on (j := 10) (by kernel_rfl) rfl rfl)) (op_call3S rfl (reg_enters Tryz.func43 (by kernel_rfl) (by kernel_rfl)) (C.on (j := 12) (by kernel_rfl) rfl rfl) (C.on (j := 14) (by kernel_rfl) rfl rfl) (C.on (j := 16) (by kernel_rfl) rfl rfl) (CF.out w))
  · intro a w C
    exact part_on (wanted_on (j := 10) rfl rfl rfl (C.on (j := 10) (by kernel_rfl) rfl rfl)) (op_value (spf_run (k := 6) rfl (by decide) (C.was 4 (by kernel_rfl))) rfl)
  · intro a w C
    exact part_on (wanted_on (j := 10) rfl rfl rfl (C.on (j := 10) (by kernel_rfl) rfl rfl)) (op_value (int_runS rfl (C.on (j := 18) (by kernel_rfl) rfl rfl) (HC.out w C.below).g) rfl)
  · intro a w C
    exact part_on (wanted_on (j := 10) rfl rfl rfl (C.on (j := 10) (by kernel_rfl) rfl rfl)) (op_bin rfl (C.on (j := 19) (by kernel_rfl) rfl rfl) rfl rfl (sub_runS w _ _ _ rfl (by omega) (by omega)) rfl)
  · intro a w C
    exact part_on (wanted_on (j := 10) rfl rfl rfl (C.on (j := 10) (by kernel_rfl) rfl rfl)) (op_call3S rfl (reg_enters Tryz.func68 (by kernel_rfl) (by kernel_rfl)) (C.on (j := 11) (by kernel_rfl) rfl rfl) (C.on (j := 17) (by kernel_rfl) rfl rfl) (C.on (j := 20) (by kernel_rfl) rfl rfl) (CI.out w))
  · intro a w C
    exact part_on (wanted_free rfl _) (op_pick (k := true) rfl (C.on (j := 10) (by kernel_rfl) rfl rfl) (C.on (j := 21) (by kernel_rfl) rfl rfl))
  · intro a w C
    exact part_on (wanted_free rfl _) (op_move (.inr rfl) (C.on (j := 22) (by kernel_rfl) rfl rfl))
  rintro wF hbF _ rfl _ rfl _ rfl _ rfl _ rfl _ rfl _ rfl _ rfl _ rfl _ rfl _ rfl _ rfl _ rfl _ rfl _ rfl _ rfl _ rfl _ rfl _ rfl _ rfl _ rfl _ rfl _ rfl _ rfl
  simp only [Fin, setAt, Exit.then, List.setIfInBounds_toArray, List.set_cons_succ, List.set_cons_zero]
  subst hq
  have HBF := Lib.hid (HB.out.trans (hbF.mono HB.out.size))
  clear hbF HC HB
  go_wp2
  go_ret
  exact ⟨rfl, HBF.out⟩
theorem refers_any (a t l m b c g z : Nat) (p s k i : Int) (ht : t ≤ 4294967295) (hl : l ≤ 4294967295) (hg : g ≤ 4294967295) (x : Bool) (hx : reB t l g p s k i = x) (w : World) :
    Calls Tryz.prog 87 #[spv a t l m b c g z, tuv p s, .int .i64 k, .int .i64 i] w fun e w' => e = .returned (.bool x) ∧ Below w.heap.size w w' := by
  unfold reB at hx
  cases h1 : hasB t p s
  · rw [h1, Bool.false_and] at hx
    subst hx
    exact refers_no a t l m b c g z p s k i h1 ht w
  · cases h2 : inB k 0 ((l : Int) - 1)
    · rw [h1, h2, Bool.false_and, Bool.and_false] at hx
      subst hx
      exact refers_lane a t l m b c g z p s k i h1 h2 ht hl w
    · rw [h1, h2, Bool.true_and, Bool.true_and] at hx
      exact refers_walk a t l m b c g z p s k i _ rfl x h1 h2 hx ht hl hg w
open Go.RowKit
structure Th (w wr : World) (q r e : Nat) (a t l m b c g z : Nat) (p s : Int) (x y : Nat) : Prop where
  tw : Tw wr q r a t l m b c g z p s
  so : RowAt wr e 30 (socL x y)
  le : w.heap.size ≤ e
  below : Below w.heap.size w wr
section
variable {w wr w' : World} {q r e a t l m b c g z x y : Nat} {p s : Int}
theorem Th.on (H : Th w wr q r e a t l m b c g z p s x y) (hb : Below wr.heap.size wr w') : Th w w' q r e a t l m b c g z p s x y := ⟨H.tw.on hb, H.so.step hb, H.le, H.below.trans (hb.mono H.below.size)⟩
theorem Th.set (H : Th w wr q r e a t l m b c g z p s x y) (x' y' : Nat) : RowAt (wr.setRow e (socL x' y')) e 30 (socL x' y') ∧ Below w.heap.size w (wr.setRow e (socL x' y')) := ⟨H.so.setRow _, below_setRow H.below H.le _⟩
theorem th_new (a t l m b c g z : Nat) (p s : Int) (w : World) : Th w (((w.alloc (.cells (spc a t l m b c g z) 44)).alloc (.cells (tuc p s) 28)).alloc (.cells (socL 0 0) 30)) w.heap.size (w.heap.size + 1) (w.heap.size + 1 + 1) a t l m b c g z p s 0 0 := by
  have H := tw_new a t l m b c g z p s w
  have s2 : ((w.alloc (.cells (spc a t l m b c g z) 44)).alloc (.cells (tuc p s) 28)).heap.size = w.heap.size + 1 + 1 := by simp [World.size_alloc]
  refine ⟨⟨H.sh.alloc _, H.tu.alloc _⟩, ?_, by omega, (two_box w _ _).alloc (by rw [s2]; omega) _⟩
  have := RowAt.new ((w.alloc (.cells (spc a t l m b c g z) 44)).alloc (.cells (tuc p s) 28)) 30 (socL 0 0)
  rwa [s2] at this
end
set_option maxHeartbeats 6400000 in
theorem plof_walk (a t l m b c g z p s k i J K L F B A Y C : Nat) (O : Bool) (ht : t ≤ 4294967295) (hl1 : 1 ≤ l) (hl : l ≤ 4294967295) (hg : g ≤ c) (hc : c ≤ 4294967295) (hs3 : s ≤ 3) (hs : (s + 1) * g ≤ 4294967296) (hi : i ≤ 4294967296) (hJ : J < 4294967296) (hK : K < 4294967296)
    (hx : reB t l g p s k i = true) (hL : lnN l p s k K = L) (hF : frN g p s = F) (hB : bsN c g p s = B) (hO : decide (L = k) = O) (hA : arI B i O = (A : Int)) (hA1 : 1 ≤ A) (hA2 : A ≤ 4294967296) (hY : piN A J = Y)
    (hC : (if c ≤ F + Y then F + Y - c else F + Y) = C) (hFb : F ≤ 4294967296) (w : World) :
    Calls Tryz.prog 64 #[spv a t l m b c g z, tuv p s, .int .i64 (k : Int), .int .i64 (i : Int), .int .u32 (J : Int), .int .u32 (K : Int)] w fun e w' => e = .returned (.tuple #[sovL L C, .int .i64 0]) ∧ Below w.heap.size w w' := by
  have CR := Lib.hid (refers_any a t l m b c g z p s k i ht hl (by omega) _ hx)
  have CL := Lib.hid (lane_any a t l m b c g z p s k K L hL hl1 hK)
  have CF := Lib.hid fun w => calls_isL (from_anyL a t l m b c g z p s F hF hs hs3 w)
  have hs1 : s * g ≤ 4294967296 := Nat.le_trans (Nat.mul_le_mul_right _ (by omega)) hs
  have CA := Lib.hid fun w => calls_isL (area_any a t l m b c g z p s i B O hB hg (by omega) hs1 hi w)
  rw [hA] at CA
  have CP := Lib.hid fun w => calls_sameL (pick_any A J hA1 hA2 hJ w)
  have hYb : Y ≤ 4294967296 := by have := pi_lt (A := A) (J := J) hA1; omega
  rw [hY] at CP
  have HT := Lib.hid (th_new a t l m b c g z (p : Int) (s : Int) w)
  have HCC := Lib.hid hC
  have heq : ∀ w : World, (binOp .eql 3 (.int .i64 (L : Int)) (.int .i64 (k : Int))).run Tryz.prog w = .ok (.bool O) w := fun w => by
    rw [← hO]
    simp [go_sem]
    by_cases h : L = k
    · simp [h]
    · simp [h]
      omega
  clear hx hL hF hB hO hA hY hC hs hs1
  go_enter Tryz.func64, Tryz.ntmps64
  go_wp2_with fail
  refine (CR.out _).mono ?_
  rintro e w3 ⟨rfl, hb⟩
  have HT3 := Lib.hid (HT.out.on hb)
  clear hb HT CR
  generalize w.heap.size + 1 + 1 = d at *
  generalize w.heap.size + 1 = r at *
  generalize hq : w.heap.size = q at *
  have hf3 := HT3.out.tw.facts
  have f1 := hf3.sh
  have f2 := hf3.tu
  clear hf3
  go_wp2_with (first | refine wpList_load_want rfl 44 _ rfl _ _ rfl f1 ?_ | refine wpList_load_want rfl 28 _ rfl _ _ rfl f2 ?_)
  refine (CL.out _).mono ?_
  rintro e w4 ⟨rfl, hb⟩
  have HT4 := Lib.hid (HT3.out.on hb)
  clear hb HT3 CL f1 f2
  have HC := HT4.out.tw.later
  go_wp2_with fail
  refine wp_region_text [Is (spv a t l m b c g z), Is (tuv (p : Int) (s : Int)), Is (.int .i64 (F : Int)), Is (spv a t l m b c g z), Is (tuv (p : Int) (s : Int)), Is (.int .i64 (i : Int)), Is (.int .i64 (L : Int)), Is (.int .i64 (k : Int)), Is (.bool O), Is (.int .i64 (A : Int)), Is (.int .u32 (J : Int)), Is (.int .i64 (Y : Int)), Is (.int .i64 ((F + Y : Nat) : Int)), Is (.int .i64 ((F + Y : Nat) : Int))] (by kernel_rfl) (by kernel_rfl) rfl ⟨stable_is _, stable_is _, stable_is _, stable_is _, stable_is _, stable_is _, stable_is _, stable_is _, stable_is _, stable_is _, stable_is _, stable_is _, stable_is _, stable_is _, trivial⟩ ⟨?_, ?_, ?_, ?_, ?_, ?_, ?_, ?_, ?_, ?_, ?_, ?_, ?_, ?_, trivial⟩ ?_
  · intro a w C
    exact part_on (wanted_free rfl _) (op_value (load_runS rfl (C.was 6 (by kernel_rfl)) (HC.out w C.below).sh) rfl)
  · intro a w C
    exact part_on (wanted_free rfl _) (op_value (load_runS rfl (C.was 7 (by kernel_rfl)) (HC.out w C.below).tu) rfl)
  · intro a w C
    exact part_on (wanted_free rfl _) (op_call2 rfl (reg_enters Tryz.func89 (by kernel_rfl) (by kernel_rfl)) (C.on (j := 0) (by kernel_rfl) rfl rfl) (C.on (j := 1) (by kernel_rfl) rfl rfl) (CF.out w))
  · intro a w C
    exact part_on (wanted_free rfl _) (op_value (load_runS rfl (C.was 6 (by kernel_rfl)) (HC.out w C.below).sh) rfl)
  · intro a w C
    exact part_on (wanted_free rfl _) (op_value (load_runS rfl (C.was 7 (by kernel_rfl)) (HC.out w C.below).tu) rfl)
  · intro a w C
    exact part_on (wanted_free rfl _) (op_move (.inl rfl) (C.was 3 (by kernel_rfl)))
  · intro a w C
    exact part_on (wanted_free rfl _) (op_move (.inl rfl) (C.was 14 (by kernel_rfl)))
  · intro a w C
    exact part_on (wanted_free rfl _) (op_move (.inl rfl) (C.was 2 (by kernel_rfl)))
  · intro a w C
    exact part_on (wanted_free rfl _) (op_bin rfl (C.on (j := 6) (by kernel_rfl) rfl rfl) (C.on (j := 7) (by kernel_rfl) rfl rfl) rfl (heq w) rfl)
  · intro a w C
    exact part_on (wanted_free rfl _) (op_call4L rfl (reg_enters Tryz.func91 (by kernel_rfl) (by kernel_rfl)) (C.on (j := 3) (by kernel_rfl) rfl rfl) (C.on (j := 4) (by kernel_rfl) rfl rfl) (C.on (j := 5) (by kernel_rfl) rfl rfl) (C.on (j := 8) (by kernel_rfl) rfl rfl) (CA.out w))
  · intro a w C
    exact part_on (wanted_free rfl _) (op_move (.inl rfl) (C.was 4 (by kernel_rfl)))
  · intro a w C
    exact part_on (wanted_free rfl _) (op_call2 rfl (reg_enters Tryz.func90 (by kernel_rfl) (by kernel_rfl)) (C.on (j := 9) (by kernel_rfl) rfl rfl) (C.on (j := 10) (by kernel_rfl) rfl rfl) (CP.out w))
  · intro a w C
    exact part_on (wanted_free rfl _) (op_bin rfl (C.on (j := 2) (by kernel_rfl) rfl rfl) (C.on (j := 11) (by kernel_rfl) rfl rfl) rfl (add_run w _ _ _ (by omega) (by omega) (by omega)) rfl)
  · intro a w C
    exact part_on (wanted_free rfl _) (op_move (.inr rfl) (C.on (j := 12) (by kernel_rfl) rfl rfl))
  rintro wF hbF _ rfl _ rfl _ rfl _ rfl _ rfl _ rfl _ rfl _ rfl _ rfl _ rfl _ rfl _ rfl _ rfl _ rfl
  simp only [Fin, setAt, Exit.then, List.setIfInBounds_toArray, List.set_cons_succ, List.set_cons_zero]
  have HTF := Lib.hid (HT4.out.on hbF)
  clear hbF HT4 HC CF CA CP heq
  have f5 := HTF.out.tw.facts.c
  by_cases hge : c ≤ F + Y
  · have hC := HCC.out
    rw [if_pos hge] at hC
    have e1 : ((F + Y : Nat) : Int) - (c : Int) = (C : Int) := by omega
    have hC2 : C ≤ 8589934592 := by omega
    clear HCC hC
    generalize F + Y = G at *
    go_wp2_with (refine wpList_store_of rfl _ _ _ rfl ⟨d, 0, none⟩ _ rfl rfl (so_store rfl HTF.out.so) ?_)
    subst hq
    refine bodyPost_ret (results_row_tmp (fn := Tryz.f64) (p := 12) (u := 13) (b := d) (t := 30) (C := socL L C) rfl _ rfl (HTF.out.set _ _).1 Tryz.underlying30 rfl so_sizeL) rfl ⟨rfl, (HTF.out.set _ _).2⟩
  · have hC := HCC.out
    rw [if_neg hge] at hC
    clear HCC
    generalize F + Y = G at *
    subst hC
    go_wp2_with (refine wpList_store_of rfl _ _ _ rfl ⟨d, 0, none⟩ _ rfl rfl (so_store rfl HTF.out.so) ?_)
    subst hq
    refine bodyPost_ret (results_row_tmp (fn := Tryz.f64) (p := 12) (u := 13) (b := d) (t := 30) (C := socL L G) rfl _ rfl (HTF.out.set _ _).1 Tryz.underlying30 rfl so_sizeL) rfl ⟨rfl, (HTF.out.set _ _).2⟩
open Go.RowKit
structure Ref (t l c g p s k i : Nat) : Prop where
  g2 : 2 ≤ g
  cg : c = 4 * g
  pt : p < t
  s3 : s ≤ 3
  kl : k < l
  ig : i < g
  two : p = 0 → s = 0 → 2 ≤ i
section
variable {t l c g p s k i : Nat}
theorem Ref.times (R : Ref t l c g p s k i) : s * g ≤ 3 * g ∧ (s + 1) * g = s * g + g ∧ (s = 0 → s * g = 0) ∧ (s = 3 → s * g = 3 * g) ∧ (1 ≤ s → g ≤ s * g) ∧ (s ≤ 2 → s * g ≤ 2 * g) := by
  refine ⟨Nat.mul_le_mul_right _ R.s3, Nat.succ_mul s g, fun h => by rw [h, Nat.zero_mul], fun h => by rw [h], fun h => ?_, fun h => Nat.mul_le_mul_right _ h⟩
  have := Nat.mul_le_mul_right g h
  omega
theorem Ref.area (R : Ref t l c g p s k i) (O : Bool) (hO : p = 0 → s = 0 → O = true) : ∃ A : Nat, arI (bsN c g p s) i O = (A : Int) ∧ 1 ≤ A ∧ A ≤ c ∧ A + (if O then 1 else if i = 0 then 1 else 0) = bsN c g p s + (if O then i else 0) := by
  obtain ⟨h1, h2, h3, h4, h5, h6⟩ := R.times
  have hg := R.g2
  have hc := R.cg
  have hs := R.s3
  have hi := R.ig
  have h2' := R.two
  unfold bsN arI
  generalize s * g = x at *
  by_cases hp : p = 0
  · rw [if_pos hp]
    cases O
    · have hs0 : ¬ s = 0 := fun h => by have := hO hp h; cases this
      have h5 := h5 (by omega)
      by_cases h0 : i = 0
      · exact ⟨x - 1, by simp [h0]; omega, by omega, by omega, by simp [h0]; omega⟩
      · exact ⟨x, by simp [h0], by omega, by omega, by simp [h0]⟩
    · have hx : 1 ≤ x + i - 1 := by
        by_cases hs0 : s = 0
        · have := h2' hp hs0; omega
        · have := h5 (by omega); omega
      exact ⟨x + i - 1, by simp; omega, hx, by omega, by simp; omega⟩
  · rw [if_neg hp]
    cases O
    · by_cases h0 : i = 0
      · exact ⟨c - g - 1, by simp [h0]; omega, by omega, by omega, by simp [h0]; omega⟩
      · exact ⟨c - g, by simp [h0], by omega, by omega, by simp [h0]⟩
    · exact ⟨c - g + i - 1, by simp; omega, by omega, by omega, by simp; omega⟩
def colN (c g p s y : Nat) : Nat := if c ≤ frN g p s + y then frN g p s + y - c else frN g p s + y
theorem Ref.from_le (R : Ref t l c g p s k i) : frN g p s ≤ 3 * g := by
  obtain ⟨h1, h2, h3, h4, h5, h6⟩ := R.times
  have hs := R.s3
  unfold frN
  by_cases h : p = 0 ∨ s = 3
  · rw [if_pos h]; omega
  · rw [if_neg h]
    have := h6 (by omega)
    omega
theorem Ref.spot (R : Ref t l c g p s k i) (O : Bool) (A y : Nat) (hy : y < A) (hA : A + (if O then 1 else if i = 0 then 1 else 0) = bsN c g p s + (if O then i else 0)) :
    colN c g p s y < c ∧ (O = true → colN c g p s y ≠ s * g + i) ∧ (O = false → colN c g p s y < s * g ∨ s * g + g ≤ colN c g p s y) ∧ (p = 0 → colN c g p s y < s * g + i) := by
  obtain ⟨h1, h2, h3, h4, h5, h6⟩ := R.times
  have hg := R.g2
  have hc := R.cg
  have hs := R.s3
  have hi := R.ig
  unfold colN
  have hF : frN g p s = if p = 0 ∨ s = 3 then 0 else s * g + g := by unfold frN; rw [h2]
  unfold bsN at hA
  generalize s * g = x at *
  generalize frN g p s = F at *
  by_cases hp : p = 0
  · rw [if_pos hp] at hA
    rw [if_pos (.inl hp)] at hF
    cases O <;> by_cases hi0 : i = 0 <;> simp [hi0] at hA <;> split <;> simp <;> omega
  · rw [if_neg hp] at hA
    by_cases h3 : s = 3
    · have h4 := h4 h3
      rw [if_pos (.inr h3)] at hF
      cases O <;> by_cases hi0 : i = 0 <;> simp [hi0] at hA <;> split <;> simp <;> omega
    · have h6 := h6 (by omega)
      rw [if_neg (by omega)] at hF
      cases O <;> by_cases hi0 : i = 0 <;> simp [hi0] at hA <;> split <;> simp <;> omega
end
open Go.RowKit
theorem ln_lt {l p s k K : Nat} (hk : k < l) : lnN l p s k K < l := by
  unfold lnN
  split
  · exact hk
  · exact Nat.mod_lt _ (by omega)
theorem plof_good {t l c g p s k i : Nat} (a b m z J K : Nat) (hJ : J < 4294967296) (hK : K < 4294967296) (R : Ref t l c g p s k i) (hx : reB t l g p s k i = true) (ht : t ≤ 4294967295) (hl : l ≤ 4294967295) (hc : c ≤ 4294967295) :
    ∃ A : Nat, arI (bsN c g p s) i (decide (lnN l p s k K = k)) = (A : Int) ∧ 1 ≤ A ∧ A ≤ c ∧ A + (if decide (lnN l p s k K = k) = true then 1 else if i = 0 then 1 else 0) = bsN c g p s + (if decide (lnN l p s k K = k) = true then i else 0) ∧
      ∀ w : World, Calls Tryz.prog 64 #[spv a t l m b c g z, tuv p s, .int .i64 (k : Int), .int .i64 (i : Int), .int .u32 (J : Int), .int .u32 (K : Int)] w fun e w' => e = .returned (.tuple #[sovL (lnN l p s k K) (colN c g p s (piN A J)), .int .i64 0]) ∧ Below w.heap.size w w' := by
  obtain ⟨t1, t2, t3, t4, t5, t6⟩ := R.times
  have hk := R.kl
  have hi := R.ig
  have hcg := R.cg
  have hf := R.from_le
  obtain ⟨A, h1, h2, h3, h4⟩ := R.area (decide (lnN l p s k K = k)) (fun hp hs => by rw [lnN, if_pos ⟨hp, hs⟩]; simp)
  refine ⟨A, h1, h2, h3, h4, fun w => ?_⟩
  exact plof_walk a t l m b c g z p s k i J K _ _ _ A _ _ _ ht (by omega) hl (by omega) hc R.s3 (by omega) (by omega) hJ hK hx rfl rfl rfl rfl h1 h2 (by omega) rfl rfl (by omega) w
open Go.ChangeShapes Go.WideShapes Go.ChangeAt Go.RowKit
end Go.Proofs.YtfoodaobiknihaaGreatDoor
