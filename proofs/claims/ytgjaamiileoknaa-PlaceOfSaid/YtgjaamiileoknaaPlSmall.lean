/- Area, From, Lane and refers of package place by their contracts. Conditions: those typed. -/
import Derived.Test.YtgjaamiileoknaaPlPick
import Derived.Test.YtgjaamiileoknaaSpOps
namespace Go.Proofs.Ytgjaamiileoknaa
set_option maxRecDepth 50000
open Go.RowKit

theorem column_is (a t l m b c g z x y j : Nat) (h : x * g + y = j) (hj : j ≤ 4611686018427387904) (w : World) : Calls Try.prog 15 #[spv a t l m b c g z, .int .i64 (x : Int), .int .i64 (y : Int)] w fun e w' => e = .returned (.int .i64 (j : Int)) ∧ Below w.heap.size w w' := by
  have C := spcolumn_any a t l m b c g z x y (by omega) w
  rwa [h] at C

/-- what stands where a shape and a turn have been put -/
theorem two_rows (a t l m b c g z : Nat) (p s : Int) (w : World) {w1 : World} (hb : Below ((w.alloc (.cells (spc a t l m b c g z) 29)).alloc (.cells (tuc p s) 25)).heap.size ((w.alloc (.cells (spc a t l m b c g z) 29)).alloc (.cells (tuc p s) 25)) w1) :
    RowAt w1 w.heap.size 29 (spc a t l m b c g z) ∧ RowAt w1 (w.heap.size + 1) 25 (tuc p s) ∧ Below w.heap.size w w1 := by
  have s1 : (w.alloc (.cells (spc a t l m b c g z) 29)).heap.size = w.heap.size + 1 := World.size_alloc _ _
  refine ⟨((RowAt.new w _ _).alloc _).step hb, ?_, ?_⟩
  · have := (RowAt.new (w.alloc (.cells (spc a t l m b c g z) 29)) 25 (tuc p s)).step hb
    rwa [s1] at this
  · have b1 := two_box w (.cells (spc a t l m b c g z) 29) (.cells (tuc p s) 25)
    exact b1.trans (hb.mono b1.size)

/-- what a lane has, but for the segment -/
def bsN (c g p s : Nat) : Nat := if p = 0 then s * g else c - g
/-- how many may be referred to -/
def arI (B i : Nat) (own : Bool) : Int := if own then (B : Int) + (i : Int) - 1 else if i = 0 then (B : Int) - 1 else (B : Int)

set_option maxHeartbeats 1600000 in
theorem area_any (a t l m b c g z p s i B : Nat) (own : Bool) (hB : bsN c g p s = B) (hg : g ≤ c) (hc : c ≤ 4294967296) (hs : s * g ≤ 4294967296) (hi : i ≤ 4294967296) (w : World) :
    Calls Try.prog 12 #[spv a t l m b c g z, tuv p s, .int .i64 (i : Int), .bool own] w fun e w' => e = .returned (.int .i64 (arI B i own)) ∧ Below w.heap.size w w' := by
  have HA := Lib.hid (show arI B i own = if own then (B : Int) + (i : Int) - 1 else if i = 0 then (B : Int) - 1 else (B : Int) from rfl)
  generalize arI B i own = R at *
  have HB := Lib.hid (two_box w (.cells (spc a t l m b c g z) 29) (.cells (tuc p s) 25))
  have HR : Hid (∀ w1, _ → _) := Lib.hid fun w1 hb => two_rows a t l m b c g z (p : Int) (s : Int) w (w1 := w1) hb
  by_cases hp : p = 0
  · have CC := Lib.hid (column_is a t l m b c g z s 0 B (by rw [← hB, bsN, if_pos hp, Nat.add_zero]) (by rw [← hB, bsN, if_pos hp]; omega))
    have hBb : B ≤ 4294967296 := by rw [← hB, bsN, if_pos hp]; exact hs
    clear hB hs
    subst hp
    go_enter Try.func12, Try.ntmps12
    go_wp2_with fail
    refine (CC.out _).mono ?_
    rintro e w1 ⟨rfl, hb⟩
    have HR1 := Lib.hid (HR.out _ hb).2.2
    clear hb HR HB CC
    cases own
    · by_cases h0 : i = 0
      · subst h0
        have hA := HA.out
        simp only [Bool.false_eq_true, if_false, if_true] at hA
        have HH := Lib.hid hA
        clear HA hA
        go_wp2
        go_ret
        exact ⟨by rw [HH.out]; go_num, HR1.out⟩
      · have hA := HA.out
        simp only [Bool.false_eq_true, if_false, if_neg h0] at hA
        have HH := Lib.hid hA
        clear HA hA
        go_wp2
        go_ret
        exact ⟨by rw [HH.out]; rfl, HR1.out⟩
    · have hA := HA.out
      simp only [if_true] at hA
      have HH := Lib.hid hA
      clear HA hA
      go_wp2
      go_ret
      exact ⟨by rw [HH.out]; go_num, HR1.out⟩
  · have hBc : B + g = c := by rw [← hB, bsN, if_neg hp]; omega
    have hBe : (c : Int) - (g : Int) = (B : Int) := by omega
    clear hB hs HR
    cases own
    · by_cases h0 : i = 0
      · subst h0
        have hA := HA.out
        simp only [Bool.false_eq_true, if_false, if_true] at hA
        have HH := Lib.hid hA
        clear HA hA
        go_enter Try.func12, Try.ntmps12
        go_wp2
        go_ret
        exact ⟨by rw [HH.out]; go_num, HB.out⟩
      · have hA := HA.out
        simp only [Bool.false_eq_true, if_false, if_neg h0] at hA
        have HH := Lib.hid hA
        clear HA hA
        go_enter Try.func12, Try.ntmps12
        go_wp2
        go_ret
        exact ⟨by rw [HH.out]; go_num, HB.out⟩
    · have hA := HA.out
      simp only [if_true] at hA
      have HH := Lib.hid hA
      clear HA hA
      go_enter Try.func12, Try.ntmps12
      go_wp2
      go_ret
      exact ⟨by rw [HH.out]; go_num, HB.out⟩

/-- the column with which they begin -/
def frN (g p s : Nat) : Nat := if p = 0 ∨ s = 3 then 0 else (s + 1) * g
theorem from_any (a t l m b c g z p s F : Nat) (hF : frN g p s = F) (hs : (s + 1) * g ≤ 4294967296) (hs2 : s ≤ 3) (w : World) :
    Calls Try.prog 14 #[spv a t l m b c g z, tuv p s] w fun e w' => e = .returned (.int .i64 (F : Int)) ∧ Below w.heap.size w w' := by
  have HB := Lib.hid (two_box w (.cells (spc a t l m b c g z) 29) (.cells (tuc p s) 25))
  by_cases hp : p = 0
  · have h0 : F = 0 := by rw [← hF, frN, if_pos (.inl hp)]
    subst hp; subst h0
    clear hF hs
    go_enter Try.func14, Try.ntmps14
    go_wp2
    go_ret
    exact ⟨rfl, HB.out⟩
  · by_cases h3 : s = 3
    · have h0 : F = 0 := by rw [← hF, frN, if_pos (.inr h3)]
      subst h3; subst h0
      clear hF hs
      go_enter Try.func14, Try.ntmps14
      go_wp2
      go_ret
      exact ⟨rfl, HB.out⟩
    · have CC := Lib.hid (column_is a t l m b c g z (s + 1) 0 F (by rw [← hF, frN, if_neg (by omega), Nat.add_zero]) (by rw [← hF, frN, if_neg (by omega)]; omega))
      have HR : Hid (∀ w1, _ → _) := Lib.hid fun w1 hb => two_rows a t l m b c g z (p : Int) (s : Int) w (w1 := w1) hb
      have e1 : (s : Int) + 1 = ((s + 1 : Nat) : Int) := by omega
      have hsb : s + 1 ≤ 4 := by omega
      have d1 : ((p : Int) == 0) = false := by simp; omega
      have d2 : ((s : Int) == 3) = false := by simp; omega
      clear hF hs HB
      generalize s + 1 = k at *
      go_enter Try.func14, Try.ntmps14
      go_wp2_with fail
      refine (CC.out _).mono ?_
      rintro e w1 ⟨rfl, hb⟩
      have HR1 := Lib.hid (HR.out _ hb).2.2
      clear hb HR CC
      go_wp2
      go_ret
      exact ⟨rfl, HR1.out⟩

/-- which lane is referred to -/
def lnN (l p s k K : Nat) : Nat := if p = 0 ∧ s = 0 then k else K % l
theorem lane_any (a t l m b c g z p s k K L : Nat) (hL : lnN l p s k K = L) (hl : 1 ≤ l) (hK : K < 4294967296) (w : World) :
    Calls Try.prog 13 #[spv a t l m b c g z, tuv p s, .int .i64 (k : Int), .int .u32 (K : Int)] w fun e w' => e = .returned (.int .i64 (L : Int)) ∧ Below w.heap.size w w' := by
  have HB := Lib.hid (two_box w (.cells (spc a t l m b c g z) 29) (.cells (tuc p s) 25))
  by_cases h : p = 0 ∧ s = 0
  · have h0 : L = k := by rw [← hL, lnN, if_pos h]
    obtain ⟨rfl, rfl⟩ := h
    subst h0
    clear hL
    go_enter Try.func13, Try.ntmps13
    go_wp2
    go_ret
    exact ⟨rfl, HB.out⟩
  · have h0 : K % l = L := by rw [← hL, lnN, if_neg h]
    have e1 : Int.tmod (K : Int) (l : Int) = (L : Int) := by rw [Int.tmod_eq_emod_of_nonneg (by omega), ← h0]; rfl
    have e2 : (K : Int) % (l : Int) = (L : Int) := by rw [← h0]; rfl
    have l0 : ¬ l = 0 := by omega
    have hL2 : L < l := by rw [← h0]; exact Nat.mod_lt _ (by omega)
    clear hL h0
    by_cases hp : p = 0
    · have hs : ¬ s = 0 := fun hs => h ⟨hp, hs⟩
      subst hp
      clear h
      go_enter Try.func13, Try.ntmps13
      go_wp2
      go_ret
      exact ⟨rfl, HB.out⟩
    · clear h
      go_enter Try.func13, Try.ntmps13
      go_wp2
      go_ret
      exact ⟨rfl, HB.out⟩

/-- is there a block that refers? -/
def reB (t l g : Nat) (p s k i : Int) : Bool := hasB t p s && (inB k 0 ((l : Int) - 1) && inB i (firN p s) ((g : Int) - 1))
theorem first_is (a t l m b c g z : Nat) (p s f : Int) (hf : firN p s = f) (w : World) : Calls Try.prog 31 #[spv a t l m b c g z, .int .i64 p, .int .i64 s] w fun e w' => ∃ v, e = .returned v ∧ Is (.int .i64 f) v w' ∧ Below w.heap.size w w' := by
  have C := spfirst_any a t l m b c g z p s w
  rw [hf] at C
  refine C.mono ?_
  rintro e w' ⟨rfl, hb⟩
  exact ⟨_, rfl, rfl, hb⟩
theorem has_is (a t l m b c g z : Nat) (ht : t ≤ 4294967295) (p s : Int) (x : Bool) (hx : hasB t p s = x) (w : World) : Calls Try.prog 30 #[spv a t l m b c g z, tuv p s] w fun e w' => ∃ v, e = .returned v ∧ Is (.bool x) v w' ∧ Below w.heap.size w w' := by
  have C := sphas_any a t l m b c g z ht p s w
  rw [hx] at C
  refine C.mono ?_
  rintro e w' ⟨rfl, hb⟩
  exact ⟨_, rfl, rfl, hb⟩
theorem within_is (n a b : Int) (x : Bool) (hx : inB n a b = x) (w : World) : Calls Try.prog 26 #[.int .i64 n, .int .i64 a, .int .i64 b] w fun e w' => ∃ v, e = .returned v ∧ Is (.bool x) v w' ∧ Below w.heap.size w w' := by
  refine (within_at hx w).mono ?_
  rintro e w' ⟨rfl, rfl⟩
  exact ⟨_, rfl, rfl, Below.refl _ _⟩
end Go.Proofs.Ytgjaamiileoknaa
