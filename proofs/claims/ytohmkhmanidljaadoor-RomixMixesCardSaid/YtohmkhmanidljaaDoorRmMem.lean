/- A store of rows in memory, by its piece; words, Rows, fault, half and New of package romix by their contracts. Conditions: those typed. -/
import Derived.Test.YtohmkhmanidljaaDoorRmPure
import Derived.Test.YtohmkhmanidljaaDoorArPce
import Derived.Test.YtohmkhmanidljaaDoorSfLast
namespace Go.Proofs.YtohmkhmanidljaaDoor
set_option maxRecDepth 50000
open Go.RowKit Bb Sl Sf Rm

/-- a store at block s: its piece and its width -/
def ScAt (w : World) (s p r : Nat) : Prop := RowAt w s 52 #[.pointer (some ⟨p, 0, none⟩), .int .i64 (r : Int)]
section
variable {w w' : World} {s p a g n r : Nat} {live : Bool} {v : Value} {M : Nat → Prop} {X : List (List Nat)}
theorem ScAt.at_ (h : ScAt w s p r) : w.cell? ⟨s, 0, none⟩ = some (.pointer (some ⟨p, 0, none⟩)) ∧ w.cell? ⟨s, 1, none⟩ = some (.int .i64 (r : Int)) := ⟨by rw [RowAt.cell h 0]; rfl, by rw [RowAt.cell h 1]; rfl⟩

/-- a piece that is lent: its blocks are at block g -/
theorem at_live (hP : PceAt w p a n true (.slice (some ⟨g, 0, none⟩) n n)) (i : Nat) (hi : i < n) : Calls Tryd.prog 41 #[.pointer (some ⟨p, 0, none⟩), .int .i64 (i : Int)] w fun e w' => e = .returned (.pointer (some ⟨g, i * 128, none⟩)) ∧ w' = w := by
  have C := Lib.hid (fault_any hP i)
  rw [fa_ok hi] at C
  obtain ⟨x0, x1, x2, x3, f0, f1, f2, f3⟩ := hP.at_
  clear hP
  have hi0 : (0 : Int) ≤ (i : Int) := by omega
  have hi1 : (i : Int) < (n : Int) := by omega
  go_enter Tryd.func41, Tryd.ntmps41
  go_wp2_with fail
  refine C.out.mono ?_; rintro e w' ⟨rfl, rfl⟩
  go_wp2
  go_ret
  exact ⟨by first | rfl | simp, rfl⟩

theorem words_any (h : ScAt w s p r) (hr : r ≤ 512) : Calls Tryd.prog 20 #[.pointer (some ⟨s, 0, none⟩)] w fun e w' => e = .returned (.int .i64 ((32 * r : Nat) : Int)) ∧ w' = w := by
  obtain ⟨x0, x1⟩ := h.at_
  have e1 : (32 : Int) * (r : Int) = ((32 * r : Nat) : Int) := by omega
  obtain ⟨u, hu⟩ : ∃ u, 32 * r = u := ⟨_, rfl⟩
  have hub : u ≤ 16384 := by omega
  rw [hu] at e1 ⊢
  have hw : IntKind.i64.wrap (u : Int) = (u : Int) := IntWalk.i64_in _ (by omega)
  clear h hu hub
  go_enter Tryd.func20, Tryd.ntmps20
  go_wp2
  go_ret
  exact ⟨rfl, rfl⟩
theorem rows_nil (w : World) : Calls Tryd.prog 7 #[.pointer none] w fun e w' => e = .returned (.int .i64 0) ∧ w' = w := by
  go_enter Tryd.func7, Tryd.ntmps7
  go_wp2
  go_ret
  exact ⟨rfl, rfl⟩
theorem rows_any (h : ScAt w s p r) (hP : PceAt w p a n live v) (h1 : 1 ≤ r) (hr : r ≤ 512) (hn : n ≤ 4194304) : Calls Tryd.prog 7 #[.pointer (some ⟨s, 0, none⟩)] w fun e w' => e = .returned (.int .i64 ((n * 256 / (32 * r) : Nat) : Int)) ∧ w' = w := by
  obtain ⟨x0, x1⟩ := h.at_
  have HW := Lib.hid (words_any h hr)
  have HL := Lib.hid (len_any hP)
  have d0 : ((r : Int) == 0) = false := by simp; omega
  have r0 : ¬ r = 0 := by omega
  have e1 : (n : Int) * 256 = ((n * 256 : Nat) : Int) := by omega
  have hN : n * 256 ≤ 2000000000 := by omega
  have hU : 32 * r ≤ 16384 := by omega
  have hU1 : 1 ≤ 32 * r := by omega
  generalize n * 256 = N at *
  generalize 32 * r = U at *
  have hq : N / U ≤ N := Nat.div_le_self _ _
  have e2 : (N : Int) / (U : Int) = ((N / U : Nat) : Int) := rfl
  have e3 : (N : Int).tdiv (U : Int) = ((N / U : Nat) : Int) := rfl
  generalize N / U = q at *
  have hw : IntKind.i64.wrap (N : Int) = (N : Int) := IntWalk.i64_in _ (by omega)
  have hw2 : IntKind.i64.wrap (q : Int) = (q : Int) := IntWalk.i64_in _ (by omega)
  have u0 : ¬ U = 0 := by omega
  clear h hP hN hU hU1 hq hn hr h1
  go_enter Tryd.func7, Tryd.ntmps7
  go_wp2_with fail
  refine HL.out.mono ?_; rintro e w' ⟨rfl, rfl⟩
  go_wp2_with fail
  refine HW.out.mono ?_; rintro e w' ⟨rfl, rfl⟩
  go_wp2
  go_ret
  exact ⟨rfl, rfl⟩
theorem sfault_nil (k : Int) (w : World) : Calls Tryd.prog 30 #[.pointer none, .int .i64 k] w fun e w' => e = .returned (.int .i64 11) ∧ w' = w := by
  have HR := Lib.hid fun w => rows_nil w
  have hk : decide (k < 0) = true ∨ (decide (k < 0) = false ∧ decide (0 ≤ k) = true ∧ 0 ≤ k) := by
    rcases Int.lt_or_le k 0 with h | h
    · exact .inl (by simpa using h)
    · exact .inr ⟨by simpa using h, by simpa using h, h⟩
  rcases hk with d | ⟨d, d2, d3⟩
  · go_enter Tryd.func30, Tryd.ntmps30
    go_wp2
    go_ret
    exact ⟨rfl, rfl⟩
  · go_enter Tryd.func30, Tryd.ntmps30
    go_wp2_with fail
    refine (HR.out _).mono ?_; rintro e w' ⟨rfl, rfl⟩
    go_wp2
    go_ret
    exact ⟨rfl, rfl⟩

/-- why row k can't be reached: there is none, or the piece was taken back -/
theorem sfault_out (h : ScAt w s p r) (hP : PceAt w p a n live v) (h1 : 1 ≤ r) (hr : r ≤ 512) (hn : n ≤ 4194304) (k : Int) (hk : k < 0 ∨ ((n * 256 / (32 * r) : Nat) : Int) ≤ k) : Calls Tryd.prog 30 #[.pointer (some ⟨s, 0, none⟩), .int .i64 k] w fun e w' => e = .returned (.int .i64 11) ∧ w' = w := by
  have HR := Lib.hid (rows_any h hP h1 hr hn)
  clear h hP
  generalize n * 256 / (32 * r) = R at *
  rcases Int.lt_or_le k 0 with d | d
  · have d1 : decide (k < 0) = true := by simpa using d
    clear hk
    go_enter Tryd.func30, Tryd.ntmps30
    go_wp2
    go_ret
    exact ⟨rfl, rfl⟩
  · have d1 : decide (k < 0) = false := by simpa using d
    have d2 : decide ((R : Int) ≤ k) = true := by simp; omega
    have d3 : (R : Int) ≤ k := by omega
    clear hk
    go_enter Tryd.func30, Tryd.ntmps30
    go_wp2_with fail
    refine HR.out.mono ?_; rintro e w' ⟨rfl, rfl⟩
    go_wp2
    go_ret
    exact ⟨rfl, rfl⟩
theorem sfault_in (h : ScAt w s p r) (hP : PceAt w p a n true (.slice (some ⟨g, 0, none⟩) n n)) (h1 : 1 ≤ r) (hr : r ≤ 512) (hn : n ≤ 4194304) (k : Nat) (hk : k < n * 256 / (32 * r)) : Calls Tryd.prog 30 #[.pointer (some ⟨s, 0, none⟩), .int .i64 (k : Int)] w fun e w' => e = .returned (.int .i64 0) ∧ w' = w := by
  have HR := Lib.hid (rows_any h hP h1 hr hn)
  have hn1 : 0 < n := by
    rcases Nat.eq_zero_or_pos n with e | e
    · subst e; simp at hk
    · exact e
  have HA := Lib.hid (at_live hP 0 hn1)
  obtain ⟨x0, x1⟩ := h.at_
  clear h hP
  generalize n * 256 / (32 * r) = R at *
  have d1 : decide ((k : Int) < 0) = false := by simp
  have d2 : decide ((R : Int) ≤ (k : Int)) = false := by simp; omega
  have d3 : (k : Int) < (R : Int) := by omega
  have d4 : decide (R ≤ k) = false := by simp; omega
  clear hk hn1
  go_enter Tryd.func30, Tryd.ntmps30
  go_wp2_with fail
  refine HR.out.mono ?_; rintro e w' ⟨rfl, rfl⟩
  go_wp2_with fail
  refine HA.out.mono ?_; rintro e w' ⟨rfl, rfl⟩
  go_wp2
  go_ret
  exact ⟨rfl, rfl⟩
theorem sfault_off (h : ScAt w s p r) (hP : PceAt w p a n false v) (h1 : 1 ≤ r) (hr : r ≤ 512) (hn : n ≤ 4194304) (k : Nat) (hk : k < n * 256 / (32 * r)) : Calls Tryd.prog 30 #[.pointer (some ⟨s, 0, none⟩), .int .i64 (k : Int)] w fun e w' => e = .returned (.int .i64 12) ∧ w' = w := by
  have HR := Lib.hid (rows_any h hP h1 hr hn)
  have hn1 : 0 < n := by
    rcases Nat.eq_zero_or_pos n with e | e
    · subst e; simp at hk
    · exact e
  have HA := Lib.hid (at_bad hP 0 (by unfold faN; rw [if_neg (by omega)]; simp))
  obtain ⟨x0, x1⟩ := h.at_
  clear h hP
  generalize n * 256 / (32 * r) = R at *
  have d1 : decide ((k : Int) < 0) = false := by simp
  have d2 : decide ((R : Int) ≤ (k : Int)) = false := by simp; omega
  have d3 : (k : Int) < (R : Int) := by omega
  have d4 : decide (R ≤ k) = false := by simp; omega
  clear hk hn1
  go_enter Tryd.func30, Tryd.ntmps30
  go_wp2_with fail
  refine HR.out.mono ?_; rintro e w' ⟨rfl, rfl⟩
  go_wp2_with fail
  refine HA.out.mono ?_; rintro e w' ⟨rfl, rfl⟩
  go_wp2
  go_ret
  exact ⟨rfl, rfl⟩

/-- where word i of row k is: in which block, and which half of it -/
theorem shalf_any (h : ScAt w s p r) (hP : PceAt w p a n true (.slice (some ⟨g, 0, none⟩) n n)) (hr : r ≤ 512) (k i q : Nat) (hq : k * (32 * r) + i = q) (hqn : q < 256 * n) (hn : n ≤ 4194304) :
    Calls Tryd.prog 36 #[.pointer (some ⟨s, 0, none⟩), .int .i64 (k : Int), .int .i64 (i : Int)] w fun e w' => e = .returned (.tuple #[.pointer (some ⟨g, q / 256 * 128, none⟩), .int .i64 ((q % 256 : Nat) : Int)]) ∧ w' = w := by
  have HW := Lib.hid (words_any h hr)
  have HA := Lib.hid (at_live hP (q / 256) (by omega))
  obtain ⟨x0, x1⟩ := h.at_
  have hi : i ≤ q := by omega
  have e1 : (k : Int) * ((32 * r : Nat) : Int) = ((k * (32 * r) : Nat) : Int) := rfl
  have hf : k * (32 * r) ≤ q := by omega
  generalize 32 * r = u at *
  generalize k * u = f at *
  have e2 : (f : Int) + (i : Int) = (q : Int) := by omega
  have hwf : IntKind.i64.wrap (f : Int) = (f : Int) := IntWalk.i64_in _ (by omega)
  have hwq : IntKind.i64.wrap (q : Int) = (q : Int) := IntWalk.i64_in _ (by omega)
  have q1 : (q : Int) / 256 = ((q / 256 : Nat) : Int) := by omega
  have q2 : (q : Int).tdiv 256 = ((q / 256 : Nat) : Int) := rfl
  have q3 : (q : Int) % 256 = ((q % 256 : Nat) : Int) := by omega
  have q4 : (q : Int).tmod 256 = ((q % 256 : Nat) : Int) := rfl
  have hb : q / 256 ≤ 4194304 := by omega
  have hm : q % 256 < 256 := Nat.mod_lt _ (by decide)
  generalize q / 256 = b at *
  generalize q % 256 = c at *
  have hwb : IntKind.i64.wrap (b : Int) = (b : Int) := IntWalk.i64_in _ (by omega)
  have hwc : IntKind.i64.wrap (c : Int) = (c : Int) := IntWalk.i64_in _ (by omega)
  clear h hP hq hqn hn hr hi hf
  go_enter Tryd.func36, Tryd.ntmps36
  go_wp2_with fail
  refine HW.out.mono ?_; rintro e w' ⟨rfl, rfl⟩
  go_wp2_with fail
  refine HA.out.mono ?_; rintro e w' ⟨rfl, rfl⟩
  go_wp2
  go_ret2
  exact ⟨rfl, rfl⟩

/-- New: why there is no store, and one -/
theorem rnew_nil (r : Int) (w : World) : Calls Tryd.prog 14 #[.pointer none, .int .i64 r] w fun e w' => e = .returned (.tuple #[.pointer none, .int .i64 11]) ∧ w' = w := by
  go_enter Tryd.func14, Tryd.ntmps14
  go_wp2
  go_ret2
  exact ⟨rfl, rfl⟩
theorem rnew_bad (p : Addr) (r : Int) (hr : r < 1 ∨ 512 < r) (w : World) : Calls Tryd.prog 14 #[.pointer (some p), .int .i64 r] w fun e w' => e = .returned (.tuple #[.pointer none, .int .i64 2]) ∧ w' = w := by
  have HC := Lib.hid (check_bad r hr (.slice none 0 0) w)
  clear hr
  go_enter Tryd.func14, Tryd.ntmps14
  go_wp2_with fail
  refine HC.out.mono ?_; rintro e w' ⟨rfl, rfl⟩
  go_wp2
  go_ret2
  exact ⟨rfl, rfl⟩
theorem rnew_any (p r : Nat) (h1 : 1 ≤ r) (h2 : r ≤ 512) (w : World) : Calls Tryd.prog 14 #[.pointer (some ⟨p, 0, none⟩), .int .i64 (r : Int)] w fun e w' => e = .returned (.tuple #[.pointer (some ⟨w.heap.size, 0, none⟩), .int .i64 0]) ∧ ScAt w' w.heap.size p r ∧ Below w.heap.size w w' := by
  have HC := Lib.hid (check_size r h1 h2 none 0 0 (by omega) w)
  clear h1 h2
  go_enter Tryd.func14, Tryd.ntmps14
  go_wp2_with fail
  refine HC.out.mono ?_; rintro e w' ⟨rfl, rfl⟩
  go_wp2
  go_ret2
  exact ⟨rfl, RowAt.new _ _ _, (Below.refl _ _).alloc (Nat.le_refl _) _⟩
end
end Go.Proofs.YtohmkhmanidljaaDoor
