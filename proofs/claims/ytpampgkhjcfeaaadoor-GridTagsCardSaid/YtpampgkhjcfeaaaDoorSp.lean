/- Which parameters of Argon2 may be, and their shape, by the contracts of may and Of of package shape. Conditions: the parameters are ints. Parameters, shapes and turns as rows of memory: loaded and stored whole. No condition but those typed. The shape of any parameters of Argon2: package shape's Of by its contract. Conditions: the parameters are ints. A shape's methods by their contracts: First, Column, Before, Place, Has. Conditions: those typed. The shapes that Of answers; the chapter's example. Conditions: those typed. -/
import Derived.Test.YtpampgkhjcfeaaaDoorSz
import Derived.Deep.QuietTactic
import Derived.BigQuiet
import Derived.StillTailTactics
import Derived.Test.YtpampgkhjcfeaaaDoorSub
namespace Go.Proofs.YtpampgkhjcfeaaaDoor
set_option maxRecDepth 50000
open Go.RowKit

/-- parameters, as a value -/
abbrev pav (a t m l z : Int) : Value := .agg #[.int .i64 a, .int .i64 t, .int .i64 m, .int .i64 l, .int .i64 z]
/-- a shape, as a value -/
abbrev spv (a t l m b c g z : Nat) : Value := .agg #[.int .i64 (a : Int), .int .i64 (t : Int), .int .i64 (l : Int), .int .i64 (m : Int), .int .i64 (b : Int), .int .i64 (c : Int), .int .i64 (g : Int), .int .i64 (z : Int)]
/-- no shape -/
abbrev spz : Value := .agg #[.int .i64 0, .int .i64 0, .int .i64 0, .int .i64 0, .int .i64 0, .int .i64 0, .int .i64 0, .int .i64 0]
/-- a turn -/
abbrev tuv (p s : Int) : Value := .agg #[.int .i64 p, .int .i64 s]
/-- may the parameters be? -/
def mayB (a t m l z : Int) : Bool := (a == 1 || (a == 2 || a == 3)) && (inB t 1 4294967295 && (inB l 1 16777215 && (inB m (8 * l) 4294967295 && inB z 4 1024)))
theorem may_yes {a t m l z : Int} (h : mayB a t m l z = true) : (a = 1 ∨ a = 2 ∨ a = 3) ∧ inB t 1 4294967295 = true ∧ inB l 1 16777215 = true ∧ inB m (8 * l) 4294967295 = true ∧ inB z 4 1024 = true := by
  unfold mayB at h
  simp only [Bool.and_eq_true, Bool.or_eq_true, beq_iff_eq] at h
  exact h
theorem two_read (a b : Int) (w : World) : Reads (w.alloc (.cells #[.int .i64 a, .int .i64 b] 3)) (w.heap.size + 1) (some ⟨w.heap.size, 0, none⟩) (i64s [a, b]) := fun k hk =>
  ⟨w.heap.size, 0, rfl, by omega, by
    match k, hk with
    | 0, _ => simp [i64s]
    | 1, _ => simp [i64s]⟩

theorem may_kind (a t m l z : Int) (h : ¬ (a = 1 ∨ a = 2 ∨ a = 3)) (w : World) : Calls Tryd.prog 36 #[pav a t m l z] w fun e w' => e = .returned (.bool (mayB a t m l z)) ∧ Below w.heap.size w w' := by
  have H := Lib.hid (show mayB a t m l z = false by
    unfold mayB
    have : (a == 1 || (a == 2 || a == 3)) = false := by simp; omega
    rw [this]; rfl)
  have h1 : ¬ a = 1 := by omega
  have h2 : ¬ a = 2 := by omega
  have h3 : ¬ a = 3 := by omega
  clear h
  go_enter Tryd.func36, Tryd.ntmps36
  go_wp2
  go_ret
  exact ⟨by rw [H.out]; rfl, (Below.refl _ _).alloc (Nat.le_refl _) _⟩

theorem within_at {n a b : Int} {r : Bool} (h : inB n a b = r) (w : World) : Calls Tryd.prog 40 #[.int .i64 n, .int .i64 a, .int .i64 b] w fun e w' => e = .returned (.bool r) ∧ w = w' := h ▸ within_any n a b w

set_option maxHeartbeats 1600000 in
theorem may_fits (a t m l z : Int) (h : a = 1 ∨ a = 2 ∨ a = 3) (w : World) : Calls Tryd.prog 36 #[pav a t m l z] w fun e w' => e = .returned (.bool (mayB a t m l z)) ∧ Below w.heap.size w w' := by
  have H : mayB a t m l z = (inB t 1 4294967295 && (inB l 1 16777215 && (inB m (8 * l) 4294967295 && inB z 4 1024))) := by
    unfold mayB
    have : (a == 1 || (a == 2 || a == 3)) = true := by simp; omega
    rw [this, Bool.true_and]
  rw [H]
  clear H
  have HB := Lib.hid ((Below.refl w.heap.size w).alloc (Nat.le_refl _) (.cells #[.int .i64 a, .int .i64 t, .int .i64 m, .int .i64 l, .int .i64 z] 23))
  have C1 := Lib.hid (@within_at t 1 4294967295 _ rfl)
  have C2 := Lib.hid (@within_at l 1 16777215 _ rfl)
  have C3 := Lib.hid (@within_at m (8 * l) 4294967295 _ rfl)
  have C4 := Lib.hid (@within_at z 4 1024 _ rfl)
  have hl : inB l 1 16777215 = true → 1 ≤ l ∧ l ≤ 16777215 := in_true _ _ _
  generalize inB t 1 4294967295 = b1 at *
  generalize inB l 1 16777215 = b2 at *
  generalize inB m (8 * l) 4294967295 = b3 at *
  generalize inB z 4 1024 = b4 at *
  rcases h with rfl | rfl | rfl
  all_goals
    cases b1
    · clear hl
      go_enter Tryd.func36, Tryd.ntmps36
      go_wp2_with fail
      refine (C1.out _).mono ?_
      rintro e w' ⟨rfl, rfl⟩
      go_wp2
      go_ret
      exact ⟨rfl, HB.out⟩
    · cases b2
      · clear hl
        go_enter Tryd.func36, Tryd.ntmps36
        go_wp2_with fail
        refine (C1.out _).mono ?_
        rintro e w' ⟨rfl, rfl⟩
        go_wp2_with fail
        refine (C2.out _).mono ?_
        rintro e w' ⟨rfl, rfl⟩
        go_wp2
        go_ret
        exact ⟨rfl, HB.out⟩
      · obtain ⟨hl1, hl2⟩ := hl rfl
        clear hl
        cases b3
        · go_enter Tryd.func36, Tryd.ntmps36
          go_wp2_with fail
          refine (C1.out _).mono ?_
          rintro e w' ⟨rfl, rfl⟩
          go_wp2_with fail
          refine (C2.out _).mono ?_
          rintro e w' ⟨rfl, rfl⟩
          go_wp2_with fail
          refine (C3.out _).mono ?_
          rintro e w' ⟨rfl, rfl⟩
          go_wp2
          go_ret
          exact ⟨rfl, HB.out⟩
        · go_enter Tryd.func36, Tryd.ntmps36
          go_wp2_with fail
          refine (C1.out _).mono ?_
          rintro e w' ⟨rfl, rfl⟩
          go_wp2_with fail
          refine (C2.out _).mono ?_
          rintro e w' ⟨rfl, rfl⟩
          go_wp2_with fail
          refine (C3.out _).mono ?_
          rintro e w' ⟨rfl, rfl⟩
          go_wp2_with fail
          refine (C4.out _).mono ?_
          rintro e w' ⟨rfl, rfl⟩
          go_wp2
          go_ret
          exact ⟨rfl, HB.out⟩
theorem may_any (a t m l z : Int) (w : World) : Calls Tryd.prog 36 #[pav a t m l z] w fun e w' => e = .returned (.bool (mayB a t m l z)) ∧ Below w.heap.size w w' := by
  by_cases h : a = 1 ∨ a = 2 ∨ a = 3
  · exact may_fits a t m l z h w
  · exact may_kind a t m l z h w
end Go.Proofs.YtpampgkhjcfeaaaDoor

namespace Go.Proofs.YtpampgkhjcfeaaaDoor
set_option maxRecDepth 50000
open Go.RowKit

abbrev pac (a t m l z : Int) : Array Value := #[.int .i64 a, .int .i64 t, .int .i64 m, .int .i64 l, .int .i64 z]
abbrev spc (a t l m b c g z : Nat) : Array Value := #[.int .i64 (a : Int), .int .i64 (t : Int), .int .i64 (l : Int), .int .i64 (m : Int), .int .i64 (b : Int), .int .i64 (c : Int), .int .i64 (g : Int), .int .i64 (z : Int)]
abbrev spzc : Array Value := #[.int .i64 0, .int .i64 0, .int .i64 0, .int .i64 0, .int .i64 0, .int .i64 0, .int .i64 0, .int .i64 0]
abbrev tuc (p s : Int) : Array Value := #[.int .i64 p, .int .i64 s]

theorem pa_agg (w : World) : (isAgg 23).run Tryd.prog w = .ok true w := by
  unfold isAgg
  rw [Sem.run_bind, run_underlying Tryd.underlying23 w]
  rfl
theorem sp_agg (w : World) : (isAgg 47).run Tryd.prog w = .ok true w := by
  unfold isAgg
  rw [Sem.run_bind, run_underlying Tryd.underlying47 w]
  rfl
theorem pa_size : (Tryd.prog.info? 23).map (·.size) = some 5 := by kernel_rfl
theorem sp_size : (Tryd.prog.info? 47).map (·.size) = some 8 := by kernel_rfl
theorem pa_load {w : World} {k : Nat} {a t m l z : Int} (h : RowAt w k 23 (pac a t m l z)) : (loadVar 23 ⟨k, 0, none⟩).run Tryd.prog w = .ok (pav a t m l z) w :=
  sub_load h pa_agg pa_size 0 [.int .i64 a, .int .i64 t, .int .i64 m, .int .i64 l, .int .i64 z] rfl fun j v h => by simpa using h
theorem sp_load {w : World} {k : Nat} {a t l m b c g z : Nat} (h : RowAt w k 47 (spc a t l m b c g z)) : (loadVar 47 ⟨k, 0, none⟩).run Tryd.prog w = .ok (spv a t l m b c g z) w :=
  sub_load h sp_agg sp_size 0 (spc a t l m b c g z).toList rfl fun j v h => by simpa using h
theorem sp_store {w : World} {k : Nat} {C : Array Value} (hC : C.size = 8) {a t l m b c g z : Nat} (h : RowAt w k 47 C) : (storeVar 47 ⟨k, 0, none⟩ (spv a t l m b c g z)).run Tryd.prog w = .ok () (w.setRow k (spc a t l m b c g z)) :=
  h.store sp_size hC (by simp [Value.oneCell'])
theorem sp_clear {w : World} {k : Nat} {C : Array Value} (hC : C.size = 8) (h : RowAt w k 47 C) : (storeVar 47 ⟨k, 0, none⟩ spz).run Tryd.prog w = .ok () (w.setRow k spzc) :=
  h.store sp_size hC (by simp [Value.oneCell'])
theorem pa_cells {w : World} {k : Nat} {a t m l z : Int} (h : RowAt w k 23 (pac a t m l z)) :
    w.cell? ⟨k, 0, none⟩ = some (.int .i64 a) ∧ w.cell? ⟨k, 1, none⟩ = some (.int .i64 t) ∧ w.cell? ⟨k, 2, none⟩ = some (.int .i64 m) ∧ w.cell? ⟨k, 3, none⟩ = some (.int .i64 l) ∧ w.cell? ⟨k, 4, none⟩ = some (.int .i64 z) :=
  ⟨(h.cell 0).trans rfl, (h.cell 1).trans rfl, (h.cell 2).trans rfl, (h.cell 3).trans rfl, (h.cell 4).trans rfl⟩
theorem sp_cells {w : World} {k : Nat} {a t l m b c g z : Nat} (h : RowAt w k 47 (spc a t l m b c g z)) :
    w.cell? ⟨k, 0, none⟩ = some (.int .i64 (a : Int)) ∧ w.cell? ⟨k, 1, none⟩ = some (.int .i64 (t : Int)) ∧ w.cell? ⟨k, 2, none⟩ = some (.int .i64 (l : Int)) ∧ w.cell? ⟨k, 3, none⟩ = some (.int .i64 (m : Int)) ∧ w.cell? ⟨k, 4, none⟩ = some (.int .i64 (b : Int)) ∧ w.cell? ⟨k, 5, none⟩ = some (.int .i64 (c : Int)) ∧ w.cell? ⟨k, 6, none⟩ = some (.int .i64 (g : Int)) ∧ w.cell? ⟨k, 7, none⟩ = some (.int .i64 (z : Int)) :=
  ⟨(h.cell 0).trans rfl, (h.cell 1).trans rfl, (h.cell 2).trans rfl, (h.cell 3).trans rfl, (h.cell 4).trans rfl, (h.cell 5).trans rfl, (h.cell 6).trans rfl, (h.cell 7).trans rfl⟩
end Go.Proofs.YtpampgkhjcfeaaaDoor

namespace Go.Proofs.YtpampgkhjcfeaaaDoor
set_option maxRecDepth 50000
open Go.RowKit

theorem mul_four (l : Nat) (h : l ≤ 16777215) : proN [4, (l : Int)] = ((4 * l : Nat) : Int) ∧ proE [4, (l : Int)] = 0 := by
  have ha : allIn [4, (l : Int)] = true := by simp [allIn, inB]; omega
  have hn : natsOf [4, (l : Int)] = [4, l] := by simp [natsOf]
  have hp : prodOf [4, l] = 4 * l := by simp [prodOf]
  rw [proN_yes ha hn, proE_yes ha hn, hp]
  exact ⟨fitN_yes (by omega), fitE_yes (by omega)⟩
theorem mul_lanes (l : Nat) (h : l ≤ 16777215) (w : World) : Calls Tryd.prog 37 #[.slice (some ⟨w.heap.size, 0, none⟩) 2 2] (w.alloc (.cells #[.int .i64 4, .int .i64 (l : Int)] 3)) fun e w' => e = .returned (.tuple #[.int .i64 ((4 * l : Nat) : Int), .int .i64 0]) ∧ Below w.heap.size w w' := by
  have C := mul_any _ 2 _ _ (two_read 4 (l : Int) w) (by simp)
  rw [(mul_four l h).1, (mul_four l h).2] at C
  refine C.mono ?_
  rintro e w' ⟨rfl, rfl⟩
  exact ⟨rfl, (Below.refl _ _).alloc (Nat.le_refl _) _⟩
theorem down_lanes (m u : Nat) (hm : m ≤ 4294967295) (hu : 1 ≤ u) (w : World) : Calls Tryd.prog 38 #[.int .i64 (m : Int), .int .i64 (u : Int)] w fun e w' => e = .returned (.tuple #[.int .i64 ((m / u * u : Nat) : Int), .int .i64 0]) ∧ Below w.heap.size w w' := by
  have h : partOK (m : Int) (u : Int) = true := by simp [partOK, inB]; omega
  have C := szdown_any (m : Int) (u : Int) w
  rw [downN_yes h, partE_yes h] at C
  exact C

theorem of_rows (a t m l z : Int) (w : World) {w1 : World} (hb : Below ((w.alloc (.cells (pac a t m l z) 23)).alloc (.cells spzc 47)).heap.size ((w.alloc (.cells (pac a t m l z) 23)).alloc (.cells spzc 47)) w1) :
    RowAt w1 w.heap.size 23 (pac a t m l z) ∧ RowAt w1 (w.heap.size + 1) 47 spzc ∧ Below w.heap.size w w1 ∧ w.heap.size + 2 ≤ w1.heap.size := by
  have s1 : (w.alloc (.cells (pac a t m l z) 23)).heap.size = w.heap.size + 1 := World.size_alloc _ _
  refine ⟨((RowAt.new w _ _).alloc _).step hb, ?_, ?_, ?_⟩
  · have := (RowAt.new (w.alloc (.cells (pac a t m l z) 23)) 47 spzc).step hb
    rwa [s1] at this
  · have b1 : Below w.heap.size w ((w.alloc (.cells (pac a t m l z) 23)).alloc (.cells spzc 47)) := ((Below.refl _ _).alloc (Nat.le_refl _) _).alloc (by rw [s1]; omega) _
    exact b1.trans (hb.mono b1.size)
  · have := hb.size
    rw [World.size_alloc, s1] at this
    omega

set_option maxHeartbeats 800000 in
theorem of_bad (a t m l z : Int) (h : mayB a t m l z = false) (w : World) : Calls Tryd.prog 18 #[pav a t m l z] w fun e w' => e = .returned (.tuple #[spz, .int .i64 2]) ∧ Below w.heap.size w w' := by
  have C : ∀ w, Calls Tryd.prog 36 #[pav a t m l z] w fun e w' => e = .returned (.bool false) ∧ Below w.heap.size w w' := fun w => h ▸ may_any a t m l z w
  have H := Lib.hid C
  clear C h
  go_enter Tryd.func18, Tryd.ntmps18
  go_wp2_with fail
  refine (H.out _).mono ?_
  rintro e w1 ⟨rfl, hb⟩
  have HR := Lib.hid (of_rows a t m l z w hb)
  clear hb
  go_wp2_with (refine wpList_store_of rfl _ _ _ rfl ⟨w.heap.size + 1, 0, none⟩ _ rfl rfl (sp_clear rfl HR.out.2.1) ?_)
  refine bodyPost_ret (results_row_tmp (fn := Tryd.f18) (p := 2) (u := 3) (b := w.heap.size + 1) (t := 47) (C := spzc) rfl _ rfl (HR.out.2.1.setRow _) Tryd.underlying47 rfl sp_size) rfl ⟨rfl, ?_⟩
  exact below_setRow HR.out.2.2.1 (by omega) _

/-- parameters that may be, as naturals -/
def Mok (a t m l z : Nat) : Prop := (a = 1 ∨ a = 2 ∨ a = 3) ∧ 1 ≤ t ∧ t ≤ 4294967295 ∧ 1 ≤ l ∧ l ≤ 16777215 ∧ 8 * l ≤ m ∧ m ≤ 4294967295 ∧ 4 ≤ z ∧ z ≤ 1024
theorem may_nats {a t m l z : Int} (h : mayB a t m l z = true) : ∃ a' t' m' l' z' : Nat, a = (a' : Int) ∧ t = (t' : Int) ∧ m = (m' : Int) ∧ l = (l' : Int) ∧ z = (z' : Int) ∧ Mok a' t' m' l' z' := by
  obtain ⟨h1, h2, h3, h4, h5⟩ := may_yes h
  have h2 := in_true _ _ _ h2
  have h3 := in_true _ _ _ h3
  have h4 := in_true _ _ _ h4
  have h5 := in_true _ _ _ h5
  exact ⟨a.toNat, t.toNat, m.toNat, l.toNat, z.toNat, by omega, by omega, by omega, by omega, by omega, by unfold Mok; omega⟩

set_option maxHeartbeats 1600000 in
theorem of_walk (a t m l z u b c g : Nat) (hM : Mok a t m l z) (hu : 4 * l = u) (hb : m / u * u = b) (hc : b / l = c) (hg : b / u = g) (w : World) :
    Calls Tryd.prog 18 #[pav a t m l z] w fun e w' => e = .returned (.tuple #[spv a t l m b c g z, .int .i64 0]) ∧ Below w.heap.size w w' := by
  have hy : mayB a t m l z = true := by
    unfold Mok at hM
    simp [mayB, inB]
    omega
  have C : ∀ w, Calls Tryd.prog 36 #[pav a t m l z] w fun e w' => e = .returned (.bool true) ∧ Below w.heap.size w w' := fun w => hy ▸ may_any a t m l z w
  have C1 := Lib.hid C
  obtain ⟨ha, ht1, ht2, hl1, hl2, hm1, hm2, hz1, hz2⟩ := hM
  have C2 := Lib.hid (mul_lanes l hl2)
  have C3 := Lib.hid (down_lanes m u hm2 (by omega))
  rw [hu] at C2
  rw [hb] at C3
  have hbm : b ≤ m := by rw [← hb]; exact Nat.div_mul_le_self _ _
  have e1 : (b : Int) / (l : Int) = (c : Int) := by rw [← hc]; rfl
  have e2 : (b : Int) / (u : Int) = (g : Int) := by rw [← hg]; rfl
  have hcb : c ≤ b := by rw [← hc]; exact Nat.div_le_self _ _
  have hgb : g ≤ b := by rw [← hg]; exact Nat.div_le_self _ _
  have hl0 : ((l : Int) == 0) = false := by simp; omega
  have hu0 : ((u : Int) == 0) = false := by simp; omega
  have hbn : b ≤ 4294967295 := by omega
  have hub : 1 ≤ u := by omega
  clear C hy ha hb hc hg hu
  go_enter Tryd.func18, Tryd.ntmps18
  go_wp2_with fail
  refine (C1.out _).mono ?_
  rintro e w1 ⟨rfl, hb⟩
  obtain ⟨R1, R2, B1, s1⟩ := of_rows a t m l z w hb
  obtain ⟨-, -, -, k3, -⟩ := pa_cells R1
  have HR := Lib.hid R1
  have HS := Lib.hid R2
  have HB := Lib.hid B1
  clear hb C1 R1 R2 B1
  go_wp2_with fail
  refine (C2.out _).mono ?_
  rintro e w2 ⟨rfl, hb⟩
  have s2 := hb.size
  have HR2 := Lib.hid (HR.out.step hb)
  have HS2 := Lib.hid (HS.out.step hb)
  have HB2 := Lib.hid (HB.out.trans (hb.mono HB.out.size))
  obtain ⟨-, -, k2, -, -⟩ := pa_cells HR2.out
  clear hb C2 HR HS HB k3
  go_wp2_with fail
  refine (C3.out _).mono ?_
  rintro e w3 ⟨rfl, hb⟩
  have s3 := hb.size
  have HR3 := Lib.hid (HR2.out.step hb)
  have HS3 := Lib.hid (HS2.out.step hb)
  have HB3 := Lib.hid (HB2.out.trans (hb.mono HB2.out.size))
  obtain ⟨k0, k1, k2', k3, k4⟩ := pa_cells HR3.out
  clear hb C3 HR2 HB2 k2 HS2
  go_wp2_with fail
  have w1' : IntKind.i64.wrap (b : Int) = (b : Int) := by rw [IntKind.wrap_i64]; omega
  have w2' : IntKind.i64.wrap (c : Int) = (c : Int) := by rw [IntKind.wrap_i64]; omega
  have w3' : IntKind.i64.wrap (g : Int) = (g : Int) := by rw [IntKind.wrap_i64]; omega
  have l0 : ¬ l = 0 := by omega
  have u0 : ¬ u = 0 := by omega
  have q1 : Int.tdiv (b : Int) (l : Int) = (c : Int) := by rw [Int.tdiv_eq_ediv_of_nonneg (by omega)]; exact e1
  have q2 : Int.tdiv (b : Int) (u : Int) = (g : Int) := by rw [Int.tdiv_eq_ediv_of_nonneg (by omega)]; exact e2
  refine wp_region_still_tail 19 (by kernel_rfl) (by kernel_rfl) ?_
  simp only [List.take_succ_cons, List.take_zero, List.drop_succ_cons, List.drop_zero]
  repeat still_step
  refine wpStill_nil ?_
  change wpList _ _ _ _ _ w3.drew
  have HS4 := Lib.hid HS3.out.drew
  have HB4 := Lib.hid (below_drewN HB3.out 1)
  have s4 : w3.drew.heap.size = w3.heap.size := rfl
  change Hid (Below w.heap.size w w3.drew) at HB4
  have HST := Lib.hid (sp_store (a := a) (t := t) (l := l) (m := m) (b := b) (c := c) (g := g) (z := z) rfl HS4.out)
  clear HS3 HB3 HR3 k0 k1 k2' k3 k4
  generalize w3.drew = w4 at *
  go_wp2_with (refine wpList_store_of rfl _ _ _ rfl ⟨w.heap.size + 1, 0, none⟩ _ rfl rfl HST.out ?_)
  refine bodyPost_ret (results_row_tmp (fn := Tryd.f18) (p := 2) (u := 3) (b := w.heap.size + 1) (t := 47) (C := spc a t l m b c g z) rfl _ rfl (HS4.out.setRow _) Tryd.underlying47 rfl sp_size) rfl ⟨rfl, ?_⟩
  exact below_setRow HB4.out (by omega) _
end Go.Proofs.YtpampgkhjcfeaaaDoor

namespace Go.Proofs.YtpampgkhjcfeaaaDoor
set_option maxRecDepth 50000
open Go.RowKit

/-- the first index that is filled -/
def firN (p s : Int) : Int := if p = 0 ∧ s = 0 then 2 else 0
theorem one_box (w : World) (o : Obj) : Below w.heap.size w (w.alloc o) := (Below.refl _ _).alloc (Nat.le_refl _) _
theorem two_box (w : World) (o o' : Obj) : Below w.heap.size w ((w.alloc o).alloc o') := (one_box w o).alloc (by rw [World.size_alloc]; omega) _

theorem spplace_any (a t l m b c g z k j : Nat) (h : k * c + j ≤ 4611686018427387904) (w : World) : Calls Tryd.prog 24 #[spv a t l m b c g z, .int .i64 (k : Int), .int .i64 (j : Int)] w fun e w' => e = .returned (.int .i64 ((k * c + j : Nat) : Int)) ∧ Below w.heap.size w w' := by
  have HB := Lib.hid (one_box w (.cells (spc a t l m b c g z) 47))
  have e1 : (k : Int) * (c : Int) = ((k * c : Nat) : Int) := (Int.natCast_mul _ _).symm
  generalize k * c = q at *
  go_enter Tryd.func24, Tryd.ntmps24
  go_wp2
  go_ret
  exact ⟨by go_num, HB.out⟩

/-- the column ahead -/
def befN (c j : Nat) : Int := if j = 0 then (c : Int) - 1 else (j : Int) - 1
/-- is it a turn? -/
def hasB (t : Nat) (p s : Int) : Bool := inB p 0 ((t : Int) - 1) && inB s 0 3
end Go.Proofs.YtpampgkhjcfeaaaDoor

namespace Go.Proofs.YtpampgkhjcfeaaaDoor
set_option maxRecDepth 50000
open Go.RowKit

/-- the shape of parameters that may be -/
theorem of_good {a t m l z : Nat} (hM : Mok a t m l z) : ∃ b c g : Nat, 2 ≤ g ∧ c = 4 * g ∧ b = l * c ∧ b ≤ m ∧ g = m / (4 * l) ∧ ∀ w : World, Calls Tryd.prog 18 #[pav a t m l z] w fun e w' => e = .returned (.tuple #[spv a t l m b c g z, .int .i64 0]) ∧ Below w.heap.size w w' := by
  have hl : 1 ≤ l := hM.2.2.2.1
  have hm : 8 * l ≤ m := hM.2.2.2.2.2.1
  have hg : 2 ≤ m / (4 * l) := (Nat.le_div_iff_mul_le (by omega)).2 (by omega)
  have hb : m / (4 * l) * (4 * l) = l * (4 * (m / (4 * l))) := by
    rw [Nat.mul_comm, Nat.mul_comm 4 l, Nat.mul_assoc]
  have hbm : l * (4 * (m / (4 * l))) ≤ m := by rw [← hb]; exact Nat.div_mul_le_self _ _
  refine ⟨l * (4 * (m / (4 * l))), 4 * (m / (4 * l)), m / (4 * l), hg, rfl, rfl, hbm, rfl, fun w => ?_⟩
  refine of_walk a t m l z (4 * l) _ _ _ hM rfl hb ?_ ?_ w
  · exact Nat.mul_div_cancel_left _ (by omega)
  · rw [← hb]; exact Nat.mul_div_cancel _ (by omega)

end Go.Proofs.YtpampgkhjcfeaaaDoor
