/- The document's All: all blocks filled, by its contract. Conditions: those typed. Step of the document's lane, by its contracts. Conditions: those typed. -/
import Derived.Test.YtfoodaobiknihaaGreatDoorFlOne
import Derived.Test.YtfoodaobiknihaaGreatDoorLnA
namespace Go.Proofs.YtfoodaobiknihaaGreatDoor
set_option maxRecDepth 50000
open Go.RowKit Bb Bn
theorem rspf_all {w : World} {b k : Nat} {ev : Operand → Value} {x : Operand} {o : Oper} (hop : o.op = .fieldAddr 48 x k) (hk : k < 8) (hx : ev x = .pointer (some ⟨b, 0, none⟩)) : (execOp ev o).run Tryz.prog w = .ok (.value (.pointer (some ⟨b, k, none⟩))) w := by
  rcases (show k = 0 ∨ k = 1 ∨ k = 2 ∨ k = 3 ∨ k = 4 ∨ k = 5 ∨ k = 6 ∨ k = 7 by omega) with rfl | rfl | rfl | rfl | rfl | rfl | rfl | rfl
  all_goals
    simp [execOp, hop, hx, go_sem]
theorem rfirst27 (p s F0 : Nat) (h : fiN p s = F0) (w : World) : Calls Tryz.prog 36 #[.int .i64 (p : Int), .int .i64 (s : Int)] w fun e w' => e = .returned (.int .i64 (F0 : Int)) ∧ w = w' := by
  by_cases hp : p = 0
  · subst hp
    by_cases hs : s = 0
    · subst hs
      obtain rfl : F0 = 2 := h.symm
      go_enter Tryz.func36, Tryz.ntmps36
      go_wp2
      go_ret
      exact ⟨rfl, rfl⟩
    · obtain rfl : F0 = 0 := by rw [← h, fiN, if_neg (by omega)]
      have h2 : ((s : Int) == 0) = false := by simp; omega
      have h3 : ¬ (s : Int) = 0 := by omega
      go_enter Tryz.func36, Tryz.ntmps36
      go_wp2
      go_ret
      exact ⟨rfl, rfl⟩
  · obtain rfl : F0 = 0 := by rw [← h, fiN, if_neg (by omega)]
    have h2 : ((p : Int) == 0) = false := by simp; omega
    have h3 : ¬ (p : Int) = 0 := by omega
    go_enter Tryz.func36, Tryz.ntmps36
    go_wp2
    go_ret
    exact ⟨rfl, rfl⟩
end Go.Proofs.YtfoodaobiknihaaGreatDoor

namespace Go.Proofs.YtfoodaobiknihaaGreatDoor
set_option maxRecDepth 50000
open Go.RowKit Bb Bn
abbrev rlc (p s i : Int) (h gt dn : Bool) : Array Value := #[.int .i64 p, .int .i64 s, .int .i64 i, .bool h, .bool gt, .bool dn]
abbrev rlv (p s i : Int) (h gt dn : Bool) : Value := .agg #[.int .i64 p, .int .i64 s, .int .i64 i, .bool h, .bool gt, .bool dn]
theorem rl_size : (Tryz.prog.info? 57).map (·.size) = some 6 := by kernel_rfl
theorem rl_agg (w : World) : (isAgg 57).run Tryz.prog w = .ok true w := by
  unfold isAgg
  rw [Sem.run_bind, run_underlying Tryz.underlying57 w]
  rfl
section
variable {w : World} {b : Nat} {p s i : Int} {h gt dn : Bool}
theorem rl_cell {C : Array Value} (H : RowAt w b 57 C) (j : Nat) {u : Value} (hj : C[j]? = some u) : w.cell? ⟨b, j, none⟩ = some u := (H.cell j).trans hj
theorem rl_load (H : RowAt w b 57 (rlc p s i h gt dn)) : (loadVar 57 ⟨b, 0, none⟩).run Tryz.prog w = .ok (rlv p s i h gt dn) w :=
  sub_load H rl_agg rl_size 0 (rlc p s i h gt dn).toList rfl fun j v h => by simpa using h
theorem rl_store (H : RowAt w b 57 (rlc p s i h gt dn)) {p2 s2 i2 : Int} {h2 gt2 dn2 : Bool} : (storeVar 57 ⟨b, 0, none⟩ (rlv p2 s2 i2 h2 gt2 dn2)).run Tryz.prog w = .ok () (w.setRow b (rlc p2 s2 i2 h2 gt2 dn2)) :=
  H.store (C' := rlc p2 s2 i2 h2 gt2 dn2) rl_size rfl (by simp [Value.oneCell'])
theorem rl_setH (H : RowAt w b 57 (rlc p s i h gt dn)) (f : Bool) : ∃ w2, (storeVar 4 ⟨b, 3, none⟩ (.bool f)).run Tryz.prog w = .ok () w2 ∧ RowAt w2 b 57 (rlc p s i f gt dn) ∧ Kept (fun j => j = b) w w2 := by
  have hc := rl_cell H 3 rfl
  have hf := RowAt.frozen H 3
  exact ⟨_, by simp [hc, hf, go_sem], RowAt.setCell H 3 (.bool f), (Kept.refl (fun j => j = b) w).set (.inl rfl) _⟩
theorem rl_setG (H : RowAt w b 57 (rlc p s i h gt dn)) (f : Bool) : ∃ w2, (storeVar 4 ⟨b, 4, none⟩ (.bool f)).run Tryz.prog w = .ok () w2 ∧ RowAt w2 b 57 (rlc p s i h f dn) ∧ Kept (fun j => j = b) w w2 := by
  have hc := rl_cell H 4 rfl
  have hf := RowAt.frozen H 4
  exact ⟨_, by simp [hc, hf, go_sem], RowAt.setCell H 4 (.bool f), (Kept.refl (fun j => j = b) w).set (.inl rfl) _⟩
theorem rl_setD (H : RowAt w b 57 (rlc p s i h gt dn)) (f : Bool) : ∃ w2, (storeVar 4 ⟨b, 5, none⟩ (.bool f)).run Tryz.prog w = .ok () w2 ∧ RowAt w2 b 57 (rlc p s i h gt f) ∧ Kept (fun j => j = b) w w2 := by
  have hc := rl_cell H 5 rfl
  have hf := RowAt.frozen H 5
  exact ⟨_, by simp [hc, hf, go_sem], RowAt.setCell H 5 (.bool f), (Kept.refl (fun j => j = b) w).set (.inl rfl) _⟩
theorem rl_setP (H : RowAt w b 57 (rlc p s i h gt dn)) (f : Int) : ∃ w2, (storeVar 3 ⟨b, 0, none⟩ (.int .i64 f)).run Tryz.prog w = .ok () w2 ∧ RowAt w2 b 57 (rlc f s i h gt dn) ∧ Kept (fun j => j = b) w w2 := by
  have hc := rl_cell H 0 rfl
  have hf := RowAt.frozen H 0
  exact ⟨_, by simp [hc, hf, go_sem], RowAt.setCell H 0 (.int .i64 f), (Kept.refl (fun j => j = b) w).set (.inl rfl) _⟩
theorem rl_setS (H : RowAt w b 57 (rlc p s i h gt dn)) (f : Int) : ∃ w2, (storeVar 3 ⟨b, 1, none⟩ (.int .i64 f)).run Tryz.prog w = .ok () w2 ∧ RowAt w2 b 57 (rlc p f i h gt dn) ∧ Kept (fun j => j = b) w w2 := by
  have hc := rl_cell H 1 rfl
  have hf := RowAt.frozen H 1
  exact ⟨_, by simp [hc, hf, go_sem], RowAt.setCell H 1 (.int .i64 f), (Kept.refl (fun j => j = b) w).set (.inl rfl) _⟩
theorem rl_setI (H : RowAt w b 57 (rlc p s i h gt dn)) (f : Int) : ∃ w2, (storeVar 3 ⟨b, 2, none⟩ (.int .i64 f)).run Tryz.prog w = .ok () w2 ∧ RowAt w2 b 57 (rlc p s f h gt dn) ∧ Kept (fun j => j = b) w w2 := by
  have hc := rl_cell H 2 rfl
  have hf := RowAt.frozen H 2
  exact ⟨_, by simp [hc, hf, go_sem], RowAt.setCell H 2 (.int .i64 f), (Kept.refl (fun j => j = b) w).set (.inl rfl) _⟩
theorem rlf_run {k : Nat} {ev : Operand → Value} {x : Operand} {o : Oper} (hop : o.op = .fieldAddr 57 x k) (hk : k < 6) (hx : ev x = .pointer (some ⟨b, 0, none⟩)) : (execOp ev o).run Tryz.prog w = .ok (.value (.pointer (some ⟨b, k, none⟩))) w := by
  rcases (show k = 0 ∨ k = 1 ∨ k = 2 ∨ k = 3 ∨ k = 4 ∨ k = 5 by omega) with rfl | rfl | rfl | rfl | rfl | rfl
  all_goals
    simp [execOp, hop, hx, go_sem]
end
theorem results_ref {P : Program} {fn : Func} {p u x y : Tmp} {ty : TypeId} {w : World} {b : Nat} {C : Array Value} (hr : fn.results = #[.tmp u, .cell p ty, .tmp x, .tmp y]) (tmps : Array Value) {d : TypeDesc}
    (hp : tmps.getD p undef = .pointer (some ⟨b, 0, none⟩)) (h : RowAt w b ty C) (hu : P.underlying ty = some d) (hd : (match d with | .struct _ | .array _ _ => true | _ => false) = true) (hi : (P.info? ty).map (·.size) = some C.size) :
    (results fn tmps).run P w = .ok (.tuple #[tmps.getD u undef, .agg C, tmps.getD x undef, tmps.getD y undef]) w := by
  have hp' : tmps[p]?.getD undef = .pointer (some ⟨b, 0, none⟩) := by simpa using hp
  simp [results, hr, hp', asAddr, run_loadVar_row w b ty ty C (0, 0) d h hu hd hi]
section
variable {a t l m b c g z : Nat} {w : World} {v : Value} {k p s i : Int} {h gt : Bool}
set_option maxHeartbeats 6400000 in
theorem rstep_late : Calls Tryz.prog 16 #[spv a t l m b c g z, v, .int .i64 k, rlv p s i h gt true] w fun e w' => e = .returned (.tuple #[v, rlv p s i h gt true, .int .i64 0, .int .i64 12]) ∧ Below w.heap.size w w' := by
  obtain ⟨w1, e1⟩ : ∃ w1, w1 = ((w.alloc (.cells (spc a t l m b c g z) 48)).alloc (.cells (rlc p s i h gt true) 57)).alloc (.cells (rlc 0 0 0 false false false) 57) := ⟨_, rfl⟩
  have b1 : Below w.heap.size w w1 := by rw [e1]; exact (two_box _ _ _).alloc (by simp only [World.size_alloc]; omega) _
  have hSh : RowAt w1 w.heap.size 48 (spc a t l m b c g z) := by rw [e1]; exact ((RowAt.new w _ _).alloc _).alloc _
  have hX : RowAt w1 (w.heap.size + 1) 57 (rlc p s i h gt true) := by
    rw [e1]
    have h := RowAt.new (w.alloc (.cells (spc a t l m b c g z) 48)) 57 (rlc p s i h gt true)
    rw [World.size_alloc] at h
    exact h.alloc _
  have hZ : RowAt w1 (w.heap.size + 1 + 1) 57 (rlc 0 0 0 false false false) := by
    rw [e1]
    have h := RowAt.new ((w.alloc (.cells (spc a t l m b c g z) 48)).alloc (.cells (rlc p s i h gt true) 57)) 57 (rlc 0 0 0 false false false)
    rwa [World.size_alloc, World.size_alloc] at h
  have k2 : w1.cell? ⟨w.heap.size + 1, 2, none⟩ = some (.int .i64 i) := rl_cell hX 2 rfl
  have k3 : w1.cell? ⟨w.heap.size + 1, 3, none⟩ = some (.bool h) := rl_cell hX 3 rfl
  have k4 : w1.cell? ⟨w.heap.size + 1, 4, none⟩ = some (.bool gt) := rl_cell hX 4 rfl
  have k5 : w1.cell? ⟨w.heap.size + 1, 5, none⟩ = some (.bool true) := rl_cell hX 5 rfl
  have kg : w1.cell? ⟨w.heap.size, 6, none⟩ = some (.int .i64 (g : Int)) := (RowAt.cell hSh 6).trans rfl
  have HB1 := Lib.hid b1
  have HTS1 : Hid (w.heap.size + 1 + 1 < w1.heap.size) := Lib.hid (RowAt.lt hZ)
  have HSh := Lib.hid hSh
  have HX1 := Lib.hid hX
  have HZ1 := Lib.hid hZ
  have E1 := Lib.hid e1
  clear b1 hSh hX hZ e1
  go_enter Tryz.func16, Tryz.ntmps16
  go_upto_region 1 with fail
  rw [← E1.out]
  clear E1
  generalize hT2 : w.heap.size + 1 + 1 = T2 at *
  generalize hT1 : w.heap.size + 1 = T1 at *
  generalize hT0 : w.heap.size = T0 at *
  have HTT : Hid (w.heap.size = T0 ∧ T1 = T0 + 1 ∧ T2 = T0 + 1 + 1) := Lib.hid ⟨hT0, by omega, by omega⟩
  clear hT0 hT1 hT2
  go_upto_region 2 with fail
  have HRow := HX1
  have HZero := HZ1
  have HTS : Hid (T0 ≤ w1.heap.size ∧ T0 ≤ T2) := Lib.hid ⟨by have := HTS1.out; have := HTT.out; omega, by have := HTT.out; omega⟩
  have HR : Hid (∀ u, Below w1.heap.size w1 u → RowAt u T1 57 (rlc p s i h gt true) ∧ RowAt u T2 57 (rlc 0 0 0 false false false)) := Lib.hid fun u hu => ⟨RowAt.step HRow.out hu, RowAt.step HZero.out hu⟩
  obtain ⟨F, hF⟩ : ∃ F : World → Prop, F = fun u => RowAt u T2 57 (rlc p s i h gt true) ∧ Kept (fun j => j = T2) w1 u := ⟨_, rfl⟩
  have HFS : Hid (∀ u u', F u → Below u.heap.size u u' → F u') := Lib.hid fun u u' hu hb => by
    subst hF
    exact ⟨RowAt.step hu.1 hb, hu.2.trans (Kept.of_below (M := fun _ => False) hb) fun _ _ h => h.elim⟩
  have HFE : Hid (∀ u, F u → RowAt u T2 57 (rlc p s i h gt true) ∧ Kept (fun j => j = T2) w1 u) := Lib.hid fun u hu => by subst hF; exact hu
  have HF : Hid (∀ u, Below w1.heap.size w1 u → F (u.setRow T2 (rlc p s i h gt true))) := Lib.hid fun u hu => by
    subst hF
    exact ⟨RowAt.setRow (HR.out u hu).2 _, (Kept.of_below (M := fun j => j = T2) hu).trans (kept_row _ _ _) fun _ _ h => h⟩
  clear hF HRow HZero
  refine wp_region_stage (T0) [3] [] [[0], [0], [0], [], [1], [1]] [[Is v, Is (rlv p s i h gt true), Is v, Free, Is (.int .i64 0), Is (.int .i64 12)], [Is v, IsF (rlv p s i h gt true) F, Is v, Free, Is (.int .i64 0), Is (.int .i64 12)]] [Is v, IsF (rlv p s i h gt true) F, Is v, Free, Is (.int .i64 0), Is (.int .i64 12)] HTS.out.1 (by kernel_rfl) (by kernel_rfl) rfl rfl ⟨⟨stable_is _, stable_is _, stable_is _, stable_free, stable_is _, stable_is _, trivial⟩, ⟨stable_is _, stable_isf _ HFS.out, stable_is _, stable_free, stable_is _, stable_is _, trivial⟩, trivial⟩ (by intro n hn o ho hd w; simp only [List.mem_cons, List.not_mem_nil, or_false] at hn; subst hn; first | trivial | (cases ho; cases hd)) rfl ⟨?p0, ?p1, ?p2, fun h => absurd (by simp) h, ?p4, ?p5, trivial⟩ ⟨?t0, trivial⟩ (by decide) ?fin
  case p0 =>
    intro _ k hk; obtain rfl := List.mem_singleton.1 hk; intro a w C Z
    exact partS_on (wanted_free rfl _) (op_move (.inl rfl) (C.was 1 (by kernel_rfl)))
  case p1 =>
    intro _ k hk; obtain rfl := List.mem_singleton.1 hk; intro a w C Z
    exact partS_on (wanted_free rfl _) (op_value (load_run rfl (C.was 7 (by kernel_rfl)) (rl_load (HR.out w C.below).1)) rfl)
  case p2 =>
    intro _ k hk; obtain rfl := List.mem_singleton.1 hk; intro a w C Z
    exact partS_on (wanted_free rfl _) (op_move (.inr rfl) (C.on (j := 0) (by kernel_rfl) rfl rfl))
  case p4 =>
    intro _ k hk; obtain rfl := List.mem_singleton.1 hk; intro a w C Z
    exact partS_on (wanted_free rfl _) (op_move (.inr rfl) rfl)
  case p5 =>
    intro _ k hk; obtain rfl := List.mem_singleton.1 hk; intro a w C Z
    exact partS_on (wanted_free rfl _) (op_move (.inr rfl) rfl)
  case t0 =>
    intro o ho a w C A
    cases ho
    have hr := (HR.out w C.below).2
    refine ⟨wanted_free rfl _, stage_store rfl (C.was 9 (by kernel_rfl)) (C.on (j := 1) (by kernel_rfl) rfl rfl) (rl_store hr) trivial (below_setRow (C.below.mono HTS.out.1) HTS.out.2 _) (Nat.le_of_eq (setRow_size _ _ _).symm) ?_⟩
    · intro i o2 d hi hd hne hnw h
      have hil := (List.getElem?_eq_some_iff.1 hi).1
      replace hil : i < 6 := hil
      obtain rfl | rfl | rfl | rfl | rfl | rfl : i = 0 ∨ i = 1 ∨ i = 2 ∨ i = 3 ∨ i = 4 ∨ i = 5 := by omega
      · exact h
      · exact ⟨h, HF.out w C.below⟩
      · exact h
      · exact absurd rfl hne
      · exact absurd hnw (by rw [show waits _ 4 3 = true from by kernel_rfl]; decide)
      · exact absurd hnw (by rw [show waits _ 5 3 = true from by kernel_rfl]; decide)
  case fin =>
    rintro wF hbF _ rfl _ ⟨rfl, hFF⟩ _ rfl _ _ _ rfl _ rfl
    simp only [Fin, setAt, Exit.then, List.setIfInBounds_toArray, List.set_cons_succ, List.set_cons_zero]
    obtain ⟨h1, h2⟩ := HFE.out _ hFF
    go_wp2
    refine bodyPost_ret (results_ref rfl _ (p := 9) rfl h1 Tryz.underlying57 rfl rl_size) rfl ⟨rfl, ?_⟩
    exact HTT.out.1.symm ▸ (((HTT.out.1 ▸ HB1.out : Below T0 w w1)).trans (h2.below HTS.out.1 fun y hy => by have := HTS.out; omega))
set_option maxHeartbeats 6400000 in
theorem rstep_wait : Calls Tryz.prog 16 #[spv a t l m b c g z, v, .int .i64 k, rlv p s i h true false] w fun e w' => e = .returned (.tuple #[v, rlv p s i h true false, .int .i64 0, .int .i64 16]) ∧ Below w.heap.size w w' := by
  obtain ⟨w1, e1⟩ : ∃ w1, w1 = ((w.alloc (.cells (spc a t l m b c g z) 48)).alloc (.cells (rlc p s i h true false) 57)).alloc (.cells (rlc 0 0 0 false false false) 57) := ⟨_, rfl⟩
  have b1 : Below w.heap.size w w1 := by rw [e1]; exact (two_box _ _ _).alloc (by simp only [World.size_alloc]; omega) _
  have hSh : RowAt w1 w.heap.size 48 (spc a t l m b c g z) := by rw [e1]; exact ((RowAt.new w _ _).alloc _).alloc _
  have hX : RowAt w1 (w.heap.size + 1) 57 (rlc p s i h true false) := by
    rw [e1]
    have h := RowAt.new (w.alloc (.cells (spc a t l m b c g z) 48)) 57 (rlc p s i h true false)
    rw [World.size_alloc] at h
    exact h.alloc _
  have hZ : RowAt w1 (w.heap.size + 1 + 1) 57 (rlc 0 0 0 false false false) := by
    rw [e1]
    have h := RowAt.new ((w.alloc (.cells (spc a t l m b c g z) 48)).alloc (.cells (rlc p s i h true false) 57)) 57 (rlc 0 0 0 false false false)
    rwa [World.size_alloc, World.size_alloc] at h
  have k2 : w1.cell? ⟨w.heap.size + 1, 2, none⟩ = some (.int .i64 i) := rl_cell hX 2 rfl
  have k3 : w1.cell? ⟨w.heap.size + 1, 3, none⟩ = some (.bool h) := rl_cell hX 3 rfl
  have k4 : w1.cell? ⟨w.heap.size + 1, 4, none⟩ = some (.bool true) := rl_cell hX 4 rfl
  have k5 : w1.cell? ⟨w.heap.size + 1, 5, none⟩ = some (.bool false) := rl_cell hX 5 rfl
  have kg : w1.cell? ⟨w.heap.size, 6, none⟩ = some (.int .i64 (g : Int)) := (RowAt.cell hSh 6).trans rfl
  have HB1 := Lib.hid b1
  have HTS1 : Hid (w.heap.size + 1 + 1 < w1.heap.size) := Lib.hid (RowAt.lt hZ)
  have HSh := Lib.hid hSh
  have HX1 := Lib.hid hX
  have HZ1 := Lib.hid hZ
  have E1 := Lib.hid e1
  clear b1 hSh hX hZ e1
  go_enter Tryz.func16, Tryz.ntmps16
  go_upto_region 1 with fail
  rw [← E1.out]
  clear E1
  generalize hT2 : w.heap.size + 1 + 1 = T2 at *
  generalize hT1 : w.heap.size + 1 = T1 at *
  generalize hT0 : w.heap.size = T0 at *
  have HTT : Hid (w.heap.size = T0 ∧ T1 = T0 + 1 ∧ T2 = T0 + 1 + 1) := Lib.hid ⟨hT0, by omega, by omega⟩
  clear hT0 hT1 hT2
  go_upto_region 4 with fail
  have HRow := HX1
  have HZero := HZ1
  have HTS : Hid (T0 ≤ w1.heap.size ∧ T0 ≤ T2) := Lib.hid ⟨by have := HTS1.out; have := HTT.out; omega, by have := HTT.out; omega⟩
  have HR : Hid (∀ u, Below w1.heap.size w1 u → RowAt u T1 57 (rlc p s i h true false) ∧ RowAt u T2 57 (rlc 0 0 0 false false false)) := Lib.hid fun u hu => ⟨RowAt.step HRow.out hu, RowAt.step HZero.out hu⟩
  obtain ⟨F, hF⟩ : ∃ F : World → Prop, F = fun u => RowAt u T2 57 (rlc p s i h true false) ∧ Kept (fun j => j = T2) w1 u := ⟨_, rfl⟩
  have HFS : Hid (∀ u u', F u → Below u.heap.size u u' → F u') := Lib.hid fun u u' hu hb => by
    subst hF
    exact ⟨RowAt.step hu.1 hb, hu.2.trans (Kept.of_below (M := fun _ => False) hb) fun _ _ h => h.elim⟩
  have HFE : Hid (∀ u, F u → RowAt u T2 57 (rlc p s i h true false) ∧ Kept (fun j => j = T2) w1 u) := Lib.hid fun u hu => by subst hF; exact hu
  have HF : Hid (∀ u, Below w1.heap.size w1 u → F (u.setRow T2 (rlc p s i h true false))) := Lib.hid fun u hu => by
    subst hF
    exact ⟨RowAt.setRow (HR.out u hu).2 _, (Kept.of_below (M := fun j => j = T2) hu).trans (kept_row _ _ _) fun _ _ h => h⟩
  clear hF HRow HZero
  refine wp_region_stage (T0) [3] [] [[0], [0], [0], [], [1], [1]] [[Is v, Is (rlv p s i h true false), Is v, Free, Is (.int .i64 0), Is (.int .i64 16)], [Is v, IsF (rlv p s i h true false) F, Is v, Free, Is (.int .i64 0), Is (.int .i64 16)]] [Is v, IsF (rlv p s i h true false) F, Is v, Free, Is (.int .i64 0), Is (.int .i64 16)] HTS.out.1 (by kernel_rfl) (by kernel_rfl) rfl rfl ⟨⟨stable_is _, stable_is _, stable_is _, stable_free, stable_is _, stable_is _, trivial⟩, ⟨stable_is _, stable_isf _ HFS.out, stable_is _, stable_free, stable_is _, stable_is _, trivial⟩, trivial⟩ (by intro n hn o ho hd w; simp only [List.mem_cons, List.not_mem_nil, or_false] at hn; subst hn; first | trivial | (cases ho; cases hd)) rfl ⟨?p0, ?p1, ?p2, fun h => absurd (by simp) h, ?p4, ?p5, trivial⟩ ⟨?t0, trivial⟩ (by decide) ?fin
  case p0 =>
    intro _ k hk; obtain rfl := List.mem_singleton.1 hk; intro a w C Z
    exact partS_on (wanted_free rfl _) (op_move (.inl rfl) (C.was 1 (by kernel_rfl)))
  case p1 =>
    intro _ k hk; obtain rfl := List.mem_singleton.1 hk; intro a w C Z
    exact partS_on (wanted_free rfl _) (op_value (load_run rfl (C.was 7 (by kernel_rfl)) (rl_load (HR.out w C.below).1)) rfl)
  case p2 =>
    intro _ k hk; obtain rfl := List.mem_singleton.1 hk; intro a w C Z
    exact partS_on (wanted_free rfl _) (op_move (.inr rfl) (C.on (j := 0) (by kernel_rfl) rfl rfl))
  case p4 =>
    intro _ k hk; obtain rfl := List.mem_singleton.1 hk; intro a w C Z
    exact partS_on (wanted_free rfl _) (op_move (.inr rfl) rfl)
  case p5 =>
    intro _ k hk; obtain rfl := List.mem_singleton.1 hk; intro a w C Z
    exact partS_on (wanted_free rfl _) (op_move (.inr rfl) rfl)
  case t0 =>
    intro o ho a w C A
    cases ho
    have hr := (HR.out w C.below).2
    refine ⟨wanted_free rfl _, stage_store rfl (C.was 9 (by kernel_rfl)) (C.on (j := 1) (by kernel_rfl) rfl rfl) (rl_store hr) trivial (below_setRow (C.below.mono HTS.out.1) HTS.out.2 _) (Nat.le_of_eq (setRow_size _ _ _).symm) ?_⟩
    · intro i o2 d hi hd hne hnw h
      have hil := (List.getElem?_eq_some_iff.1 hi).1
      replace hil : i < 6 := hil
      obtain rfl | rfl | rfl | rfl | rfl | rfl : i = 0 ∨ i = 1 ∨ i = 2 ∨ i = 3 ∨ i = 4 ∨ i = 5 := by omega
      · exact h
      · exact ⟨h, HF.out w C.below⟩
      · exact h
      · exact absurd rfl hne
      · exact absurd hnw (by rw [show waits _ 4 3 = true from by kernel_rfl]; decide)
      · exact absurd hnw (by rw [show waits _ 5 3 = true from by kernel_rfl]; decide)
  case fin =>
    rintro wF hbF _ rfl _ ⟨rfl, hFF⟩ _ rfl _ _ _ rfl _ rfl
    simp only [Fin, setAt, Exit.then, List.setIfInBounds_toArray, List.set_cons_succ, List.set_cons_zero]
    obtain ⟨h1, h2⟩ := HFE.out _ hFF
    go_wp2
    refine bodyPost_ret (results_ref rfl _ (p := 9) rfl h1 Tryz.underlying57 rfl rl_size) rfl ⟨rfl, ?_⟩
    exact HTT.out.1.symm ▸ (((HTT.out.1 ▸ HB1.out : Below T0 w w1)).trans (h2.below HTS.out.1 fun y hy => by have := HTS.out; omega))
set_option maxHeartbeats 6400000 in
theorem rstep_arrive {i : Nat} (hi : g ≤ i) : Calls Tryz.prog 16 #[spv a t l m b c g z, v, .int .i64 k, rlv p s i h false false] w fun e w' => e = .returned (.tuple #[v, rlv p s i h true false, .int .i64 3, .int .i64 0]) ∧ Below w.heap.size w w' := by
  obtain ⟨w1, e1⟩ : ∃ w1, w1 = ((w.alloc (.cells (spc a t l m b c g z) 48)).alloc (.cells (rlc p s i h false false) 57)).alloc (.cells (rlc 0 0 0 false false false) 57) := ⟨_, rfl⟩
  have b1 : Below w.heap.size w w1 := by rw [e1]; exact (two_box _ _ _).alloc (by simp only [World.size_alloc]; omega) _
  have hSh : RowAt w1 w.heap.size 48 (spc a t l m b c g z) := by rw [e1]; exact ((RowAt.new w _ _).alloc _).alloc _
  have hX : RowAt w1 (w.heap.size + 1) 57 (rlc p s i h false false) := by
    rw [e1]
    have h := RowAt.new (w.alloc (.cells (spc a t l m b c g z) 48)) 57 (rlc p s i h false false)
    rw [World.size_alloc] at h
    exact h.alloc _
  have hZ : RowAt w1 (w.heap.size + 1 + 1) 57 (rlc 0 0 0 false false false) := by
    rw [e1]
    have h := RowAt.new ((w.alloc (.cells (spc a t l m b c g z) 48)).alloc (.cells (rlc p s i h false false) 57)) 57 (rlc 0 0 0 false false false)
    rwa [World.size_alloc, World.size_alloc] at h
  have k2 : w1.cell? ⟨w.heap.size + 1, 2, none⟩ = some (.int .i64 (i : Int)) := rl_cell hX 2 rfl
  have k3 : w1.cell? ⟨w.heap.size + 1, 3, none⟩ = some (.bool h) := rl_cell hX 3 rfl
  have k4 : w1.cell? ⟨w.heap.size + 1, 4, none⟩ = some (.bool false) := rl_cell hX 4 rfl
  have k5 : w1.cell? ⟨w.heap.size + 1, 5, none⟩ = some (.bool false) := rl_cell hX 5 rfl
  have kg : w1.cell? ⟨w.heap.size, 6, none⟩ = some (.int .i64 (g : Int)) := (RowAt.cell hSh 6).trans rfl
  have d1 : decide ((g : Int) ≤ (i : Int)) = true := by simp; omega
  have d2 : decide (g ≤ i) = true := by simp; omega
  obtain ⟨w2, hs2, hx2, hk2⟩ := rl_setG hX true
  have hz2 := RowAt.kept hZ hk2 (by omega)
  have HS2 := Lib.hid hs2
  have HX2 := Lib.hid hx2
  have HZ2 := Lib.hid hz2
  have HB2 : Hid (Below w.heap.size w w2) := Lib.hid (b1.trans (hk2.below b1.size fun y hy => by omega))
  clear hs2 hx2 hz2 hk2
  have HB1 := Lib.hid b1
  have HTS1 : Hid (w.heap.size + 1 + 1 < w1.heap.size) := Lib.hid (RowAt.lt hZ)
  have HSh := Lib.hid hSh
  have HX1 := Lib.hid hX
  have HZ1 := Lib.hid hZ
  have E1 := Lib.hid e1
  clear b1 hSh hX hZ e1
  go_enter Tryz.func16, Tryz.ntmps16
  go_upto_region 1 with fail
  rw [← E1.out]
  clear E1
  generalize hT2 : w.heap.size + 1 + 1 = T2 at *
  generalize hT1 : w.heap.size + 1 = T1 at *
  generalize hT0 : w.heap.size = T0 at *
  have HTT : Hid (w.heap.size = T0 ∧ T1 = T0 + 1 ∧ T2 = T0 + 1 + 1) := Lib.hid ⟨hT0, by omega, by omega⟩
  clear hT0 hT1 hT2
  go_upto_region 6 with fail
  clear k2 k3 k4 k5 kg
  go_upto_region 7 with (refine wpList_store_of rfl _ _ _ rfl ⟨T1, 4, none⟩ _ rfl rfl HS2.out ?_)
  simp only [Act.put]
  have HRow := HX2
  have HZero := HZ2
  have HTS : Hid (T0 ≤ w2.heap.size ∧ T0 ≤ T2) := Lib.hid ⟨by have := HB2.out.size; have := HTT.out; omega, by have := HTT.out; omega⟩
  have HR : Hid (∀ u, Below w2.heap.size w2 u → RowAt u T1 57 (rlc p s i h true false) ∧ RowAt u T2 57 (rlc 0 0 0 false false false)) := Lib.hid fun u hu => ⟨RowAt.step HRow.out hu, RowAt.step HZero.out hu⟩
  obtain ⟨F, hF⟩ : ∃ F : World → Prop, F = fun u => RowAt u T2 57 (rlc p s i h true false) ∧ Kept (fun j => j = T2) w2 u := ⟨_, rfl⟩
  have HFS : Hid (∀ u u', F u → Below u.heap.size u u' → F u') := Lib.hid fun u u' hu hb => by
    subst hF
    exact ⟨RowAt.step hu.1 hb, hu.2.trans (Kept.of_below (M := fun _ => False) hb) fun _ _ h => h.elim⟩
  have HFE : Hid (∀ u, F u → RowAt u T2 57 (rlc p s i h true false) ∧ Kept (fun j => j = T2) w2 u) := Lib.hid fun u hu => by subst hF; exact hu
  have HF : Hid (∀ u, Below w2.heap.size w2 u → F (u.setRow T2 (rlc p s i h true false))) := Lib.hid fun u hu => by
    subst hF
    exact ⟨RowAt.setRow (HR.out u hu).2 _, (Kept.of_below (M := fun j => j = T2) hu).trans (kept_row _ _ _) fun _ _ h => h⟩
  clear hF HRow HZero
  refine wp_region_stage (T0) [3] [] [[0], [0], [0], [], [1], [1]] [[Is v, Is (rlv p s i h true false), Is v, Free, Is (.int .i64 3), Is (.int .i64 0)], [Is v, IsF (rlv p s i h true false) F, Is v, Free, Is (.int .i64 3), Is (.int .i64 0)]] [Is v, IsF (rlv p s i h true false) F, Is v, Free, Is (.int .i64 3), Is (.int .i64 0)] HTS.out.1 (by kernel_rfl) (by kernel_rfl) rfl rfl ⟨⟨stable_is _, stable_is _, stable_is _, stable_free, stable_is _, stable_is _, trivial⟩, ⟨stable_is _, stable_isf _ HFS.out, stable_is _, stable_free, stable_is _, stable_is _, trivial⟩, trivial⟩ (by intro n hn o ho hd w; simp only [List.mem_cons, List.not_mem_nil, or_false] at hn; subst hn; first | trivial | (cases ho; cases hd)) rfl ⟨?p0, ?p1, ?p2, fun h => absurd (by simp) h, ?p4, ?p5, trivial⟩ ⟨?t0, trivial⟩ (by decide) ?fin
  case p0 =>
    intro _ k hk; obtain rfl := List.mem_singleton.1 hk; intro a w C Z
    exact partS_on (wanted_free rfl _) (op_move (.inl rfl) (C.was 1 (by kernel_rfl)))
  case p1 =>
    intro _ k hk; obtain rfl := List.mem_singleton.1 hk; intro a w C Z
    exact partS_on (wanted_free rfl _) (op_value (load_run rfl (C.was 7 (by kernel_rfl)) (rl_load (HR.out w C.below).1)) rfl)
  case p2 =>
    intro _ k hk; obtain rfl := List.mem_singleton.1 hk; intro a w C Z
    exact partS_on (wanted_free rfl _) (op_move (.inr rfl) (C.on (j := 0) (by kernel_rfl) rfl rfl))
  case p4 =>
    intro _ k hk; obtain rfl := List.mem_singleton.1 hk; intro a w C Z
    exact partS_on (wanted_free rfl _) (op_move (.inr rfl) rfl)
  case p5 =>
    intro _ k hk; obtain rfl := List.mem_singleton.1 hk; intro a w C Z
    exact partS_on (wanted_free rfl _) (op_move (.inr rfl) rfl)
  case t0 =>
    intro o ho a w C A
    cases ho
    have hr := (HR.out w C.below).2
    refine ⟨wanted_free rfl _, stage_store rfl (C.was 9 (by kernel_rfl)) (C.on (j := 1) (by kernel_rfl) rfl rfl) (rl_store hr) trivial (below_setRow (C.below.mono HTS.out.1) HTS.out.2 _) (Nat.le_of_eq (setRow_size _ _ _).symm) ?_⟩
    · intro i o2 d hi hd hne hnw h
      have hil := (List.getElem?_eq_some_iff.1 hi).1
      replace hil : i < 6 := hil
      obtain rfl | rfl | rfl | rfl | rfl | rfl : i = 0 ∨ i = 1 ∨ i = 2 ∨ i = 3 ∨ i = 4 ∨ i = 5 := by omega
      · exact h
      · exact ⟨h, HF.out w C.below⟩
      · exact h
      · exact absurd rfl hne
      · exact absurd hnw (by rw [show waits _ 4 3 = true from by kernel_rfl]; decide)
      · exact absurd hnw (by rw [show waits _ 5 3 = true from by kernel_rfl]; decide)
  case fin =>
    rintro wF hbF _ rfl _ ⟨rfl, hFF⟩ _ rfl _ _ _ rfl _ rfl
    simp only [Fin, setAt, Exit.then, List.setIfInBounds_toArray, List.set_cons_succ, List.set_cons_zero]
    obtain ⟨h1, h2⟩ := HFE.out _ hFF
    go_wp2
    refine bodyPost_ret (results_ref rfl _ (p := 9) rfl h1 Tryz.underlying57 rfl rl_size) rfl ⟨rfl, ?_⟩
    exact HTT.out.1.symm ▸ (((HTT.out.1 ▸ HB2.out : Below T0 w w2)).trans (h2.below HTS.out.1 fun y hy => by have := HTS.out; omega))
set_option maxHeartbeats 6400000 in
theorem rstep_look {i : Nat} (hi : i < g) : Calls Tryz.prog 16 #[spv a t l m b c g z, v, .int .i64 k, rlv p s i false false false] w fun e w' => e = .returned (.tuple #[v, rlv p s i true false false, .int .i64 1, .int .i64 0]) ∧ Below w.heap.size w w' := by
  obtain ⟨w1, e1⟩ : ∃ w1, w1 = ((w.alloc (.cells (spc a t l m b c g z) 48)).alloc (.cells (rlc p s i false false false) 57)).alloc (.cells (rlc 0 0 0 false false false) 57) := ⟨_, rfl⟩
  have b1 : Below w.heap.size w w1 := by rw [e1]; exact (two_box _ _ _).alloc (by simp only [World.size_alloc]; omega) _
  have hSh : RowAt w1 w.heap.size 48 (spc a t l m b c g z) := by rw [e1]; exact ((RowAt.new w _ _).alloc _).alloc _
  have hX : RowAt w1 (w.heap.size + 1) 57 (rlc p s i false false false) := by
    rw [e1]
    have h := RowAt.new (w.alloc (.cells (spc a t l m b c g z) 48)) 57 (rlc p s i false false false)
    rw [World.size_alloc] at h
    exact h.alloc _
  have hZ : RowAt w1 (w.heap.size + 1 + 1) 57 (rlc 0 0 0 false false false) := by
    rw [e1]
    have h := RowAt.new ((w.alloc (.cells (spc a t l m b c g z) 48)).alloc (.cells (rlc p s i false false false) 57)) 57 (rlc 0 0 0 false false false)
    rwa [World.size_alloc, World.size_alloc] at h
  have k2 : w1.cell? ⟨w.heap.size + 1, 2, none⟩ = some (.int .i64 (i : Int)) := rl_cell hX 2 rfl
  have k3 : w1.cell? ⟨w.heap.size + 1, 3, none⟩ = some (.bool false) := rl_cell hX 3 rfl
  have k4 : w1.cell? ⟨w.heap.size + 1, 4, none⟩ = some (.bool false) := rl_cell hX 4 rfl
  have k5 : w1.cell? ⟨w.heap.size + 1, 5, none⟩ = some (.bool false) := rl_cell hX 5 rfl
  have kg : w1.cell? ⟨w.heap.size, 6, none⟩ = some (.int .i64 (g : Int)) := (RowAt.cell hSh 6).trans rfl
  have d1 : decide ((g : Int) ≤ (i : Int)) = false := by simp; omega
  have d2 : decide (g ≤ i) = false := by simp; omega
  obtain ⟨w2, hs2, hx2, hk2⟩ := rl_setH hX true
  have hz2 := RowAt.kept hZ hk2 (by omega)
  have HS2 := Lib.hid hs2
  have HX2 := Lib.hid hx2
  have HZ2 := Lib.hid hz2
  have HB2 : Hid (Below w.heap.size w w2) := Lib.hid (b1.trans (hk2.below b1.size fun y hy => by omega))
  clear hs2 hx2 hz2 hk2
  have HB1 := Lib.hid b1
  have HTS1 : Hid (w.heap.size + 1 + 1 < w1.heap.size) := Lib.hid (RowAt.lt hZ)
  have HSh := Lib.hid hSh
  have HX1 := Lib.hid hX
  have HZ1 := Lib.hid hZ
  have E1 := Lib.hid e1
  clear b1 hSh hX hZ e1
  go_enter Tryz.func16, Tryz.ntmps16
  go_upto_region 1 with fail
  rw [← E1.out]
  clear E1
  generalize hT2 : w.heap.size + 1 + 1 = T2 at *
  generalize hT1 : w.heap.size + 1 = T1 at *
  generalize hT0 : w.heap.size = T0 at *
  have HTT : Hid (w.heap.size = T0 ∧ T1 = T0 + 1 ∧ T2 = T0 + 1 + 1) := Lib.hid ⟨hT0, by omega, by omega⟩
  clear hT0 hT1 hT2
  go_upto_region 9 with fail
  clear k2 k3 k4 k5 kg
  go_upto_region 10 with (refine wpList_store_of rfl _ _ _ rfl ⟨T1, 3, none⟩ _ rfl rfl HS2.out ?_)
  simp only [Act.put]
  have HRow := HX2
  have HZero := HZ2
  have HTS : Hid (T0 ≤ w2.heap.size ∧ T0 ≤ T2) := Lib.hid ⟨by have := HB2.out.size; have := HTT.out; omega, by have := HTT.out; omega⟩
  have HR : Hid (∀ u, Below w2.heap.size w2 u → RowAt u T1 57 (rlc p s i true false false) ∧ RowAt u T2 57 (rlc 0 0 0 false false false)) := Lib.hid fun u hu => ⟨RowAt.step HRow.out hu, RowAt.step HZero.out hu⟩
  obtain ⟨F, hF⟩ : ∃ F : World → Prop, F = fun u => RowAt u T2 57 (rlc p s i true false false) ∧ Kept (fun j => j = T2) w2 u := ⟨_, rfl⟩
  have HFS : Hid (∀ u u', F u → Below u.heap.size u u' → F u') := Lib.hid fun u u' hu hb => by
    subst hF
    exact ⟨RowAt.step hu.1 hb, hu.2.trans (Kept.of_below (M := fun _ => False) hb) fun _ _ h => h.elim⟩
  have HFE : Hid (∀ u, F u → RowAt u T2 57 (rlc p s i true false false) ∧ Kept (fun j => j = T2) w2 u) := Lib.hid fun u hu => by subst hF; exact hu
  have HF : Hid (∀ u, Below w2.heap.size w2 u → F (u.setRow T2 (rlc p s i true false false))) := Lib.hid fun u hu => by
    subst hF
    exact ⟨RowAt.setRow (HR.out u hu).2 _, (Kept.of_below (M := fun j => j = T2) hu).trans (kept_row _ _ _) fun _ _ h => h⟩
  clear hF HRow HZero
  refine wp_region_stage (T0) [3] [] [[0], [0], [0], [], [1], [1]] [[Is v, Is (rlv p s i true false false), Is v, Free, Is (.int .i64 1), Is (.int .i64 0)], [Is v, IsF (rlv p s i true false false) F, Is v, Free, Is (.int .i64 1), Is (.int .i64 0)]] [Is v, IsF (rlv p s i true false false) F, Is v, Free, Is (.int .i64 1), Is (.int .i64 0)] HTS.out.1 (by kernel_rfl) (by kernel_rfl) rfl rfl ⟨⟨stable_is _, stable_is _, stable_is _, stable_free, stable_is _, stable_is _, trivial⟩, ⟨stable_is _, stable_isf _ HFS.out, stable_is _, stable_free, stable_is _, stable_is _, trivial⟩, trivial⟩ (by intro n hn o ho hd w; simp only [List.mem_cons, List.not_mem_nil, or_false] at hn; subst hn; first | trivial | (cases ho; cases hd)) rfl ⟨?p0, ?p1, ?p2, fun h => absurd (by simp) h, ?p4, ?p5, trivial⟩ ⟨?t0, trivial⟩ (by decide) ?fin
  case p0 =>
    intro _ k hk; obtain rfl := List.mem_singleton.1 hk; intro a w C Z
    exact partS_on (wanted_free rfl _) (op_move (.inl rfl) (C.was 1 (by kernel_rfl)))
  case p1 =>
    intro _ k hk; obtain rfl := List.mem_singleton.1 hk; intro a w C Z
    exact partS_on (wanted_free rfl _) (op_value (load_run rfl (C.was 7 (by kernel_rfl)) (rl_load (HR.out w C.below).1)) rfl)
  case p2 =>
    intro _ k hk; obtain rfl := List.mem_singleton.1 hk; intro a w C Z
    exact partS_on (wanted_free rfl _) (op_move (.inr rfl) (C.on (j := 0) (by kernel_rfl) rfl rfl))
  case p4 =>
    intro _ k hk; obtain rfl := List.mem_singleton.1 hk; intro a w C Z
    exact partS_on (wanted_free rfl _) (op_move (.inr rfl) rfl)
  case p5 =>
    intro _ k hk; obtain rfl := List.mem_singleton.1 hk; intro a w C Z
    exact partS_on (wanted_free rfl _) (op_move (.inr rfl) rfl)
  case t0 =>
    intro o ho a w C A
    cases ho
    have hr := (HR.out w C.below).2
    refine ⟨wanted_free rfl _, stage_store rfl (C.was 9 (by kernel_rfl)) (C.on (j := 1) (by kernel_rfl) rfl rfl) (rl_store hr) trivial (below_setRow (C.below.mono HTS.out.1) HTS.out.2 _) (Nat.le_of_eq (setRow_size _ _ _).symm) ?_⟩
    · intro i o2 d hi hd hne hnw h
      have hil := (List.getElem?_eq_some_iff.1 hi).1
      replace hil : i < 6 := hil
      obtain rfl | rfl | rfl | rfl | rfl | rfl : i = 0 ∨ i = 1 ∨ i = 2 ∨ i = 3 ∨ i = 4 ∨ i = 5 := by omega
      · exact h
      · exact ⟨h, HF.out w C.below⟩
      · exact h
      · exact absurd rfl hne
      · exact absurd hnw (by rw [show waits _ 4 3 = true from by kernel_rfl]; decide)
      · exact absurd hnw (by rw [show waits _ 5 3 = true from by kernel_rfl]; decide)
  case fin =>
    rintro wF hbF _ rfl _ ⟨rfl, hFF⟩ _ rfl _ _ _ rfl _ rfl
    simp only [Fin, setAt, Exit.then, List.setIfInBounds_toArray, List.set_cons_succ, List.set_cons_zero]
    obtain ⟨h1, h2⟩ := HFE.out _ hFF
    go_wp2
    refine bodyPost_ret (results_ref rfl _ (p := 9) rfl h1 Tryz.underlying57 rfl rl_size) rfl ⟨rfl, ?_⟩
    exact HTT.out.1.symm ▸ (((HTT.out.1 ▸ HB2.out : Below T0 w w2)).trans (h2.below HTS.out.1 fun y hy => by have := HTS.out; omega))
end
theorem DocAt.other {w w' : World} {N c T : Nat} {v : Value} {gs : List Nat} {L : List (List Nat)} {C : Array Value} (hD : DocAt w N v c gs L) (hk : Kept (fun j => j = T) w w') (hT : RowAt w T 57 C) : DocAt w' N v c gs L :=
  ⟨own_kept hD.own hk fun y hv hm => by subst hm; exact own_unlike hD.own hT (by rfl) hv, hD.ge, hD.nd, fun y hy => RowAt.kept (hD.blk y hy) hk (RowAt.unlike (hD.blk y hy) hT (by rfl)), hD.ok, hD.len⟩
end Go.Proofs.YtfoodaobiknihaaGreatDoor
