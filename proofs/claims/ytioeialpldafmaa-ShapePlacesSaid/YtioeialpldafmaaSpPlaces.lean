/- The law ShapePlaces by the calls' contracts. Condition: the arguments are ints. -/
import Derived.Test.YtioeialpldafmaaSpOps
namespace Go.Proofs.Ytioeialpldafmaa
set_option maxRecDepth 50000
open Go.RowKit

theorem column_at (a t l m b c g z x y j : Nat) (h : x * g + y = j) (hj : j ≤ 4611686018427387904) (w : World) : Calls Try.prog 13 #[spv a t l m b c g z, .int .i64 (x : Int), .int .i64 (y : Int)] w fun e w' => ∃ v, e = .returned v ∧ Is (.int .i64 (j : Int)) v w' ∧ Below w.heap.size w w' := by
  have C := spcolumn_any a t l m b c g z x y (by omega) w
  rw [h] at C
  refine C.mono ?_
  rintro e w' ⟨rfl, hb⟩
  exact ⟨_, rfl, rfl, hb⟩

set_option maxHeartbeats 1600000 in
theorem places_none (pa pt pm pl pz k j : Int) (h : mayB pa pt pm pl pz = false) (w : World) : Calls Try.prog 4 #[pav pa pt pm pl pz, .int .i64 k, .int .i64 j] w fun e w' => e = .returned (.bool true) ∧ Below w.heap.size w w' := by
  have CA := Lib.hid (awake27_any)
  have CO := Lib.hid (of_bad pa pt pm pl pz h)
  have HB := Lib.hid (one_box w (.cells (pac pa pt pm pl pz) 23))
  have HR := Lib.hid (RowAt.new w 23 (pac pa pt pm pl pz))
  clear h
  go_enter Try.func4, Try.ntmps4
  go_wp2_with fail
  refine (CA.out _).mono ?_
  rintro e w1 ⟨rfl, hb⟩
  have HB1 := Lib.hid (HB.out.trans (hb.mono (Nat.le_of_lt (by rw [World.size_alloc]; omega))))
  have HR1 := Lib.hid (HR.out.below hb (by rw [World.size_alloc]; omega))
  clear hb CA HB HR
  go_wp2_with (refine wpList_load_want rfl 23 _ rfl _ _ rfl (pa_load HR1.out) ?_)
  refine (CO.out _).mono ?_
  rintro e w2 ⟨rfl, hb⟩
  have HB2 := Lib.hid ((HB1.out.trans (hb.mono HB1.out.size)).alloc (Nat.le_trans HB1.out.size hb.size) (.cells spzc 26))
  clear hb CO HB1 HR1
  go_wp2
  go_ret
  exact ⟨rfl, HB2.out⟩
/-- what is known where the shape has been made -/
structure Made (w wr : World) (q : Nat) (a t l m b c g z : Nat) : Prop where
  row : RowAt wr q 26 (spc a t l m b c g z)
  below : Below w.heap.size w wr
theorem Made.on {w wr w' : World} {q a t l m b c g z : Nat} (H : Made w wr q a t l m b c g z) (hb : Below wr.heap.size wr w') : Made w w' q a t l m b c g z := ⟨H.row.step hb, H.below.trans (hb.mono H.below.size)⟩
theorem Made.facts {w wr : World} {q a t l m b c g z : Nat} (H : Made w wr q a t l m b c g z) : wr.cell? ⟨q, 0 + 4, none⟩ = some (.int .i64 (b : Int)) ∧ wr.cell? ⟨q, 0 + 5, none⟩ = some (.int .i64 (c : Int)) ∧ wr.cell? ⟨q, 0 + 6, none⟩ = some (.int .i64 (g : Int)) ∧ (loadVar 26 ⟨q, 0, none⟩).run Try.prog wr = .ok (spv a t l m b c g z) wr :=
  ⟨(H.row.cell 4).trans rfl, (H.row.cell 5).trans rfl, (H.row.cell 6).trans rfl, sp_load H.row⟩

set_option maxHeartbeats 1600000 in
theorem places_other (a t l m b c g z : Nat) (k j : Int) (CO : ∀ w : World, Calls Try.prog 6 #[pav a t m l z] w fun e w' => e = .returned (.tuple #[spv a t l m b c g z, .int .i64 0]) ∧ Below w.heap.size w w')
    (h : k < 0 ∨ (0 ≤ k ∧ (l : Int) ≤ k) ∨ (0 ≤ k ∧ k < l ∧ j < 0) ∨ (0 ≤ k ∧ k < l ∧ 0 ≤ j ∧ (c : Int) ≤ j)) (w : World) : Calls Try.prog 4 #[pav a t m l z, .int .i64 k, .int .i64 j] w fun e w' => e = .returned (.bool true) ∧ Below w.heap.size w w' := by
  have CA := Lib.hid (awake27_any)
  have CO := Lib.hid CO
  have HB := Lib.hid (one_box w (.cells (pac a t m l z) 23))
  have HR := Lib.hid (RowAt.new w 23 (pac a t m l z))
  have HH := Lib.hid h
  clear h
  go_enter Try.func4, Try.ntmps4
  go_wp2_with fail
  refine (CA.out _).mono ?_
  rintro e w1 ⟨rfl, hb⟩
  have HB1 := Lib.hid (HB.out.trans (hb.mono (Nat.le_of_lt (by rw [World.size_alloc]; omega))))
  have HR1 := Lib.hid (HR.out.below hb (by rw [World.size_alloc]; omega))
  clear hb CA HB HR
  go_wp2_with (refine wpList_load_want rfl 23 _ rfl _ _ rfl (pa_load HR1.out) ?_)
  refine (CO.out _).mono ?_
  rintro e w2 ⟨rfl, hb⟩
  have HB2 := Lib.hid ((HB1.out.trans (hb.mono HB1.out.size)).alloc (Nat.le_trans HB1.out.size hb.size) (.cells (spc a t l m b c g z) 26))
  clear hb CO HB1 HR1
  rcases HH.out with h1 | ⟨h1, h2⟩ | ⟨h1, h2, h3⟩ | ⟨h1, h2, h3, h4⟩
  all_goals
    clear HH
    go_wp2
    go_ret
    exact ⟨rfl, HB2.out⟩

set_option maxHeartbeats 6400000 in
theorem places_good (a t l m b c g z k j n B x y : Nat) (CO : ∀ w : World, Calls Try.prog 6 #[pav a t m l z] w fun e w' => e = .returned (.tuple #[spv a t l m b c g z, .int .i64 0]) ∧ Below w.heap.size w w')
    (hk : k < l) (hj : j < c) (hn : k * c + j = n) (hnb : n < b) (hbb : b ≤ 4294967295) (hcc : c ≤ 4294967295) (hg0 : 0 < g) (q1 : n / c = k) (q2 : n % c = j) (hB : befN c j = (B : Int)) (hBB : B ≤ 4294967295) (q3 : (B + 1) % c = j) (q4 : j / g = x) (q5 : j % g = y) (q6 : x * g + y = j) (w : World) :
    Calls Try.prog 4 #[pav a t m l z, .int .i64 (k : Int), .int .i64 (j : Int)] w fun e w' => e = .returned (.bool true) ∧ Below w.heap.size w w' := by
  have CA := Lib.hid (awake27_any)
  have CO := Lib.hid CO
  have CP := Lib.hid (spplace_any a t l m b c g z k j (by omega))
  have CB := Lib.hid (spbefore_any a t l m b c g z j (by omega) (by omega))
  have CC := Lib.hid (column_at a t l m b c g z x y j q6 (by omega))
  rw [hn] at CP
  rw [hB] at CB
  have HB := Lib.hid (one_box w (.cells (pac a t m l z) 23))
  have HR := Lib.hid (RowAt.new w 23 (pac a t m l z))
  have Q1 := Lib.hid q1
  have Q2 := Lib.hid q2
  have Q3 := Lib.hid q3
  have Q4 := Lib.hid q4
  have Q5 := Lib.hid q5
  have hc0 : 0 < c := by omega
  have hk1 : (k : Int) < (l : Int) := by omega
  have hj1 : (j : Int) < (c : Int) := by omega
  have hn4 : n ≤ 4611686018427387904 := by omega
  have hj4 : j ≤ 4611686018427387904 := by omega
  clear q1 q2 q3 q4 q5 q6 hn hB
  go_enter Try.func4, Try.ntmps4
  go_wp2_with fail
  refine (CA.out _).mono ?_
  rintro e w1 ⟨rfl, hb⟩
  have HB1 := Lib.hid (HB.out.trans (hb.mono (Nat.le_of_lt (by rw [World.size_alloc]; omega))))
  have HR1 := Lib.hid (HR.out.below hb (by rw [World.size_alloc]; omega))
  clear hb CA HB HR
  go_wp2_with (refine wpList_load_want rfl 23 _ rfl _ _ rfl (pa_load HR1.out) ?_)
  refine (CO.out _).mono ?_
  rintro e w2 ⟨rfl, hb⟩
  have HM := Lib.hid (Made.mk (RowAt.new w2 26 (spc a t l m b c g z)) ((HB1.out.trans (hb.mono HB1.out.size)).alloc (Nat.le_trans HB1.out.size hb.size) _))
  clear hb CO HB1 HR1
  go_wp2_with fail
  refine (CP.out _).mono ?_
  rintro e w3 ⟨rfl, hb⟩
  have HM3 := Lib.hid (HM.out.on hb)
  clear hb CP HM
  generalize w2.heap.size = q at *
  go_wp2_with (refine wpList_load_want rfl 26 _ rfl _ _ rfl HM3.out.facts.2.2.2 ?_)
  refine (CB.out _).mono ?_
  rintro e w4 ⟨rfl, hb⟩
  have HM4 := Lib.hid (HM3.out.on hb)
  clear hb CB HM3
  have HC : Hid (∀ w', Below w4.heap.size w4 w' → _) := Lib.hid fun w' hb => (HM4.out.on hb).facts


  go_wp2_with fail
  refine wp_region_text [Is (.int .i64 (n : Int)), Is (.bool true), Is (.bool true), Is (.int .i64 (n : Int)), Is (.pointer (some ⟨q, 0 + 4, none⟩)), Is (.int .i64 (b : Int)), Is (.bool true), Is (.bool true), Is (.bool true), Is (.int .i64 (n : Int)), Is (.pointer (some ⟨q, 0 + 5, none⟩)), Is (.int .i64 (c : Int)), Is (.int .i64 (k : Int)), Is (.int .i64 (k : Int)), Is (.bool true), Is (.bool true), Is (.bool true), Is (.int .i64 (n : Int)), Is (.pointer (some ⟨q, 0 + 5, none⟩)), Is (.int .i64 (c : Int)), Is (.int .i64 (j : Int)), Is (.int .i64 (j : Int)), Is (.bool true), Is (.bool true), Is (.bool true), Is (.int .i64 (B : Int)), Is (.int .i64 ((B + 1 : Nat) : Int)), Is (.pointer (some ⟨q, 0 + 5, none⟩)), Is (.int .i64 (c : Int)), Is (.int .i64 (j : Int)), Is (.int .i64 (j : Int)), Is (.bool true), Is (.bool true), Is (.bool true), Is (.int .i64 (B : Int)), Is (.bool true), Is (.bool true), Is (.bool true), Is (spv a t l m b c g z), Is (.int .i64 (j : Int)), Is (.pointer (some ⟨q, 0 + 6, none⟩)), Is (.int .i64 (g : Int)), Is (.int .i64 (x : Int)), Is (.int .i64 (j : Int)), Is (.pointer (some ⟨q, 0 + 6, none⟩)), Is (.int .i64 (g : Int)), Is (.int .i64 (y : Int)), Is (.int .i64 (j : Int)), Is (.int .i64 (j : Int)), Is (.bool true), Is (.bool true), Is (.bool true)] (by kernel_rfl) (by kernel_rfl) rfl ⟨stable_is _, stable_is _, stable_is _, stable_is _, stable_is _, stable_is _, stable_is _, stable_is _, stable_is _, stable_is _, stable_is _, stable_is _, stable_is _, stable_is _, stable_is _, stable_is _, stable_is _, stable_is _, stable_is _, stable_is _, stable_is _, stable_is _, stable_is _, stable_is _, stable_is _, stable_is _, stable_is _, stable_is _, stable_is _, stable_is _, stable_is _, stable_is _, stable_is _, stable_is _, stable_is _, stable_is _, stable_is _, stable_is _, stable_is _, stable_is _, stable_is _, stable_is _, stable_is _, stable_is _, stable_is _, stable_is _, stable_is _, stable_is _, stable_is _, stable_is _, stable_is _, stable_is _, trivial⟩ ⟨?_, ?_, ?_, ?_, ?_, ?_, ?_, ?_, ?_, ?_, ?_, ?_, ?_, ?_, ?_, ?_, ?_, ?_, ?_, ?_, ?_, ?_, ?_, ?_, ?_, ?_, ?_, ?_, ?_, ?_, ?_, ?_, ?_, ?_, ?_, ?_, ?_, ?_, ?_, ?_, ?_, ?_, ?_, ?_, ?_, ?_, ?_, ?_, ?_, ?_, ?_, ?_, trivial⟩ ?_
  · intro a w C
    exact part_on (wanted_free rfl _) (op_move (.inl rfl) (C.was 9 (by kernel_rfl)))
  · intro a w C
    exact part_on (wanted_free rfl _) (op_bin rfl (C.on (j := 0) (by kernel_rfl) rfl rfl) rfl rfl (geq_run w _ _ (by omega)) rfl)
  · intro a w C
    exact part_on (wanted_free rfl _) (op_move (.inl rfl) (C.on (j := 1) (by kernel_rfl) rfl rfl))
  · intro a w C
    exact part_on (wanted_on (j := 2) rfl rfl rfl (C.on (j := 2) (by kernel_rfl) rfl rfl)) (op_move (.inl rfl) (C.was 9 (by kernel_rfl)))
  · intro a w C
    exact part_on (wanted_on (j := 2) rfl rfl rfl (C.on (j := 2) (by kernel_rfl) rfl rfl)) (op_value (spf_run (k := 4) rfl (by decide) (C.was 7 (by kernel_rfl))) rfl)
  · intro a w C
    exact part_on (wanted_on (j := 2) rfl rfl rfl (C.on (j := 2) (by kernel_rfl) rfl rfl)) (op_value (int_run rfl (C.on (j := 4) (by kernel_rfl) rfl rfl) (HC.out w C.below).1) rfl)
  · intro a w C
    exact part_on (wanted_on (j := 2) rfl rfl rfl (C.on (j := 2) (by kernel_rfl) rfl rfl)) (op_bin rfl (C.on (j := 3) (by kernel_rfl) rfl rfl) (C.on (j := 5) (by kernel_rfl) rfl rfl) rfl (lss_run w _ _ (by omega)) rfl)
  · intro a w C
    exact part_on (wanted_free rfl _) (op_pick (k := true) rfl (C.on (j := 2) (by kernel_rfl) rfl rfl) (C.on (j := 6) (by kernel_rfl) rfl rfl))
  · intro a w C
    exact part_on (wanted_free rfl _) (op_move (.inl rfl) (C.on (j := 7) (by kernel_rfl) rfl rfl))
  · intro a w C
    exact part_on (wanted_on (j := 8) rfl rfl rfl (C.on (j := 8) (by kernel_rfl) rfl rfl)) (op_move (.inl rfl) (C.was 9 (by kernel_rfl)))
  · intro a w C
    exact part_on (wanted_on (j := 8) rfl rfl rfl (C.on (j := 8) (by kernel_rfl) rfl rfl)) (op_value (spf_run (k := 5) rfl (by decide) (C.was 7 (by kernel_rfl))) rfl)
  · intro a w C
    exact part_on (wanted_on (j := 8) rfl rfl rfl (C.on (j := 8) (by kernel_rfl) rfl rfl)) (op_value (int_run rfl (C.on (j := 10) (by kernel_rfl) rfl rfl) (HC.out w C.below).2.1) rfl)
  · intro a w C
    exact part_on (wanted_on (j := 8) rfl rfl rfl (C.on (j := 8) (by kernel_rfl) rfl rfl)) (op_bin rfl (C.on (j := 9) (by kernel_rfl) rfl rfl) (C.on (j := 11) (by kernel_rfl) rfl rfl) rfl (quo_run w n c k hc0 Q1.out hn4) rfl)
  · intro a w C
    exact part_on (wanted_on (j := 8) rfl rfl rfl (C.on (j := 8) (by kernel_rfl) rfl rfl)) (op_move (.inl rfl) (C.was 1 (by kernel_rfl)))
  · intro a w C
    exact part_on (wanted_on (j := 8) rfl rfl rfl (C.on (j := 8) (by kernel_rfl) rfl rfl)) (op_bin rfl (C.on (j := 12) (by kernel_rfl) rfl rfl) (C.on (j := 13) (by kernel_rfl) rfl rfl) rfl (eql_run w _) rfl)
  · intro a w C
    exact part_on (wanted_free rfl _) (op_pick (k := true) rfl (C.on (j := 8) (by kernel_rfl) rfl rfl) (C.on (j := 14) (by kernel_rfl) rfl rfl))
  · intro a w C
    exact part_on (wanted_free rfl _) (op_move (.inl rfl) (C.on (j := 15) (by kernel_rfl) rfl rfl))
  · intro a w C
    exact part_on (wanted_on (j := 16) rfl rfl rfl (C.on (j := 16) (by kernel_rfl) rfl rfl)) (op_move (.inl rfl) (C.was 9 (by kernel_rfl)))
  · intro a w C
    exact part_on (wanted_on (j := 16) rfl rfl rfl (C.on (j := 16) (by kernel_rfl) rfl rfl)) (op_value (spf_run (k := 5) rfl (by decide) (C.was 7 (by kernel_rfl))) rfl)
  · intro a w C
    exact part_on (wanted_on (j := 16) rfl rfl rfl (C.on (j := 16) (by kernel_rfl) rfl rfl)) (op_value (int_run rfl (C.on (j := 18) (by kernel_rfl) rfl rfl) (HC.out w C.below).2.1) rfl)
  · intro a w C
    exact part_on (wanted_on (j := 16) rfl rfl rfl (C.on (j := 16) (by kernel_rfl) rfl rfl)) (op_bin rfl (C.on (j := 17) (by kernel_rfl) rfl rfl) (C.on (j := 19) (by kernel_rfl) rfl rfl) rfl (rem_run w n c j hc0 Q2.out) rfl)
  · intro a w C
    exact part_on (wanted_on (j := 16) rfl rfl rfl (C.on (j := 16) (by kernel_rfl) rfl rfl)) (op_move (.inl rfl) (C.was 2 (by kernel_rfl)))
  · intro a w C
    exact part_on (wanted_on (j := 16) rfl rfl rfl (C.on (j := 16) (by kernel_rfl) rfl rfl)) (op_bin rfl (C.on (j := 20) (by kernel_rfl) rfl rfl) (C.on (j := 21) (by kernel_rfl) rfl rfl) rfl (eql_run w _) rfl)
  · intro a w C
    exact part_on (wanted_free rfl _) (op_pick (k := true) rfl (C.on (j := 16) (by kernel_rfl) rfl rfl) (C.on (j := 22) (by kernel_rfl) rfl rfl))
  · intro a w C
    exact part_on (wanted_free rfl _) (op_move (.inl rfl) (C.on (j := 23) (by kernel_rfl) rfl rfl))
  · intro a w C
    exact part_on (wanted_on (j := 24) rfl rfl rfl (C.on (j := 24) (by kernel_rfl) rfl rfl)) (op_move (.inl rfl) (C.was 10 (by kernel_rfl)))
  · intro a w C
    exact part_on (wanted_on (j := 24) rfl rfl rfl (C.on (j := 24) (by kernel_rfl) rfl rfl)) (op_bin rfl (C.on (j := 25) (by kernel_rfl) rfl rfl) rfl rfl (add_run w _ _ _ (by omega) (by omega) (by omega)) rfl)
  · intro a w C
    exact part_on (wanted_on (j := 24) rfl rfl rfl (C.on (j := 24) (by kernel_rfl) rfl rfl)) (op_value (spf_run (k := 5) rfl (by decide) (C.was 7 (by kernel_rfl))) rfl)
  · intro a w C
    exact part_on (wanted_on (j := 24) rfl rfl rfl (C.on (j := 24) (by kernel_rfl) rfl rfl)) (op_value (int_run rfl (C.on (j := 27) (by kernel_rfl) rfl rfl) (HC.out w C.below).2.1) rfl)
  · intro a w C
    exact part_on (wanted_on (j := 24) rfl rfl rfl (C.on (j := 24) (by kernel_rfl) rfl rfl)) (op_bin rfl (C.on (j := 26) (by kernel_rfl) rfl rfl) (C.on (j := 28) (by kernel_rfl) rfl rfl) rfl (rem_run w (B + 1) c j hc0 Q3.out) rfl)
  · intro a w C
    exact part_on (wanted_on (j := 24) rfl rfl rfl (C.on (j := 24) (by kernel_rfl) rfl rfl)) (op_move (.inl rfl) (C.was 2 (by kernel_rfl)))
  · intro a w C
    exact part_on (wanted_on (j := 24) rfl rfl rfl (C.on (j := 24) (by kernel_rfl) rfl rfl)) (op_bin rfl (C.on (j := 29) (by kernel_rfl) rfl rfl) (C.on (j := 30) (by kernel_rfl) rfl rfl) rfl (eql_run w _) rfl)
  · intro a w C
    exact part_on (wanted_free rfl _) (op_pick (k := true) rfl (C.on (j := 24) (by kernel_rfl) rfl rfl) (C.on (j := 31) (by kernel_rfl) rfl rfl))
  · intro a w C
    exact part_on (wanted_free rfl _) (op_move (.inl rfl) (C.on (j := 32) (by kernel_rfl) rfl rfl))
  · intro a w C
    exact part_on (wanted_on (j := 33) rfl rfl rfl (C.on (j := 33) (by kernel_rfl) rfl rfl)) (op_move (.inl rfl) (C.was 10 (by kernel_rfl)))
  · intro a w C
    exact part_on (wanted_on (j := 33) rfl rfl rfl (C.on (j := 33) (by kernel_rfl) rfl rfl)) (op_bin rfl (C.on (j := 34) (by kernel_rfl) rfl rfl) rfl rfl (geq_run w _ _ (by omega)) rfl)
  · intro a w C
    exact part_on (wanted_free rfl _) (op_pick (k := true) rfl (C.on (j := 33) (by kernel_rfl) rfl rfl) (C.on (j := 35) (by kernel_rfl) rfl rfl))
  · intro a w C
    exact part_on (wanted_free rfl _) (op_move (.inl rfl) (C.on (j := 36) (by kernel_rfl) rfl rfl))
  · intro a w C
    exact part_on (wanted_on (j := 37) rfl rfl rfl (C.on (j := 37) (by kernel_rfl) rfl rfl)) (op_value (load_run rfl (C.was 7 (by kernel_rfl)) (HC.out w C.below).2.2.2) rfl)
  · intro a w C
    exact part_on (wanted_on (j := 37) rfl rfl rfl (C.on (j := 37) (by kernel_rfl) rfl rfl)) (op_move (.inl rfl) (C.was 2 (by kernel_rfl)))
  · intro a w C
    exact part_on (wanted_on (j := 37) rfl rfl rfl (C.on (j := 37) (by kernel_rfl) rfl rfl)) (op_value (spf_run (k := 6) rfl (by decide) (C.was 7 (by kernel_rfl))) rfl)
  · intro a w C
    exact part_on (wanted_on (j := 37) rfl rfl rfl (C.on (j := 37) (by kernel_rfl) rfl rfl)) (op_value (int_run rfl (C.on (j := 40) (by kernel_rfl) rfl rfl) (HC.out w C.below).2.2.1) rfl)
  · intro a w C
    exact part_on (wanted_on (j := 37) rfl rfl rfl (C.on (j := 37) (by kernel_rfl) rfl rfl)) (op_bin rfl (C.on (j := 39) (by kernel_rfl) rfl rfl) (C.on (j := 41) (by kernel_rfl) rfl rfl) rfl (quo_run w j g x hg0 Q4.out hj4) rfl)
  · intro a w C
    exact part_on (wanted_on (j := 37) rfl rfl rfl (C.on (j := 37) (by kernel_rfl) rfl rfl)) (op_move (.inl rfl) (C.was 2 (by kernel_rfl)))
  · intro a w C
    exact part_on (wanted_on (j := 37) rfl rfl rfl (C.on (j := 37) (by kernel_rfl) rfl rfl)) (op_value (spf_run (k := 6) rfl (by decide) (C.was 7 (by kernel_rfl))) rfl)
  · intro a w C
    exact part_on (wanted_on (j := 37) rfl rfl rfl (C.on (j := 37) (by kernel_rfl) rfl rfl)) (op_value (int_run rfl (C.on (j := 44) (by kernel_rfl) rfl rfl) (HC.out w C.below).2.2.1) rfl)
  · intro a w C
    exact part_on (wanted_on (j := 37) rfl rfl rfl (C.on (j := 37) (by kernel_rfl) rfl rfl)) (op_bin rfl (C.on (j := 43) (by kernel_rfl) rfl rfl) (C.on (j := 45) (by kernel_rfl) rfl rfl) rfl (rem_run w j g y hg0 Q5.out) rfl)
  · intro a w C
    exact part_on (wanted_on (j := 37) rfl rfl rfl (C.on (j := 37) (by kernel_rfl) rfl rfl)) (op_call3 rfl (reg_enters Try.func13 (by kernel_rfl) (by kernel_rfl)) (C.on (j := 38) (by kernel_rfl) rfl rfl) (C.on (j := 42) (by kernel_rfl) rfl rfl) (C.on (j := 46) (by kernel_rfl) rfl rfl) (CC.out w))
  · intro a w C
    exact part_on (wanted_on (j := 37) rfl rfl rfl (C.on (j := 37) (by kernel_rfl) rfl rfl)) (op_move (.inl rfl) (C.was 2 (by kernel_rfl)))
  · intro a w C
    exact part_on (wanted_on (j := 37) rfl rfl rfl (C.on (j := 37) (by kernel_rfl) rfl rfl)) (op_bin rfl (C.on (j := 47) (by kernel_rfl) rfl rfl) (C.on (j := 48) (by kernel_rfl) rfl rfl) rfl (eql_run w _) rfl)
  · intro a w C
    exact part_on (wanted_free rfl _) (op_pick (k := true) rfl (C.on (j := 37) (by kernel_rfl) rfl rfl) (C.on (j := 49) (by kernel_rfl) rfl rfl))
  · intro a w C
    exact part_on (wanted_free rfl _) (op_move (.inr rfl) (C.on (j := 50) (by kernel_rfl) rfl rfl))
  rintro wF hbF _ rfl _ rfl _ rfl _ rfl _ rfl _ rfl _ rfl _ rfl _ rfl _ rfl _ rfl _ rfl _ rfl _ rfl _ rfl _ rfl _ rfl _ rfl _ rfl _ rfl _ rfl _ rfl _ rfl _ rfl _ rfl _ rfl _ rfl _ rfl _ rfl _ rfl _ rfl _ rfl _ rfl _ rfl _ rfl _ rfl _ rfl _ rfl _ rfl _ rfl _ rfl _ rfl _ rfl _ rfl _ rfl _ rfl _ rfl _ rfl _ rfl _ rfl _ rfl _ rfl
  simp only [Fin, setAt, Exit.then, List.setIfInBounds_toArray, List.set_cons_succ, List.set_cons_zero]
  have HBF := Lib.hid (HM4.out.on hbF).below
  clear hbF HC HM4
  go_wp2
  go_ret
  exact ⟨rfl, HBF.out⟩

theorem places27_any (pa pt pm pl pz k j : Int) (w : World) : Calls Try.prog 4 #[pav pa pt pm pl pz, .int .i64 k, .int .i64 j] w fun e w' => e = .returned (.bool true) ∧ Below w.heap.size w w' := by
  cases h : mayB pa pt pm pl pz
  · exact places_none pa pt pm pl pz k j h w
  · obtain ⟨a, t, m, l, z, rfl, rfl, rfl, rfl, rfl, hM⟩ := may_nats h
    obtain ⟨b, c, g, hg, hc, hb, hbm, -, CO⟩ := of_good hM
    by_cases hbad : k < 0 ∨ (0 ≤ k ∧ (l : Int) ≤ k) ∨ (0 ≤ k ∧ k < l ∧ j < 0) ∨ (0 ≤ k ∧ k < l ∧ 0 ≤ j ∧ (c : Int) ≤ j)
    · exact places_other a t l m b c g z k j CO hbad w
    · obtain ⟨k, rfl⟩ := Int.eq_ofNat_of_zero_le (show 0 ≤ k by omega)
      obtain ⟨j, rfl⟩ := Int.eq_ofNat_of_zero_le (show 0 ≤ j by omega)
      have hk : k < l := by omega
      have hj : j < c := by omega
      have hm : m ≤ 4294967295 := hM.2.2.2.2.2.2.1
      have hl : 1 ≤ l := hM.2.2.2.1
      have hnb : k * c + j < b := by
        have := Nat.mul_le_mul_right c hk
        rw [Nat.succ_mul] at this
        omega
      have hcb : c ≤ b := by rw [hb]; exact Nat.le_mul_of_pos_left _ (by omega)
      refine places_good a t l m b c g z k j (k * c + j) (if j = 0 then c - 1 else j - 1) (j / g) (j % g) CO hk hj rfl hnb (by omega) (by omega) (by omega) ?_ ?_ ?_ ?_ ?_ rfl rfl ?_ w
      · rw [Nat.add_comm, Nat.add_mul_div_right _ _ (by omega), Nat.div_eq_of_lt hj, Nat.zero_add]
      · rw [Nat.mul_comm, Nat.mul_add_mod, Nat.mod_eq_of_lt hj]
      · unfold befN
        split <;> omega
      · split <;> omega
      · split
        · rename_i h0
          rw [show c - 1 + 1 = c by omega, Nat.mod_self, h0]
        · rw [show j - 1 + 1 = j by omega, Nat.mod_eq_of_lt hj]
      · rw [Nat.mul_comm]; exact Nat.div_add_mod j g
end Go.Proofs.Ytioeialpldafmaa
