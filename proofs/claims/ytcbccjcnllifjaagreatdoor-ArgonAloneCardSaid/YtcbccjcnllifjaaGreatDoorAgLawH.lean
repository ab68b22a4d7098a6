/- The law ArgonHeads by the calls' contracts. Conditions: texts are no longer than what may come in; blake's and blend's tables lie at their places. -/
import Derived.Test.YtcbccjcnllifjaaGreatDoorAgAwake
import Derived.Test.YtcbccjcnllifjaaGreatDoorAgRef
namespace Go.Proofs.YtcbccjcnllifjaaGreatDoor
set_option maxRecDepth 50000
open Go.RowKit Bb Bl
theorem op_call0 {P : Program} {o : Oper} {a : Act} {w : World} {Q : Exit → Act → World → Prop} {p : Value → World → Prop} {f : FuncId} {ts : Array TypeId} (ho : o.op = .call { callee := .value (.func f), args := #[], argTypes := ts }) (he : ∀ (args : Array Value) (w : World), (callFunc f args).run P w = .ok (.enter f args) w)
    (hc : Calls P f #[] w fun e w' => ∃ v, e = .returned v ∧ p v w' ∧ Below w.heap.size w w') : Does P p o a w Q := op_call ho he hc
theorem ways33 (pa pt pm pl pz : Int) (s1 s2 s3 s4 : ByteArray) (h1 : s1.size ≤ 5000) (h2 : s2.size ≤ 5000) (h3 : s3.size ≤ 5000) (h4 : s4.size ≤ 5000) :
    (∃ E : Int, E ≠ 0 ∧ (∀ w, QAt w → Calls Tryz.prog 7 #[pav pa pt pm pl pz, inv s1 s2 s3 s4] w fun e w' => e = .returned (.tuple #[.string ⟨#[]⟩, .int .i64 E]) ∧ Below w.heap.size w w') ∧
      (∀ w, Calls Tryz.prog 8 #[pav pa pt pm pl pz, inv s1 s2 s3 s4] w fun e w' => e = .returned (.int .i64 E) ∧ Below w.heap.size w w') ∧ (∀ w, Calls Tryz.prog 9 #[pav pa pt pm pl pz, inv s1 s2 s3 s4] w fun e w' => e = .returned (.int .i64 E) ∧ Below w.heap.size w w') ∧
      ((∀ w, Calls Tryz.prog 15 #[pav pa pt pm pl pz] w fun e w' => e = .returned (.tuple #[spz, .bool false]) ∧ Below w.heap.size w w') ∨ (∃ al t l m b c g z : Nat, ∀ w, Calls Tryz.prog 15 #[pav pa pt pm pl pz] w fun e w' => e = .returned (.tuple #[spv al t l m b c g z, .bool true]) ∧ Below w.heap.size w w'))) ∨
    (∃ al t l m b c g z : Nat, pa = al ∧ pt = t ∧ pm = m ∧ pl = l ∧ pz = z ∧ Mok al t m l z ∧ 2 ≤ g ∧ c = 4 * g ∧ b = l * c ∧ b ≤ m ∧ s1.size ≤ 4096 ∧ s2.size ≤ 64 ∧ s3.size ≤ 4096 ∧ s4.size ≤ 4096 ∧
      (∀ w, Calls Tryz.prog 23 #[pav al t m l z] w fun e w' => e = .returned (.tuple #[spv al t l m b c g z, .int .i64 0]) ∧ Below w.heap.size w w') ∧ (∀ w, Calls Tryz.prog 15 #[pav al t m l z] w fun e w' => e = .returned (.tuple #[spv al t l m b c g z, .bool true]) ∧ Below w.heap.size w w') ∧
      (∀ w, QAt w → Calls Tryz.prog 7 #[pav al t m l z, inv s1 s2 s3 s4] w fun e w' => e = .returned (.tuple #[.string (tx (hdL al t l m z s1 s2 s3 s4)), .int .i64 0]) ∧ Below w.heap.size w w') ∧
      (∀ w, Calls Tryz.prog 8 #[pav al t m l z, inv s1 s2 s3 s4] w fun e w' => e = .returned (.int .i64 0) ∧ Below w.heap.size w w') ∧ (∀ w, Calls Tryz.prog 9 #[pav al t m l z, inv s1 s2 s3 s4] w fun e w' => e = .returned (.int .i64 0) ∧ Below w.heap.size w w')) := by
  cases hM : mayB pa pt pm pl pz with
  | false =>
    have CC := check_bad pa pt pm pl pz hM s1 s2 s3 s4
    exact .inl ⟨2, by decide, fun w _ => head_bad pa pt pm pl pz s1 s2 s3 s4 (by decide) CC w, why_bad pa pt pm pl pz hM s1 s2 s3 s4, CC, .inl (rof_bad pa pt pm pl pz hM)⟩
  | true =>
    obtain ⟨a, t, m, l, z, rfl, rfl, rfl, rfl, rfl, hO⟩ := may_nats hM
    obtain ⟨b, c, g, hg, hc, hb, hbm, hgm, CO⟩ := of_good hO
    have CR := rof_good hO hgm hc hb hbm
    have CC := check_good CO s1 s2 s3 s4 (by omega)
    have CW := why_good CR s1 s2 s3 s4 (by omega) (by omega) (by omega) (by omega)
    by_cases hE : wyN s1.size s2.size s3.size s4.size = 0
    · rw [hE] at CC CW
      have hx : ¬ (s2.size < 8 ∨ 64 < s2.size) := fun h => by rw [wy_salt h] at hE; cases hE
      have hy : ¬ (4096 < s1.size ∨ 4096 < s3.size ∨ 4096 < s4.size) := fun h => by rw [wy_long hx h] at hE; cases hE
      exact .inr ⟨a, t, l, m, b, c, g, z, rfl, rfl, rfl, rfl, rfl, hO, hg, hc, hb, hbm, by omega, by omega, by omega, by omega, CO, CR, fun w hQ => head_good CO hO s1 s2 s3 s4 CC h1 h2 h3 h4 w hQ, CW, CC⟩
    · exact .inl ⟨_, hE, fun w _ => head_bad _ _ _ _ _ s1 s2 s3 s4 hE CC w, CW, CC, .inr ⟨a, t, l, m, b, c, g, z, CR⟩⟩
set_option maxHeartbeats 3200000 in
theorem heads_long (pa pt pm pl pz : Int) (s1 s2 s3 s4 : ByteArray) (hs1 : s1.size ≤ 140737488351232) (hs2 : s2.size ≤ 140737488351232) (hs3 : s3.size ≤ 140737488351232) (hs4 : s4.size ≤ 140737488351232) (h : 5000 < s1.size ∨ 5000 < s2.size ∨ 5000 < s3.size ∨ 5000 < s4.size) (w : World) (hQ : QAt w) (hT : TAt w) :
    Calls Tryz.prog 3 #[pav pa pt pm pl pz, inv s1 s2 s3 s4] w fun e w' => e = .returned (.bool true) ∧ Below w.heap.size w w' := by
  obtain ⟨hp, hi, hb⟩ := pin_rows pa pt pm pl pz s1 s2 s3 s4 w
  have CA := Lib.hid (awake33_any _ (hQ.next hb) (hT.next hb))
  have HI := Lib.hid hi
  have HB := Lib.hid hb
  have X1 : ∀ r, decide (5000 < s1.size) = r → decide ((5000 : Int) < (s1.size : Int)) = r := fun r h => by rw [← h]; exact decide_eq_decide.2 (by omega)
  have X2 : ∀ r, decide (5000 < s2.size) = r → decide ((5000 : Int) < (s2.size : Int)) = r := fun r h => by rw [← h]; exact decide_eq_decide.2 (by omega)
  have X3 : ∀ r, decide (5000 < s3.size) = r → decide ((5000 : Int) < (s3.size : Int)) = r := fun r h => by rw [← h]; exact decide_eq_decide.2 (by omega)
  have X4 : ∀ r, decide (5000 < s4.size) = r → decide ((5000 : Int) < (s4.size : Int)) = r := fun r h => by rw [← h]; exact decide_eq_decide.2 (by omega)
  clear hp hi hb hQ hT
  go_enter Tryz.func3, Tryz.ntmps3
  go_wp2_with fail
  refine CA.out.mono ?_
  rintro e w1 ⟨rfl, hb⟩
  obtain ⟨k0, k1, k2, k3⟩ := in_cells (HI.out.step hb)
  have HB1 := Lib.hid (below_step HB.out hb)
  clear hb CA HI HB
  have HH : (decide (5000 < s1.size) = true) ∨ (decide (5000 < s1.size) = false ∧ decide (5000 < s2.size) = true) ∨ (decide (5000 < s1.size) = false ∧ decide (5000 < s2.size) = false ∧ decide (5000 < s3.size) = true) ∨ (decide (5000 < s1.size) = false ∧ decide (5000 < s2.size) = false ∧ decide (5000 < s3.size) = false ∧ decide (5000 < s4.size) = true) := by
    simp only [decide_eq_true_eq, decide_eq_false_iff_not]
    omega
  clear h
  rcases HH with n1 | ⟨n1, n2⟩ | ⟨n1, n2, n3⟩ | ⟨n1, n2, n3, n4⟩
  · have d1 := X1 _ n1
    clear X1 X2 X3 X4
    go_wp2
    go_ret
    exact ⟨rfl, HB1.out⟩
  · have d1 := X1 _ n1
    have d2 := X2 _ n2
    clear X1 X2 X3 X4
    go_wp2
    go_ret
    exact ⟨rfl, HB1.out⟩
  · have d1 := X1 _ n1
    have d2 := X2 _ n2
    have d3 := X3 _ n3
    clear X1 X2 X3 X4
    go_wp2
    go_ret
    exact ⟨rfl, HB1.out⟩
  · have d1 := X1 _ n1
    have d2 := X2 _ n2
    have d3 := X3 _ n3
    have d4 := X4 _ n4
    clear X1 X2 X3 X4
    go_wp2
    go_ret
    exact ⟨rfl, HB1.out⟩
section
variable {s1 s2 s3 s4 : ByteArray} (hs1 : s1.size ≤ 5000) (hs2 : s2.size ≤ 5000) (hs3 : s3.size ≤ 5000) (hs4 : s4.size ≤ 5000)
include hs1 hs2 hs3 hs4
set_option maxHeartbeats 3200000 in
theorem heads_err {pa pt pm pl pz : Int} {E : Int} (hE : E ≠ 0) (CH : ∀ w, QAt w → Calls Tryz.prog 7 #[pav pa pt pm pl pz, inv s1 s2 s3 s4] w fun e w' => e = .returned (.tuple #[.string ⟨#[]⟩, .int .i64 E]) ∧ Below w.heap.size w w')
    (CW : ∀ w, Calls Tryz.prog 8 #[pav pa pt pm pl pz, inv s1 s2 s3 s4] w fun e w' => e = .returned (.int .i64 E) ∧ Below w.heap.size w w') (CC : ∀ w, Calls Tryz.prog 9 #[pav pa pt pm pl pz, inv s1 s2 s3 s4] w fun e w' => e = .returned (.int .i64 E) ∧ Below w.heap.size w w') (w : World) (hQ : QAt w) (hT : TAt w) :
    Calls Tryz.prog 3 #[pav pa pt pm pl pz, inv s1 s2 s3 s4] w fun e w' => e = .returned (.bool true) ∧ Below w.heap.size w w' := by
  obtain ⟨hp, hi, hb⟩ := pin_rows pa pt pm pl pz s1 s2 s3 s4 w
  have CA := Lib.hid (awake33_any _ (hQ.next hb) (hT.next hb))
  have HQ := Lib.hid (hQ.next hb)
  have HP := Lib.hid hp
  have HI := Lib.hid hi
  have HB := Lib.hid hb
  have CH := Lib.hid CH
  have CW := Lib.hid CW
  have CC := Lib.hid CC
  have d1 : decide ((5000 : Int) < (s1.size : Int)) = false := by simp; omega
  have d2 : decide ((5000 : Int) < (s2.size : Int)) = false := by simp; omega
  have d3 : decide ((5000 : Int) < (s3.size : Int)) = false := by simp; omega
  have d4 : decide ((5000 : Int) < (s4.size : Int)) = false := by simp; omega
  have n1 : decide (5000 < s1.size) = false := by simp; omega
  have n2 : decide (5000 < s2.size) = false := by simp; omega
  have n3 : decide (5000 < s3.size) = false := by simp; omega
  have n4 : decide (5000 < s4.size) = false := by simp; omega
  have e1 : (E == 0) = false := by simpa using hE
  have e2 : decide (E = 0) = false := by simpa using hE
  clear hp hi hb hQ hT hE
  go_enter Tryz.func3, Tryz.ntmps3
  go_wp2_with fail
  refine CA.out.mono ?_
  rintro e w1 ⟨rfl, hb⟩
  obtain ⟨k0, k1, k2, k3⟩ := in_cells (HI.out.step hb)
  have HP1 := Lib.hid (HP.out.step hb)
  have HI1 := Lib.hid (HI.out.step hb)
  have HB1 := Lib.hid (below_step HB.out hb)
  have CH1 := Lib.hid (CH.out w1 (HQ.out.next hb))
  clear hb CA HI HB HP HQ CH
  go_wp2_with (first
    | refine wpList_load_want rfl 23 _ rfl _ _ rfl (pa_load HP1.out) ?_
    | refine wpList_load_want rfl 25 _ rfl _ _ rfl (in_load HI1.out) ?_)
  refine CH1.out.mono ?_
  rintro e w2 ⟨rfl, hb⟩
  have HP2 := Lib.hid (HP1.out.step hb)
  have HI2 := Lib.hid (HI1.out.step hb)
  have HB2 := Lib.hid (below_step HB1.out hb)
  clear hb CH1 HI1 HB1 HP1 k0 k1 k2 k3
  go_wp2_with (first
    | refine wpList_load_want rfl 23 _ rfl _ _ rfl (pa_load HP2.out) ?_
    | refine wpList_load_want rfl 25 _ rfl _ _ rfl (in_load HI2.out) ?_)
  refine (CW.out _).mono ?_
  rintro e w3 ⟨rfl, hb⟩
  have HP3 := Lib.hid (HP2.out.step hb)
  have HI3 := Lib.hid (HI2.out.step hb)
  have HB3 := Lib.hid (below_step HB2.out hb)
  clear hb CW HI2 HB2 HP2
  go_wp2_with (first
    | refine wpList_load_want rfl 23 _ rfl _ _ rfl (pa_load HP3.out) ?_
    | refine wpList_load_want rfl 25 _ rfl _ _ rfl (in_load HI3.out) ?_)
  refine (CC.out _).mono ?_
  rintro e w4 ⟨rfl, hb⟩
  have HB4 := Lib.hid (below_step HB3.out hb)
  clear hb CC HI3 HB3 HP3
  go_wp2
  go_ret
  exact ⟨rfl, HB4.out⟩
set_option maxHeartbeats 3200000 in
theorem heads_good {a t m l z : Nat} {HH : ByteArray} (CH : ∀ w, QAt w → Calls Tryz.prog 7 #[pav a t m l z, inv s1 s2 s3 s4] w fun e w' => e = .returned (.tuple #[.string HH, .int .i64 0]) ∧ Below w.heap.size w w')
    (CW : ∀ w, Calls Tryz.prog 8 #[pav a t m l z, inv s1 s2 s3 s4] w fun e w' => e = .returned (.int .i64 0) ∧ Below w.heap.size w w') (CC : ∀ w, Calls Tryz.prog 9 #[pav a t m l z, inv s1 s2 s3 s4] w fun e w' => e = .returned (.int .i64 0) ∧ Below w.heap.size w w')
    (CR : ∀ w, Calls Tryz.prog 10 #[.agg (wq iv), pav a t m l z, inv s1 s2 s3 s4] w fun e w' => e = .returned (.string HH) ∧ Below w.heap.size w w') (w : World) (hQ : QAt w) (hT : TAt w) :
    Calls Tryz.prog 3 #[pav a t m l z, inv s1 s2 s3 s4] w fun e w' => e = .returned (.bool true) ∧ Below w.heap.size w w' := by
  obtain ⟨hp, hi, hb⟩ := pin_rows a t m l z s1 s2 s3 s4 w
  have CA := Lib.hid (awake33_any _ (hQ.next hb) (hT.next hb))
  have HQ := Lib.hid (hQ.next hb)
  have HP := Lib.hid hp
  have HI := Lib.hid hi
  have HB := Lib.hid hb
  have CH := Lib.hid CH
  have CW := Lib.hid CW
  have CC := Lib.hid CC
  have CR : Hid (∀ w, Calls Tryz.prog 10 #[.agg (wq iv), pav a t m l z, inv s1 s2 s3 s4] w fun e w' => ∃ v, e = .returned v ∧ Is (.string HH) v w' ∧ Below w.heap.size w w') := Lib.hid fun w => calls_is (CR w)
  have d1 : decide ((5000 : Int) < (s1.size : Int)) = false := by simp; omega
  have d2 : decide ((5000 : Int) < (s2.size : Int)) = false := by simp; omega
  have d3 : decide ((5000 : Int) < (s3.size : Int)) = false := by simp; omega
  have d4 : decide ((5000 : Int) < (s4.size : Int)) = false := by simp; omega
  have n1 : decide (5000 < s1.size) = false := by simp; omega
  have n2 : decide (5000 < s2.size) = false := by simp; omega
  have n3 : decide (5000 < s3.size) = false := by simp; omega
  have n4 : decide (5000 < s4.size) = false := by simp; omega
  clear hp hi hb hQ hT
  go_enter Tryz.func3, Tryz.ntmps3
  go_wp2_with fail
  refine CA.out.mono ?_
  rintro e w1 ⟨rfl, hb⟩
  obtain ⟨k0, k1, k2, k3⟩ := in_cells (HI.out.step hb)
  have HP1 := Lib.hid (HP.out.step hb)
  have HI1 := Lib.hid (HI.out.step hb)
  have HB1 := Lib.hid (below_step HB.out hb)
  have CH1 := Lib.hid (CH.out w1 (HQ.out.next hb))
  clear hb CA HI HB HP HQ CH
  go_wp2_with (first
    | refine wpList_load_want rfl 23 _ rfl _ _ rfl (pa_load HP1.out) ?_
    | refine wpList_load_want rfl 25 _ rfl _ _ rfl (in_load HI1.out) ?_)
  refine CH1.out.mono ?_
  rintro e w2 ⟨rfl, hb⟩
  have HP2 := Lib.hid (HP1.out.step hb)
  have HI2 := Lib.hid (HI1.out.step hb)
  have HB2 := Lib.hid (below_step HB1.out hb)
  clear hb CH1 HI1 HB1 HP1 k0 k1 k2 k3
  go_wp2_with (first
    | refine wpList_load_want rfl 23 _ rfl _ _ rfl (pa_load HP2.out) ?_
    | refine wpList_load_want rfl 25 _ rfl _ _ rfl (in_load HI2.out) ?_)
  refine (CW.out _).mono ?_
  rintro e w3 ⟨rfl, hb⟩
  have HP3 := Lib.hid (HP2.out.step hb)
  have HI3 := Lib.hid (HI2.out.step hb)
  have HB3 := Lib.hid (below_step HB2.out hb)
  clear hb CW HI2 HB2 HP2
  go_wp2_with (first
    | refine wpList_load_want rfl 23 _ rfl _ _ rfl (pa_load HP3.out) ?_
    | refine wpList_load_want rfl 25 _ rfl _ _ rfl (in_load HI3.out) ?_)
  refine (CC.out _).mono ?_
  rintro e w4 ⟨rfl, hb⟩
  have HP : Hid (∀ u, Below w4.heap.size w4 u → (loadVar 23 ⟨w.heap.size, 0, none⟩).run Tryz.prog u = .ok (pav a t m l z) u) := Lib.hid fun u hu => pa_load ((HP3.out.step hb).step hu)
  have HI : Hid (∀ u, Below w4.heap.size w4 u → (loadVar 25 ⟨w.heap.size + 1, 0, none⟩).run Tryz.prog u = .ok (inv s1 s2 s3 s4) u) := Lib.hid fun u hu => in_load ((HI3.out.step hb).step hu)
  have HB4 := Lib.hid (below_step HB3.out hb)
  clear hb CC HI3 HB3 HP3
  go_upto_region 11 with fail
  obtain ⟨I3, hI3⟩ : ∃ I, I = w.heap.size + 1 := ⟨_, rfl⟩
  obtain ⟨P2, hP2⟩ : ∃ P, P = w.heap.size := ⟨_, rfl⟩
  rw [← hI3] at HI
  rw [← hP2] at HP
  rw [← hI3, ← hP2]
  clear hI3 hP2
  refine wp_region_text [Is (.int .i64 0), Is (.bool true), Is (.bool true), Is (.string HH), Is (.agg (wq iv)), Is (pav a t m l z), Is (inv s1 s2 s3 s4), Is (.string HH), Is (.bool true), Is (.bool true), Is (.bool true)] (by kernel_rfl) (by kernel_rfl) rfl ⟨stable_is _, stable_is _, stable_is _, stable_is _, stable_is _, stable_is _, stable_is _, stable_is _, stable_is _, stable_is _, stable_is _, trivial⟩ ⟨?_, ?_, ?_, ?_, ?_, ?_, ?_, ?_, ?_, ?_, ?_, trivial⟩ ?_
  · intro a w C
    exact part_on (wanted_free rfl _) (op_move (.inl rfl) (C.was 6 (by kernel_rfl)))
  · intro a w C
    exact part_on (wanted_free rfl _) (op_bin rfl (C.on (j := 0) (by kernel_rfl) rfl rfl) rfl rfl (by simp [go_sem]) rfl)
  · intro a w C
    exact part_on (wanted_free rfl _) (op_move (.inl rfl) (C.on (j := 1) (by kernel_rfl) rfl rfl))
  · intro a w C
    exact part_on (wanted_on (j := 2) rfl rfl rfl (C.on (j := 2) (by kernel_rfl) rfl rfl)) (op_move (.inl rfl) (C.was 5 (by kernel_rfl)))
  · intro a w C
    exact part_on (wanted_on (j := 2) rfl rfl rfl (C.on (j := 2) (by kernel_rfl) rfl rfl)) (op_call0 rfl (reg_enters Tryz.func11 (by kernel_rfl) (by kernel_rfl))  (calls_is (rknown_any w)))
  · intro a w C
    exact part_on (wanted_on (j := 2) rfl rfl rfl (C.on (j := 2) (by kernel_rfl) rfl rfl)) (op_value (load_run rfl (C.was 2 (by kernel_rfl)) (HP.out w C.below)) rfl)
  · intro a w C
    exact part_on (wanted_on (j := 2) rfl rfl rfl (C.on (j := 2) (by kernel_rfl) rfl rfl)) (op_value (load_run rfl (C.was 3 (by kernel_rfl)) (HI.out w C.below)) rfl)
  · intro a w C
    exact part_on (wanted_on (j := 2) rfl rfl rfl (C.on (j := 2) (by kernel_rfl) rfl rfl)) (op_call3 rfl (reg_enters Tryz.func10 (by kernel_rfl) (by kernel_rfl)) (C.on (j := 4) (by kernel_rfl) rfl rfl) (C.on (j := 5) (by kernel_rfl) rfl rfl) (C.on (j := 6) (by kernel_rfl) rfl rfl) (CR.out w))
  · intro a w C
    exact part_on (wanted_on (j := 2) rfl rfl rfl (C.on (j := 2) (by kernel_rfl) rfl rfl)) (op_bin rfl (C.on (j := 3) (by kernel_rfl) rfl rfl) (C.on (j := 7) (by kernel_rfl) rfl rfl) rfl (by simp [go_sem]) rfl)
  · intro a w C
    exact part_on (wanted_free rfl _) (op_pick (k := true) rfl (C.on (j := 2) (by kernel_rfl) rfl rfl) (C.on (j := 8) (by kernel_rfl) rfl rfl))
  · intro a w C
    exact part_on (wanted_free rfl _) (op_move (.inr rfl) (C.on (j := 9) (by kernel_rfl) rfl rfl))
  rintro wF hbF _ rfl _ rfl _ rfl _ rfl _ rfl _ rfl _ rfl _ rfl _ rfl _ rfl _ rfl
  simp only [Fin, setAt, Exit.then, List.setIfInBounds_toArray, List.set_cons_succ, List.set_cons_zero]
  have HBF := Lib.hid (HB4.out.trans (hbF.mono HB4.out.size))
  clear hbF HB4 HP HI CR
  go_wp2
  go_ret
  exact ⟨rfl, HBF.out⟩
end
theorem heads_any (pa pt pm pl pz : Int) (s1 s2 s3 s4 : ByteArray) (hs1 : s1.size ≤ 140737488351232) (hs2 : s2.size ≤ 140737488351232) (hs3 : s3.size ≤ 140737488351232) (hs4 : s4.size ≤ 140737488351232) (w : World) (hQ : QAt w) (hT : TAt w) :
    Calls Tryz.prog 3 #[pav pa pt pm pl pz, inv s1 s2 s3 s4] w fun e w' => e = .returned (.bool true) ∧ Below w.heap.size w w' := by
  by_cases h : 5000 < s1.size ∨ 5000 < s2.size ∨ 5000 < s3.size ∨ 5000 < s4.size
  · exact heads_long pa pt pm pl pz s1 s2 s3 s4 hs1 hs2 hs3 hs4 h w hQ hT
  · rcases ways33 pa pt pm pl pz s1 s2 s3 s4 (by omega) (by omega) (by omega) (by omega) with ⟨E, hE, CH, CW, CC, _⟩ | ⟨al, t, l, m, b, c, g, z, rfl, rfl, rfl, rfl, rfl, hM, _, _, _, _, z1, z2, z3, z4, _, _, CH, CW, CC⟩
    · exact heads_err (by omega) (by omega) (by omega) (by omega) hE CH CW CC w hQ hT
    · exact heads_good (by omega) (by omega) (by omega) (by omega) CH CW CC (rhead_any hM s1 s2 s3 s4 z1 z2 z3 z4) w hQ hT
end Go.Proofs.YtcbccjcnllifjaaGreatDoor
