/- The law ArgonKeys by the calls' contracts. Conditions: texts are no longer than what may come in; blake's and blend's tables lie at their places. -/
import Derived.Test.YtcbccjcnllifjaaGreatDoorAgLawH
import Derived.Test.YtcbccjcnllifjaaGreatDoorAgRkey
namespace Go.Proofs.YtcbccjcnllifjaaGreatDoor
set_option maxRecDepth 50000
open Go.RowKit Bb Bl
set_option maxHeartbeats 3200000 in
theorem keys_guard (B pa pt pm pl pz : Int) (s1 s2 s3 s4 : ByteArray) (hs1 : s1.size ≤ 140737488351232) (hs2 : s2.size ≤ 140737488351232) (hs3 : s3.size ≤ 140737488351232) (hs4 : s4.size ≤ 140737488351232) (h : B < 0 ∨ 1000 < B ∨ 300 < s1.size ∨ 300 < s2.size ∨ 300 < s3.size ∨ 300 < s4.size) (w : World) (hQ : QAt w) (hT : TAt w) :
    Calls Tryz.prog 4 #[.int .i64 B, pav pa pt pm pl pz, inv s1 s2 s3 s4] w fun e w' => e = .returned (.bool true) ∧ Below w.heap.size w w' := by
  obtain ⟨hp, hi, hb⟩ := pin_rows pa pt pm pl pz s1 s2 s3 s4 w
  have CA := Lib.hid (awake33_any _ (hQ.next hb) (hT.next hb))
  have HI := Lib.hid hi
  have HB := Lib.hid hb
  have X1 : ∀ r, decide (300 < s1.size) = r → decide ((300 : Int) < (s1.size : Int)) = r := fun r h => by rw [← h]; exact decide_eq_decide.2 (by omega)
  have X2 : ∀ r, decide (300 < s2.size) = r → decide ((300 : Int) < (s2.size : Int)) = r := fun r h => by rw [← h]; exact decide_eq_decide.2 (by omega)
  have X3 : ∀ r, decide (300 < s3.size) = r → decide ((300 : Int) < (s3.size : Int)) = r := fun r h => by rw [← h]; exact decide_eq_decide.2 (by omega)
  have X4 : ∀ r, decide (300 < s4.size) = r → decide ((300 : Int) < (s4.size : Int)) = r := fun r h => by rw [← h]; exact decide_eq_decide.2 (by omega)
  clear hp hi hb hQ hT
  go_enter Tryz.func4, Tryz.ntmps4
  go_wp2_with fail
  refine CA.out.mono ?_
  rintro e w1 ⟨rfl, hb⟩
  obtain ⟨k0, k1, k2, k3⟩ := in_cells (HI.out.step hb)
  have HB1 := Lib.hid (below_step HB.out hb)
  clear hb CA HI HB
  have HH : (decide (B < 0) = true) ∨ (decide (B < 0) = false ∧ decide (1000 < B) = true) ∨ (decide (B < 0) = false ∧ decide (1000 < B) = false ∧ decide (300 < s1.size) = true) ∨ (decide (B < 0) = false ∧ decide (1000 < B) = false ∧ decide (300 < s1.size) = false ∧ decide (300 < s2.size) = true) ∨
      (decide (B < 0) = false ∧ decide (1000 < B) = false ∧ decide (300 < s1.size) = false ∧ decide (300 < s2.size) = false ∧ decide (300 < s3.size) = true) ∨ (decide (B < 0) = false ∧ decide (1000 < B) = false ∧ decide (300 < s1.size) = false ∧ decide (300 < s2.size) = false ∧ decide (300 < s3.size) = false ∧ decide (300 < s4.size) = true) := by
    simp only [decide_eq_true_eq, decide_eq_false_iff_not]
    omega
  clear h
  rcases HH with b1 | ⟨b1, b2⟩ | ⟨b1, b2, n1⟩ | ⟨b1, b2, n1, n2⟩ | ⟨b1, b2, n1, n2, n3⟩ | ⟨b1, b2, n1, n2, n3, n4⟩
  · clear X1 X2 X3 X4
    go_wp2
    go_ret
    exact ⟨rfl, HB1.out⟩
  · clear X1 X2 X3 X4
    go_wp2
    go_ret
    exact ⟨rfl, HB1.out⟩
  · have d1 := X1 _ n1
    clear X1 X2 X3 X4
    go_wp2
    go_ret
    exact ⟨rfl, HB1.out⟩
  · have d1 := X1 _ n1
    have d2 := X2 _ n2
    clear X1 X2 X3 X4
    go_wp2
    go_ret
    exact ⟨rfl, HB1.out⟩
  · have d1 := X1 _ n1
    have d2 := X2 _ n2
    have d3 := X3 _ n3
    clear X1 X2 X3 X4
    go_wp2
    go_ret
    exact ⟨rfl, HB1.out⟩
  · have d1 := X1 _ n1
    have d2 := X2 _ n2
    have d3 := X3 _ n3
    have d4 := X4 _ n4
    clear X1 X2 X3 X4
    go_wp2
    go_ret
    exact ⟨rfl, HB1.out⟩
theorem dec_ints {B : Nat} {s1 s2 s3 s4 : ByteArray} (hB : B ≤ 1000) (hs1 : s1.size ≤ 300) (hs2 : s2.size ≤ 300) (hs3 : s3.size ≤ 300) (hs4 : s4.size ≤ 300) :
    decide ((B : Int) < 0) = false ∧ decide ((1000 : Int) < (B : Int)) = false ∧ decide ((300 : Int) < (s1.size : Int)) = false ∧ decide ((300 : Int) < (s2.size : Int)) = false ∧ decide ((300 : Int) < (s3.size : Int)) = false ∧ decide ((300 : Int) < (s4.size : Int)) = false := by
  refine ⟨?_, ?_, ?_, ?_, ?_, ?_⟩ <;> (simp only [decide_eq_false_iff_not]; omega)
theorem dec_nats {B : Nat} {s1 s2 s3 s4 : ByteArray} (hB : B ≤ 1000) (hs1 : s1.size ≤ 300) (hs2 : s2.size ≤ 300) (hs3 : s3.size ≤ 300) (hs4 : s4.size ≤ 300) :
    decide (1000 < B) = false ∧ decide (300 < s1.size) = false ∧ decide (300 < s2.size) = false ∧ decide (300 < s3.size) = false ∧ decide (300 < s4.size) = false := by
  refine ⟨?_, ?_, ?_, ?_, ?_⟩ <;> (simp only [decide_eq_false_iff_not]; omega)
section
variable {B : Nat} {s1 s2 s3 s4 : ByteArray} (hB : B ≤ 1000) (hs1 : s1.size ≤ 300) (hs2 : s2.size ≤ 300) (hs3 : s3.size ≤ 300) (hs4 : s4.size ≤ 300)
include hB hs1 hs2 hs3 hs4
set_option maxHeartbeats 3200000 in
theorem keys_err {pa pt pm pl pz : Int} {E : Int} (hE : E ≠ 0) (CH : ∀ w, QAt w → Calls Tryz.prog 7 #[pav pa pt pm pl pz, inv s1 s2 s3 s4] w fun e w' => e = .returned (.tuple #[.string ⟨#[]⟩, .int .i64 E]) ∧ Below w.heap.size w w')
    (CW : ∀ w, Calls Tryz.prog 8 #[pav pa pt pm pl pz, inv s1 s2 s3 s4] w fun e w' => e = .returned (.int .i64 E) ∧ Below w.heap.size w w') (w : World) (hQ : QAt w) (hT : TAt w) :
    Calls Tryz.prog 4 #[.int .i64 (B : Int), pav pa pt pm pl pz, inv s1 s2 s3 s4] w fun e w' => e = .returned (.bool true) ∧ Below w.heap.size w w' := by
  obtain ⟨hp, hi, hb⟩ := pin_rows pa pt pm pl pz s1 s2 s3 s4 w
  have CA := Lib.hid (awake33_any _ (hQ.next hb) (hT.next hb))
  have HQ := Lib.hid hQ
  have HP := Lib.hid hp
  have HI := Lib.hid hi
  have HB := Lib.hid hb
  have CK := Lib.hid fun (A : Option Addr) (w : World) (hQ : QAt w) => (key_lift ((by_err pa pt pm pl pz s1 s2 s3 s4 hE CH A (.func (.func 32) #[] #[]) _ (hQ.next (pin_rows pa pt pm pl pz s1 s2 s3 s4 w).2.2)).mono fun e w' ⟨h1, h2⟩ => (⟨h1, below_step (pin_rows pa pt pm pl pz s1 s2 s3 s4 w).2.2 h2⟩ : e = _ ∧ Below w.heap.size w w')))
  have CW := Lib.hid CW
  have CN := Lib.hid fun w => anew_any B (by omega) w
  obtain ⟨i1, i2, i3, i4, i5, i6⟩ := dec_ints hB hs1 hs2 hs3 hs4
  obtain ⟨m1, m2, m3, m4, m5⟩ := dec_nats hB hs1 hs2 hs3 hs4
  have e1 : (E == 0) = false := by simpa using hE
  have e2 : decide (E = 0) = false := by simpa using hE
  clear hp hi hb hQ hT hE CH
  go_enter Tryz.func4, Tryz.ntmps4
  go_wp2_with fail
  refine CA.out.mono ?_
  rintro e w1 ⟨rfl, hb⟩
  obtain ⟨k0, k1, k2, k3⟩ := in_cells (HI.out.step hb)
  have HP1 := Lib.hid (HP.out.step hb)
  have HI1 := Lib.hid (HI.out.step hb)
  have HB1 := Lib.hid (below_step HB.out hb)
  clear hb CA HI HB HP
  go_wp2_with fail
  refine (CN.out _).mono ?_
  rintro e w2 ⟨rfl, hA, hb⟩
  have HA2 := Lib.hid hA
  have HP2 := Lib.hid (HP1.out.step hb)
  have HI2 := Lib.hid (HI1.out.step hb)
  have HB2 := Lib.hid (below_step HB1.out hb)
  clear hb hA CN HI1 HB1 HP1 k0 k1 k2 k3
  go_wp2_with (first
    | refine wpList_load_want rfl 23 _ rfl _ _ rfl (pa_load HP2.out) ?_
    | refine wpList_load_want rfl 25 _ rfl _ _ rfl (in_load HI2.out) ?_)
  refine (CW.out _).mono ?_
  rintro e w3 ⟨rfl, hb⟩
  have HA3 := Lib.hid (RowAt.below HA2.out hb (RowAt.lt HA2.out))
  have HP3 := Lib.hid (HP2.out.step hb)
  have HI3 := Lib.hid (HI2.out.step hb)
  have HB3 := Lib.hid (below_step HB2.out hb)
  have CK3 := Lib.hid (CK.out (some ⟨w1.heap.size, 0, none⟩) w3 (HQ.out.next HB3.out))
  clear hb CW HI2 HB2 HP2 HA2 CK
  go_wp2_with (first
    | refine wpList_load_want rfl 23 _ rfl _ _ rfl (pa_load HP3.out) ?_
    | refine wpList_load_want rfl 25 _ rfl _ _ rfl (in_load HI3.out) ?_)
  refine CK3.out.mono ?_
  rintro e w4 ⟨rfl, hb⟩
  have HB4 := Lib.hid (below_step HB3.out hb)
  have CHI := Lib.hid (high_any (RowAt.below HA3.out hb (RowAt.lt HA3.out)))
  clear hb CK3 HI3 HB3 HP3 HA3
  go_wp2_with fail
  refine CHI.out.mono ?_
  rintro e w5 ⟨rfl, hb⟩
  have HB5 := Lib.hid (below_step HB4.out hb)
  clear hb CHI HB4
  go_wp2
  go_ret
  exact ⟨rfl, HB5.out⟩
section
variable {al t l m b c g z : Nat} (CO : ∀ w : World, Calls Tryz.prog 23 #[pav al t m l z] w fun e w' => e = .returned (.tuple #[spv al t l m b c g z, .int .i64 0]) ∧ Below w.heap.size w w') (CR : ∀ w : World, Calls Tryz.prog 15 #[pav al t m l z] w fun e w' => e = .returned (.tuple #[spv al t l m b c g z, .bool true]) ∧ Below w.heap.size w w')
    {HH : ByteArray} (CH : ∀ w, QAt w → Calls Tryz.prog 7 #[pav al t m l z, inv s1 s2 s3 s4] w fun e w' => e = .returned (.tuple #[.string HH, .int .i64 0]) ∧ Below w.heap.size w w')
    (CW : ∀ w, Calls Tryz.prog 8 #[pav al t m l z, inv s1 s2 s3 s4] w fun e w' => e = .returned (.int .i64 0) ∧ Below w.heap.size w w')
include CR CW
set_option maxHeartbeats 3200000 in
theorem keys_full (CO : ∀ w : World, Calls Tryz.prog 23 #[pav al t m l z] w fun e w' => e = .returned (.tuple #[spv al t l m b c g z, .int .i64 0]) ∧ Below w.heap.size w w') (CH : ∀ w, QAt w → Calls Tryz.prog 7 #[pav al t m l z, inv s1 s2 s3 s4] w fun e w' => e = .returned (.tuple #[.string HH, .int .i64 0]) ∧ Below w.heap.size w w') (hb : B < b) (w : World) (hQ : QAt w) (hT : TAt w) :
    Calls Tryz.prog 4 #[.int .i64 (B : Int), pav al t m l z, inv s1 s2 s3 s4] w fun e w' => e = .returned (.bool true) ∧ Below w.heap.size w w' := by
  obtain ⟨hp, hi, hbw⟩ := pin_rows al t m l z s1 s2 s3 s4 w
  have CA := Lib.hid (awake33_any _ (hQ.next hbw) (hT.next hbw))
  have HQ := Lib.hid hQ
  have HP := Lib.hid hp
  have HI := Lib.hid hi
  have HB := Lib.hid hbw
  have CK := Lib.hid fun (a : Nat) (w : World) (hA : AreAt w a B 0 0 0) (hQ : QAt w) => (key_lift ((by_full CO s1 s2 s3 s4 HH CH (RowAt.below hA (pin_rows al t m l z s1 s2 s3 s4 w).2.2 (RowAt.lt hA)) (by omega) (by omega) (Nat.zero_le _) (.func (.func 32) #[] #[]) (hQ.next (pin_rows al t m l z s1 s2 s3 s4 w).2.2)).mono fun e w' ⟨h1, h2⟩ => (⟨h1, below_step (pin_rows al t m l z s1 s2 s3 s4 w).2.2 h2⟩ : e = _ ∧ Below w.heap.size w w')))
  have CW := Lib.hid CW
  have CR := Lib.hid CR
  have CN := Lib.hid fun w => anew_any B (by omega) w
  obtain ⟨i1, i2, i3, i4, i5, i6⟩ := dec_ints hB hs1 hs2 hs3 hs4
  obtain ⟨m1, m2, m3, m4, m5⟩ := dec_nats hB hs1 hs2 hs3 hs4
  have g1 : decide ((b : Int) > (B : Int)) = true := by simp; omega
  have g2 : decide ((B : Int) < (b : Int)) = true := by simp; omega
  have g3 : decide (B < b) = true := by simp; omega
  clear hp hi hbw hQ hT CO CH hb
  go_enter Tryz.func4, Tryz.ntmps4
  go_wp2_with fail
  refine CA.out.mono ?_
  rintro e w1 ⟨rfl, hb⟩
  obtain ⟨k0, k1, k2, k3⟩ := in_cells (HI.out.step hb)
  have HP1 := Lib.hid (HP.out.step hb)
  have HI1 := Lib.hid (HI.out.step hb)
  have HB1 := Lib.hid (below_step HB.out hb)
  clear hb CA HI HB HP
  go_wp2_with fail
  refine (CN.out _).mono ?_
  rintro e w2 ⟨rfl, hA, hb⟩
  have HA2 := Lib.hid hA
  have HP2 := Lib.hid (HP1.out.step hb)
  have HI2 := Lib.hid (HI1.out.step hb)
  have HB2 := Lib.hid (below_step HB1.out hb)
  clear hb hA CN HI1 HB1 HP1 k0 k1 k2 k3
  go_wp2_with (first
    | refine wpList_load_want rfl 23 _ rfl _ _ rfl (pa_load HP2.out) ?_
    | refine wpList_load_want rfl 25 _ rfl _ _ rfl (in_load HI2.out) ?_)
  refine (CW.out _).mono ?_
  rintro e w3 ⟨rfl, hb⟩
  have HA3 := Lib.hid (RowAt.below HA2.out hb (RowAt.lt HA2.out))
  have HP3 := Lib.hid (HP2.out.step hb)
  have HI3 := Lib.hid (HI2.out.step hb)
  have HB3 := Lib.hid (below_step HB2.out hb)
  clear hb CW HI2 HB2 HP2 HA2
  go_wp2_with (first
    | refine wpList_load_want rfl 23 _ rfl _ _ rfl (pa_load HP3.out) ?_
    | refine wpList_load_want rfl 25 _ rfl _ _ rfl (in_load HI3.out) ?_)
  refine (CR.out _).mono ?_
  rintro e w4 ⟨rfl, hb⟩
  obtain ⟨w5, e5⟩ : ∃ w5, w5 = w4.alloc (.cells (spc al t l m b c g z) 44) := ⟨_, rfl⟩
  have b5 : Below w3.heap.size w3 w5 := by rw [e5]; exact hb.alloc hb.size _
  have k4 : w5.cell? ⟨w4.heap.size, 4, none⟩ = some (.int .i64 (b : Int)) := by rw [e5]; exact ((RowAt.new w4 44 (spc al t l m b c g z)).cell 4).trans rfl
  have HA5 := Lib.hid (RowAt.below HA3.out b5 (RowAt.lt HA3.out))
  have HP5 := Lib.hid (HP3.out.step b5)
  have HI5 := Lib.hid (HI3.out.step b5)
  have HB5 := Lib.hid (below_step HB3.out b5)
  have CK5 := Lib.hid (CK.out w1.heap.size w5 HA5.out (HQ.out.next HB5.out))
  have K4 := Lib.hid k4
  have E5 := Lib.hid e5
  clear hb CR HI3 HB3 HP3 HA3 CK b5 k4 e5
  go_upto_region 11 with fail
  rw [← E5.out]
  have k4 := K4.out
  clear E5
  go_wp2_with (first
    | refine wpList_load_want rfl 23 _ rfl _ _ rfl (pa_load HP5.out) ?_
    | refine wpList_load_want rfl 25 _ rfl _ _ rfl (in_load HI5.out) ?_)
  refine CK5.out.mono ?_
  rintro e w6 ⟨rfl, hb⟩
  have HB6 := Lib.hid (below_step HB5.out hb)
  have CHI := Lib.hid (high_any (RowAt.below HA5.out hb (RowAt.lt HA5.out)))
  clear hb CK5 HI5 HB5 HP5 HA5 k4 K4
  go_wp2_with fail
  refine CHI.out.mono ?_
  rintro e w7 ⟨rfl, hb⟩
  have HB7 := Lib.hid (below_step HB6.out hb)
  clear hb CHI HB6
  go_wp2
  go_ret
  exact ⟨rfl, HB7.out⟩
set_option maxHeartbeats 3200000 in
theorem keys_much (hb : b ≤ B) (hf : fewB t l b = false) (w : World) (hQ : QAt w) (hT : TAt w) :
    Calls Tryz.prog 4 #[.int .i64 (B : Int), pav al t m l z, inv s1 s2 s3 s4] w fun e w' => e = .returned (.bool true) ∧ Below w.heap.size w w' := by
  obtain ⟨hp, hi, hbw⟩ := pin_rows al t m l z s1 s2 s3 s4 w
  have CA := Lib.hid (awake33_any _ (hQ.next hbw) (hT.next hbw))
  have CF := Lib.hid (few_any al t l m b c g z)
  rw [hf] at CF
  have HP := Lib.hid hp
  have HI := Lib.hid hi
  have HB := Lib.hid hbw
  have CW := Lib.hid CW
  have CR := Lib.hid CR
  have CN := Lib.hid fun w => anew_any B (by omega) w
  obtain ⟨i1, i2, i3, i4, i5, i6⟩ := dec_ints hB hs1 hs2 hs3 hs4
  obtain ⟨m1, m2, m3, m4, m5⟩ := dec_nats hB hs1 hs2 hs3 hs4
  have g1 : decide ((b : Int) > (B : Int)) = false := by simp; omega
  have g2 : decide ((B : Int) < (b : Int)) = false := by simp; omega
  have g3 : decide (B < b) = false := by simp; omega
  clear hp hi hbw hQ hT hb hf
  go_enter Tryz.func4, Tryz.ntmps4
  go_wp2_with fail
  refine CA.out.mono ?_
  rintro e w1 ⟨rfl, hb⟩
  obtain ⟨k0, k1, k2, k3⟩ := in_cells (HI.out.step hb)
  have HP1 := Lib.hid (HP.out.step hb)
  have HI1 := Lib.hid (HI.out.step hb)
  have HB1 := Lib.hid (below_step HB.out hb)
  clear hb CA HI HB HP
  go_wp2_with fail
  refine (CN.out _).mono ?_
  rintro e w2 ⟨rfl, hA, hb⟩
  have HP2 := Lib.hid (HP1.out.step hb)
  have HI2 := Lib.hid (HI1.out.step hb)
  have HB2 := Lib.hid (below_step HB1.out hb)
  clear hb hA CN HI1 HB1 HP1 k0 k1 k2 k3
  go_wp2_with (first
    | refine wpList_load_want rfl 23 _ rfl _ _ rfl (pa_load HP2.out) ?_
    | refine wpList_load_want rfl 25 _ rfl _ _ rfl (in_load HI2.out) ?_)
  refine (CW.out _).mono ?_
  rintro e w3 ⟨rfl, hb⟩
  have HP3 := Lib.hid (HP2.out.step hb)
  have HB3 := Lib.hid (below_step HB2.out hb)
  clear hb CW HI2 HB2 HP2
  go_wp2_with (refine wpList_load_want rfl 23 _ rfl _ _ rfl (pa_load HP3.out) ?_)
  refine (CR.out _).mono ?_
  rintro e w4 ⟨rfl, hb⟩
  obtain ⟨w5, e5⟩ : ∃ w5, w5 = w4.alloc (.cells (spc al t l m b c g z) 44) := ⟨_, rfl⟩
  have b5 : Below w3.heap.size w3 w5 := by rw [e5]; exact hb.alloc hb.size _
  have r5 : RowAt w5 w4.heap.size 44 (spc al t l m b c g z) := by rw [e5]; exact RowAt.new w4 _ _
  have k4 : w5.cell? ⟨w4.heap.size, 4, none⟩ = some (.int .i64 (b : Int)) := (r5.cell 4).trans rfl
  have HB5 := Lib.hid (below_step HB3.out b5)
  have HR5 := Lib.hid (rsp_loadN r5)
  have K4 := Lib.hid k4
  have E5 := Lib.hid e5
  clear hb CR HB3 HP3 b5 k4 e5 r5
  go_upto_region 11 with fail
  rw [← E5.out]
  have k4 := K4.out
  clear E5
  go_wp2_with (refine wpList_load_want rfl 44 _ rfl _ _ rfl HR5.out ?_)
  refine (CF.out _).mono ?_
  rintro e w6 ⟨rfl, hb⟩
  have HB6 := Lib.hid (below_step HB5.out hb)
  clear hb CF HB5 HR5 k4 K4
  go_wp2
  go_ret
  exact ⟨rfl, HB6.out⟩
set_option maxHeartbeats 6400000 in
theorem keys_good (CO : ∀ w : World, Calls Tryz.prog 23 #[pav al t m l z] w fun e w' => e = .returned (.tuple #[spv al t l m b c g z, .int .i64 0]) ∧ Below w.heap.size w w') (CH : ∀ w, QAt w → Calls Tryz.prog 7 #[pav al t m l z, inv s1 s2 s3 s4] w fun e w' => e = .returned (.tuple #[.string HH, .int .i64 0]) ∧ Below w.heap.size w w') (hHH : HH.size = 64) (S : Sh al t l b c g) (hm : m ≤ 4294967295) (hz4 : 4 ≤ z) (hz10 : z ≤ 1024)
    {TT : ByteArray} (hTT : TT = tx (agL al t l b c g z HH)) (CRK : ∀ w : World, Calls Tryz.prog 18 #[pav al t m l z, inv s1 s2 s3 s4] w fun e w' => e = .returned (.string TT) ∧ Below w.heap.size w w') (hb : b ≤ B) (hf : fewB t l b = true) (w : World) (hQ : QAt w) (hT : TAt w) :
    Calls Tryz.prog 4 #[.int .i64 (B : Int), pav al t m l z, inv s1 s2 s3 s4] w fun e w' => e = .returned (.bool true) ∧ Below w.heap.size w w' := by
  obtain ⟨hp, hi, hbw⟩ := pin_rows al t m l z s1 s2 s3 s4 w
  have CA := Lib.hid (awake33_any _ (hQ.next hbw) (hT.next hbw))
  have CF := Lib.hid (few_any al t l m b c g z)
  rw [hf] at CF
  have HQT := Lib.hid (And.intro hQ hT)
  have HP := Lib.hid hp
  have HI := Lib.hid hi
  have HB := Lib.hid hbw
  have CK : Hid (∀ (a : Nat) (W : World), w.heap.size ≤ a → AreAt W a B 0 0 0 → QAt W → TAt W → Calls Tryz.prog 13 #[.pointer (some ⟨a, 0, none⟩), pav al t m l z, inv s1 s2 s3 s4] W fun e w' => e = .returned (.tuple #[.string TT, .int .i64 0]) ∧ AreAt w' a B 0 b 0 ∧ Kept (fun j => j = a) W w') := Lib.hid fun a W ha hA hQ' hT' => by
    have h := key_any hA (N0 := w.heap.size) hQ.1 ⟨hT.1.1, hT.2.1⟩ ha hQ' hT' CO S hm hz4 hz10 s1 s2 s3 s4 HH hHH CH (by omega) (by omega) (by decide)
    rw [← hTT, show max 0 (0 + b) = b by omega] at h
    exact h
  have CW := Lib.hid CW
  have CR27 := Lib.hid CR
  have CR : Hid (∀ w : World, Calls Tryz.prog 18 #[pav al t m l z, inv s1 s2 s3 s4] w fun e w' => ∃ v, e = .returned v ∧ Is (.string TT) v w' ∧ Below w.heap.size w w') := Lib.hid fun w => calls_is (CRK w)
  have CN := Lib.hid fun w => anew_any B (by omega) w
  obtain ⟨i1, i2, i3, i4, i5, i6⟩ := dec_ints hB hs1 hs2 hs3 hs4
  obtain ⟨m1, m2, m3, m4, m5⟩ := dec_nats hB hs1 hs2 hs3 hs4
  have g1 : decide ((b : Int) > (B : Int)) = false := by simp; omega
  have g2 : decide ((B : Int) < (b : Int)) = false := by simp; omega
  have g3 : decide (B < b) = false := by simp; omega
  clear hp hi hbw hQ hT hf CO CH CRK S hTT hHH
  go_enter Tryz.func4, Tryz.ntmps4
  go_wp2_with fail
  refine CA.out.mono ?_
  rintro e w1 ⟨rfl, hb⟩
  obtain ⟨k0, k1, k2, k3⟩ := in_cells (HI.out.step hb)
  have HP1 := Lib.hid (HP.out.step hb)
  have HI1 := Lib.hid (HI.out.step hb)
  have HB1 := Lib.hid (below_step HB.out hb)
  clear hb CA HI HB HP
  go_wp2_with fail
  refine (CN.out _).mono ?_
  rintro e w2 ⟨rfl, hA, hb⟩
  obtain ⟨a, ha⟩ : ∃ a, a = w1.heap.size := ⟨_, rfl⟩
  have haw : w.heap.size ≤ a := by rw [ha]; exact HB1.out.size
  rw [← ha] at hA ⊢
  have HA2 := Lib.hid hA
  have HP2 := Lib.hid (HP1.out.step hb)
  have HI2 := Lib.hid (HI1.out.step hb)
  have HB2 := Lib.hid (below_step HB1.out hb)
  clear hb hA CN HI1 HB1 HP1 k0 k1 k2 k3 ha
  go_wp2_with (first
    | refine wpList_load_want rfl 23 _ rfl _ _ rfl (pa_load HP2.out) ?_
    | refine wpList_load_want rfl 25 _ rfl _ _ rfl (in_load HI2.out) ?_)
  refine (CW.out _).mono ?_
  rintro e w3 ⟨rfl, hb⟩
  have HA3 := Lib.hid (RowAt.below HA2.out hb (RowAt.lt HA2.out))
  have HP3 := Lib.hid (HP2.out.step hb)
  have HI3 := Lib.hid (HI2.out.step hb)
  have HB3 := Lib.hid (below_step HB2.out hb)
  clear hb CW HI2 HB2 HP2 HA2
  go_wp2_with (refine wpList_load_want rfl 23 _ rfl _ _ rfl (pa_load HP3.out) ?_)
  refine (CR27.out _).mono ?_
  rintro e w4 ⟨rfl, hb⟩
  obtain ⟨w5, e5⟩ : ∃ w5, w5 = w4.alloc (.cells (spc al t l m b c g z) 44) := ⟨_, rfl⟩
  have b5 : Below w3.heap.size w3 w5 := by rw [e5]; exact hb.alloc hb.size _
  have r5 : RowAt w5 w4.heap.size 44 (spc al t l m b c g z) := by rw [e5]; exact RowAt.new w4 _ _
  have k4 : w5.cell? ⟨w4.heap.size, 4, none⟩ = some (.int .i64 (b : Int)) := (r5.cell 4).trans rfl
  have HA5 := Lib.hid (RowAt.below HA3.out b5 (RowAt.lt HA3.out))
  have HP5 := Lib.hid (HP3.out.step b5)
  have HI5 := Lib.hid (HI3.out.step b5)
  have HB5 := Lib.hid (below_step HB3.out b5)
  have HR5 := Lib.hid r5
  have K4 := Lib.hid k4
  have E5 := Lib.hid e5
  clear hb CR27 HB3 HP3 HI3 HA3 b5 k4 e5 r5
  go_upto_region 11 with fail
  rw [← E5.out]
  have k4 := K4.out
  clear E5
  generalize w4.heap.size = S12 at *
  go_wp2_with (refine wpList_load_want rfl 44 _ rfl _ _ rfl (rsp_loadN HR5.out) ?_)
  refine (CF.out _).mono ?_
  rintro e w6 ⟨rfl, hb⟩
  have HA6 := Lib.hid (RowAt.below HA5.out hb (RowAt.lt HA5.out))
  have HP6 := Lib.hid (HP5.out.step hb)
  have HI6 := Lib.hid (HI5.out.step hb)
  have HB6 := Lib.hid (below_step HB5.out hb)
  have HR6 := Lib.hid (HR5.out.step hb)
  have CK6 := Lib.hid (CK.out a w6 haw HA6.out (HQT.out.1.next HB6.out) (HQT.out.2.next HB6.out))
  have hna := Lib.hid (RowAt.unlike HP6.out HA6.out (by rfl))
  have hnb := Lib.hid (RowAt.unlike HI6.out HA6.out (by rfl))
  have hnc := Lib.hid (RowAt.unlike HR6.out HA6.out (by rfl))
  clear hb CF HB5 HR5 k4 K4 HA5 HP5 HI5 HQT CK
  go_wp2_with (first
    | refine wpList_load_want rfl 23 _ rfl _ _ rfl (pa_load HP6.out) ?_
    | refine wpList_load_want rfl 25 _ rfl _ _ rfl (in_load HI6.out) ?_)
  refine CK6.out.mono ?_
  rintro e w7 ⟨rfl, hA7, hk7⟩
  have HP7 := RowAt.kept HP6.out hk7 hna.out
  have HI7 := RowAt.kept HI6.out hk7 hnb.out
  have HR7 := RowAt.kept HR6.out hk7 hnc.out
  have HB7 := Lib.hid (HB6.out.trans (hk7.below HB6.out.size fun x e => by omega))
  have HP : Hid (∀ u, Below w7.heap.size w7 u → (loadVar 23 ⟨w.heap.size, 0, none⟩).run Tryz.prog u = .ok (pav al t m l z) u) := Lib.hid fun u hu => pa_load (HP7.step hu)
  have HI : Hid (∀ u, Below w7.heap.size w7 u → (loadVar 25 ⟨w.heap.size + 1, 0, none⟩).run Tryz.prog u = .ok (inv s1 s2 s3 s4) u) := Lib.hid fun u hu => in_load (HI7.step hu)
  have HC : Hid (∀ u, Below w7.heap.size w7 u → u.cell? ⟨S12, 0 + 4, none⟩ = some (.int .i64 (b : Int))) := Lib.hid fun u hu => ((HR7.step hu).cell 4).trans rfl
  have HU : Hid (∀ u, Below w7.heap.size w7 u → Calls Tryz.prog 17 #[.pointer (some ⟨a, 0, none⟩)] u fun e w' => ∃ v, e = .returned v ∧ Is (.int .i64 0) v w' ∧ Below u.heap.size u w') := Lib.hid fun u hu => calls_is (used_any (RowAt.below hA7 hu (RowAt.lt hA7)))
  have HH : Hid (∀ u, Below w7.heap.size w7 u → Calls Tryz.prog 14 #[.pointer (some ⟨a, 0, none⟩)] u fun e w' => ∃ v, e = .returned v ∧ Is (.int .i64 (b : Int)) v w' ∧ Below u.heap.size u w') := Lib.hid fun u hu => calls_is (high_any (RowAt.below hA7 hu (RowAt.lt hA7)))
  clear hA7 hk7 HP7 HI7 HR7 HA6 HP6 HI6 HB6 HR6 CK6 hna hnb hnc
  go_upto_region 17 with fail
  obtain ⟨I3, hI3⟩ : ∃ I, I = w.heap.size + 1 := ⟨_, rfl⟩
  obtain ⟨P2, hP2⟩ : ∃ P, P = w.heap.size := ⟨_, rfl⟩
  rw [← hI3] at HI
  rw [← hP2] at HP
  rw [← hI3, ← hP2]
  clear hI3 hP2
  refine wp_region_text [Is (.int .i64 0), Is (.bool true), Is (.bool true), Is (.pointer (some ⟨a, 0, none⟩)), Is (.int .i64 0), Is (.bool true), Is (.bool true), Is (.bool true), Is (.pointer (some ⟨a, 0, none⟩)), Is (.int .i64 (b : Int)), Is (.pointer (some ⟨S12, 0 + 4, none⟩)), Is (.int .i64 (b : Int)), Is (.bool true), Is (.bool true), Is (.bool true), Is (.string TT), Is (pav al t m l z), Is (inv s1 s2 s3 s4), Is (.string TT), Is (.bool true), Is (.bool true), Is (.bool true)] (by kernel_rfl) (by kernel_rfl) rfl ⟨stable_is _, stable_is _, stable_is _, stable_is _, stable_is _, stable_is _, stable_is _, stable_is _, stable_is _, stable_is _, stable_is _, stable_is _, stable_is _, stable_is _, stable_is _, stable_is _, stable_is _, stable_is _, stable_is _, stable_is _, stable_is _, stable_is _, trivial⟩ ⟨?_, ?_, ?_, ?_, ?_, ?_, ?_, ?_, ?_, ?_, ?_, ?_, ?_, ?_, ?_, ?_, ?_, ?_, ?_, ?_, ?_, ?_, trivial⟩ ?_
  · intro a w C
    exact part_on (wanted_free rfl _) (op_move (.inl rfl) (C.was 17 (by kernel_rfl)))
  · intro a w C
    exact part_on (wanted_free rfl _) (op_bin rfl (C.on (j := 0) (by kernel_rfl) rfl rfl) rfl rfl (by simp [go_sem]) rfl)
  · intro a w C
    exact part_on (wanted_free rfl _) (op_move (.inl rfl) (C.on (j := 1) (by kernel_rfl) rfl rfl))
  · intro a w C
    exact part_on (wanted_on (j := 2) rfl rfl rfl (C.on (j := 2) (by kernel_rfl) rfl rfl)) (op_move (.inl rfl) (C.was 7 (by kernel_rfl)))
  · intro a w C
    exact part_on (wanted_on (j := 2) rfl rfl rfl (C.on (j := 2) (by kernel_rfl) rfl rfl)) (op_call1 rfl (reg_enters Tryz.func17 (by kernel_rfl) (by kernel_rfl)) (C.on (j := 3) (by kernel_rfl) rfl rfl) (HU.out w C.below))
  · intro a w C
    exact part_on (wanted_on (j := 2) rfl rfl rfl (C.on (j := 2) (by kernel_rfl) rfl rfl)) (op_bin rfl (C.on (j := 4) (by kernel_rfl) rfl rfl) rfl rfl (by simp [go_sem]) rfl)
  · intro a w C
    exact part_on (wanted_free rfl _) (op_pick (k := true) rfl (C.on (j := 2) (by kernel_rfl) rfl rfl) (C.on (j := 5) (by kernel_rfl) rfl rfl))
  · intro a w C
    exact part_on (wanted_free rfl _) (op_move (.inl rfl) (C.on (j := 6) (by kernel_rfl) rfl rfl))
  · intro a w C
    exact part_on (wanted_on (j := 7) rfl rfl rfl (C.on (j := 7) (by kernel_rfl) rfl rfl)) (op_move (.inl rfl) (C.was 7 (by kernel_rfl)))
  · intro a w C
    exact part_on (wanted_on (j := 7) rfl rfl rfl (C.on (j := 7) (by kernel_rfl) rfl rfl)) (op_call1 rfl (reg_enters Tryz.func14 (by kernel_rfl) (by kernel_rfl)) (C.on (j := 8) (by kernel_rfl) rfl rfl) (HH.out w C.below))
  · intro a w C
    exact part_on (wanted_on (j := 7) rfl rfl rfl (C.on (j := 7) (by kernel_rfl) rfl rfl)) (op_value (s27_run rfl (by decide) (C.was 12 (by kernel_rfl))) rfl)
  · intro a w C
    exact part_on (wanted_on (j := 7) rfl rfl rfl (C.on (j := 7) (by kernel_rfl) rfl rfl)) (op_value (int_run rfl (C.on (j := 10) (by kernel_rfl) rfl rfl) (HC.out w C.below)) rfl)
  · intro a w C
    exact part_on (wanted_on (j := 7) rfl rfl rfl (C.on (j := 7) (by kernel_rfl) rfl rfl)) (op_bin rfl (C.on (j := 9) (by kernel_rfl) rfl rfl) (C.on (j := 11) (by kernel_rfl) rfl rfl) rfl (by simp [go_sem]) rfl)
  · intro a w C
    exact part_on (wanted_free rfl _) (op_pick (k := true) rfl (C.on (j := 7) (by kernel_rfl) rfl rfl) (C.on (j := 12) (by kernel_rfl) rfl rfl))
  · intro a w C
    exact part_on (wanted_free rfl _) (op_move (.inl rfl) (C.on (j := 13) (by kernel_rfl) rfl rfl))
  · intro a w C
    exact part_on (wanted_on (j := 14) rfl rfl rfl (C.on (j := 14) (by kernel_rfl) rfl rfl)) (op_move (.inl rfl) (C.was 16 (by kernel_rfl)))
  · intro a w C
    exact part_on (wanted_on (j := 14) rfl rfl rfl (C.on (j := 14) (by kernel_rfl) rfl rfl)) (op_value (load_run rfl (C.was 4 (by kernel_rfl)) (HP.out w C.below)) rfl)
  · intro a w C
    exact part_on (wanted_on (j := 14) rfl rfl rfl (C.on (j := 14) (by kernel_rfl) rfl rfl)) (op_value (load_run rfl (C.was 5 (by kernel_rfl)) (HI.out w C.below)) rfl)
  · intro a w C
    exact part_on (wanted_on (j := 14) rfl rfl rfl (C.on (j := 14) (by kernel_rfl) rfl rfl)) (op_call2 rfl (reg_enters Tryz.func18 (by kernel_rfl) (by kernel_rfl)) (C.on (j := 16) (by kernel_rfl) rfl rfl) (C.on (j := 17) (by kernel_rfl) rfl rfl) (CR.out w))
  · intro a w C
    exact part_on (wanted_on (j := 14) rfl rfl rfl (C.on (j := 14) (by kernel_rfl) rfl rfl)) (op_bin rfl (C.on (j := 15) (by kernel_rfl) rfl rfl) (C.on (j := 18) (by kernel_rfl) rfl rfl) rfl (by simp [go_sem]) rfl)
  · intro a w C
    exact part_on (wanted_free rfl _) (op_pick (k := true) rfl (C.on (j := 14) (by kernel_rfl) rfl rfl) (C.on (j := 19) (by kernel_rfl) rfl rfl))
  · intro a w C
    exact part_on (wanted_free rfl _) (op_move (.inr rfl) (C.on (j := 20) (by kernel_rfl) rfl rfl))
  rintro wF hbF _ rfl _ rfl _ rfl _ rfl _ rfl _ rfl _ rfl _ rfl _ rfl _ rfl _ rfl _ rfl _ rfl _ rfl _ rfl _ rfl _ rfl _ rfl _ rfl _ rfl _ rfl _ rfl
  simp only [Fin, setAt, Exit.then, List.setIfInBounds_toArray, List.set_cons_succ, List.set_cons_zero]
  have HBF := Lib.hid (HB7.out.trans (hbF.mono HB7.out.size))
  clear hbF HB7 HP HI HC HU HH CR
  go_wp2
  go_ret
  exact ⟨rfl, HBF.out⟩
end
end
theorem keys_any (B pa pt pm pl pz : Int) (s1 s2 s3 s4 : ByteArray) (hs1 : s1.size ≤ 140737488351232) (hs2 : s2.size ≤ 140737488351232) (hs3 : s3.size ≤ 140737488351232) (hs4 : s4.size ≤ 140737488351232) (w : World) (hQ : QAt w) (hT : TAt w) :
    Calls Tryz.prog 4 #[.int .i64 B, pav pa pt pm pl pz, inv s1 s2 s3 s4] w fun e w' => e = .returned (.bool true) ∧ Below w.heap.size w w' := by
  by_cases h : B < 0 ∨ 1000 < B ∨ 300 < s1.size ∨ 300 < s2.size ∨ 300 < s3.size ∨ 300 < s4.size
  · exact keys_guard B pa pt pm pl pz s1 s2 s3 s4 hs1 hs2 hs3 hs4 h w hQ hT
  obtain ⟨N, rfl⟩ : ∃ N : Nat, B = (N : Int) := ⟨B.toNat, by omega⟩
  rcases ways33 pa pt pm pl pz s1 s2 s3 s4 (by omega) (by omega) (by omega) (by omega) with ⟨E, hE, CH, CW, _, _⟩ | ⟨al, t, l, m, b, c, g, z, rfl, rfl, rfl, rfl, rfl, hM, hg, hc, hb, hbm, z1, z2, z3, z4, CO, CR, CH, CW, _⟩
  · exact keys_err (by omega) (by omega) (by omega) (by omega) (by omega) hE CH CW w hQ hT
  · by_cases hbB : N < b
    · exact keys_full (by omega) (by omega) (by omega) (by omega) (by omega) CR CW CO CH hbB w hQ hT
    · cases hf : fewB t l b with
      | false => exact keys_much (by omega) (by omega) (by omega) (by omega) (by omega) CR CW (by omega) hf w hQ hT
      | true =>
        obtain ⟨h1, h2, h3, h4, h5, h6, h7, h8, h9⟩ := hM
        have hf' := hf
        unfold fewB at hf'
        simp only [Bool.and_eq_true, decide_eq_true_eq] at hf'
        obtain ⟨f1, f2, f3⟩ := hf'
        have hcb : c ≤ b := by rw [hb]; exact Nat.le_mul_of_pos_left c h4
        have S : Sh al t l b c g := ⟨h1, h2, h3, h4, by omega, hg, hc, by omega, hb⟩
        have hHs : (tx (hdL al t l m z s1 s2 s3 s4)).size = 64 := by
          rw [tx_size]
          exact blkL_length0 64 (by decide) _ (by rw [hdX_length]; omega)
        exact keys_good (by omega) (by omega) (by omega) (by omega) (by omega) CR CW CO CH hHs S h7 h8 h9 rfl (rkey_any ⟨h1, h2, h3, h4, h5, h6, h7, h8, h9⟩ CR S s1 s2 s3 s4 z1 z2 z3 z4) (by omega) hf w hQ hT
end Go.Proofs.YtcbccjcnllifjaaGreatDoor
