/- The law ArgonAlone by the calls' contracts. Conditions: texts are no longer than what may come in; blake's and blend's tables lie at their places. -/
import Derived.Test.YtcbccjcnllifjaaGreatDoorAgLawH
namespace Go.Proofs.YtcbccjcnllifjaaGreatDoor
set_option maxRecDepth 50000
open Go.RowKit Bb Bl
theorem clo_any (v : Value) (w : World) : Calls Tryz.prog 21 #[v] w fun e w' => e = .returned (.int .i64 5) ∧ w = w' := by
  go_enter Tryz.func21, Tryz.ntmps21
  go_wp2
  go_ret
  exact ⟨rfl, rfl⟩
theorem alone_true (B pa pt pm pl pz : Int) (s1 s2 s3 s4 : ByteArray) {al t l m b c g z : Nat} {ok : Bool} (CO : ∀ w : World, Calls Tryz.prog 15 #[pav pa pt pm pl pz] w fun e w' => e = .returned (.tuple #[spv al t l m b c g z, .bool ok]) ∧ Below w.heap.size w w')
    {E : Int} (CW : ∀ w : World, Calls Tryz.prog 8 #[pav pa pt pm pl pz, inv s1 s2 s3 s4] w fun e w' => e = .returned (.int .i64 E) ∧ Below w.heap.size w w') (h : B < 0 ∨ 1000 < B ∨ ok = false ∨ fewB t l b = false ∨ E ≠ 0) (w : World) (hQ : QAt w) (hT : TAt w) :
    Calls Tryz.prog 5 #[.int .i64 B, pav pa pt pm pl pz, inv s1 s2 s3 s4] w fun e w' => e = .returned (.bool true) ∧ Below w.heap.size w w' := by
  obtain ⟨hp, hi, hb⟩ := pin_rows pa pt pm pl pz s1 s2 s3 s4 w
  have CA := Lib.hid (awake33_any _ (hQ.next hb) (hT.next hb))
  have CF := Lib.hid (few_any al t l m b c g z)
  have CO := Lib.hid CO
  have CW := Lib.hid CW
  have HP := Lib.hid hp
  have HI := Lib.hid hi
  have HB := Lib.hid hb
  clear hp hi hb hQ hT
  go_enter Tryz.func5, Tryz.ntmps5
  go_wp2_with fail
  refine CA.out.mono ?_
  rintro e w1 ⟨rfl, hb⟩
  have HP1 := Lib.hid (HP.out.step hb)
  have HI1 := Lib.hid (HI.out.step hb)
  have HB1 := Lib.hid (below_step HB.out hb)
  clear hb CA HI HB HP
  go_wp2_with (refine wpList_load_want rfl 23 _ rfl _ _ rfl (pa_load HP1.out) ?_)
  refine (CO.out _).mono ?_
  rintro e w2 ⟨rfl, hb⟩
  obtain ⟨w3, e3⟩ : ∃ w3, w3 = w2.alloc (.cells (spc al t l m b c g z) 44) := ⟨_, rfl⟩
  have b3 : Below w1.heap.size w1 w3 := by rw [e3]; exact hb.alloc hb.size _
  have r3 : RowAt w3 w2.heap.size 44 (spc al t l m b c g z) := by rw [e3]; exact RowAt.new w2 _ _
  have HP3 := Lib.hid (HP1.out.step b3)
  have HI3 := Lib.hid (HI1.out.step b3)
  have HB3 := Lib.hid (below_step HB1.out b3)
  have HR3 := Lib.hid (rsp_loadN r3)
  have E3 := Lib.hid e3
  clear hb CO HI1 HB1 HP1 b3 r3 e3
  go_upto_region 4 with fail
  rw [← E3.out]
  clear E3
  generalize fewB t l b = F at *
  have HH : (decide (B < 0) = true) ∨ (decide (B < 0) = false ∧ decide (1000 < B) = true) ∨ (decide (B < 0) = false ∧ decide (1000 < B) = false ∧ ok = false) ∨ (decide (B < 0) = false ∧ decide (1000 < B) = false ∧ ok = true ∧ F = false) ∨ (decide (B < 0) = false ∧ decide (1000 < B) = false ∧ ok = true ∧ F = true ∧ E ≠ 0) := by
    simp only [decide_eq_true_eq, decide_eq_false_iff_not]
    cases ok <;> cases F <;> simp at h ⊢ <;> omega
  clear h
  rcases HH with b1 | ⟨b1, b2⟩ | ⟨b1, b2, rfl⟩ | ⟨b1, b2, rfl, rfl⟩ | ⟨b1, b2, rfl, rfl, hE⟩
  · go_wp2
    go_ret
    exact ⟨rfl, HB3.out⟩
  · go_wp2
    go_ret
    exact ⟨rfl, HB3.out⟩
  · go_wp2
    go_ret
    exact ⟨rfl, HB3.out⟩
  · go_wp2_with (refine wpList_load_want rfl 44 _ rfl _ _ rfl HR3.out ?_)
    refine (CF.out _).mono ?_
    rintro e w4 ⟨rfl, hb⟩
    have HB4 := Lib.hid (below_step HB3.out hb)
    clear hb
    go_wp2
    go_ret
    exact ⟨rfl, HB4.out⟩
  · have e1 : (E == 0) = false := by simpa using hE
    have e2 : decide (E = 0) = false := by simpa using hE
    clear hE
    go_wp2_with (refine wpList_load_want rfl 44 _ rfl _ _ rfl HR3.out ?_)
    refine (CF.out _).mono ?_
    rintro e w4 ⟨rfl, hb⟩
    have HP4 := Lib.hid (HP3.out.step hb)
    have HI4 := Lib.hid (HI3.out.step hb)
    have HB4 := Lib.hid (below_step HB3.out hb)
    clear hb CF HP3 HI3 HB3 HR3
    go_wp2_with (first
    | refine wpList_load_want rfl 23 _ rfl _ _ rfl (pa_load HP4.out) ?_
    | refine wpList_load_want rfl 25 _ rfl _ _ rfl (in_load HI4.out) ?_)
    refine (CW.out _).mono ?_
    rintro e w5 ⟨rfl, hb⟩
    have HB5 := Lib.hid (below_step HB4.out hb)
    clear hb
    go_wp2
    go_ret
    exact ⟨rfl, HB5.out⟩
set_option maxHeartbeats 6400000 in
theorem alone_good {B : Nat} (hB : B ≤ 1000) {s1 s2 s3 s4 : ByteArray} {al t l m b c g z : Nat} (CO : ∀ w : World, Calls Tryz.prog 23 #[pav al t m l z] w fun e w' => e = .returned (.tuple #[spv al t l m b c g z, .int .i64 0]) ∧ Below w.heap.size w w') (CR : ∀ w : World, Calls Tryz.prog 15 #[pav al t m l z] w fun e w' => e = .returned (.tuple #[spv al t l m b c g z, .bool true]) ∧ Below w.heap.size w w')
    {HH : ByteArray} (CH : ∀ w, QAt w → Calls Tryz.prog 7 #[pav al t m l z, inv s1 s2 s3 s4] w fun e w' => e = .returned (.tuple #[.string HH, .int .i64 0]) ∧ Below w.heap.size w w') (CW : ∀ w, Calls Tryz.prog 8 #[pav al t m l z, inv s1 s2 s3 s4] w fun e w' => e = .returned (.int .i64 0) ∧ Below w.heap.size w w')
    (hHH : HH.size = 64) (S : Sh al t l b c g) (hm : m ≤ 4294967295) (hz4 : 4 ≤ z) (hz10 : z ≤ 1024) (hb80 : b ≤ 80) (hf : fewB t l b = true) (w : World) (hQ : QAt w) (hT : TAt w) :
    Calls Tryz.prog 5 #[.int .i64 (B : Int), pav al t m l z, inv s1 s2 s3 s4] w fun e w' => e = .returned (.bool true) ∧ Below w.heap.size w w' := by
  obtain ⟨hp, hi, hbw⟩ := pin_rows al t m l z s1 s2 s3 s4 w
  have CA := Lib.hid (awake33_any _ (hQ.next hbw) (hT.next hbw))
  have CF := Lib.hid (few_any al t l m b c g z)
  rw [hf] at CF
  have HQT : Hid (∀ u, Below w.heap.size w u → QAt u ∧ TAt u) := Lib.hid fun u hu => ⟨hQ.next hu, hT.next hu⟩
  have HP := Lib.hid hp
  have HI := Lib.hid hi
  have HB := Lib.hid hbw
  obtain ⟨TT, hTT⟩ : ∃ TT, TT = tx (agL al t l b c g z HH) := ⟨_, rfl⟩
  have hTz : TT.size = z := by rw [hTT, tx_size]; exact agL_length S (by omega)
  have x1 : decide ((TT.size : Int) = (z : Int)) = true := by simp [hTz]
  have x2 : ((TT.size : Int) == (z : Int)) = true := by simp [hTz]
  have x3 : decide (TT.size = z) = true := by simp [hTz]
  have x4 : (TT.size == z) = true := by simp [hTz]
  have hbl := S.bl
  have CK : Hid (∀ (a D u h c0 : Nat) (W : World), w.heap.size ≤ a → AreAt W a D u h c0 → u + b ≤ D → D ≤ 4194304 → c0 < 100 → QAt W ∧ TAt W → Calls Tryz.prog 13 #[.pointer (some ⟨a, 0, none⟩), pav al t m l z, inv s1 s2 s3 s4] W fun e w' => e = .returned (.tuple #[.string TT, .int .i64 0]) ∧ AreAt w' a D u (max h (u + b)) c0 ∧ Kept (fun j => j = a) W w') := Lib.hid fun a D u h c0 W ha hA h1 h2 h3 hq => by
    have h := key_any hA (N0 := w.heap.size) hQ.1 ⟨hT.1.1, hT.2.1⟩ ha hq.1 hq.2 CO S hm hz4 hz10 s1 s2 s3 s4 HH hHH CH h1 h2 (by omega)
    rw [← hTT] at h
    exact h
  have CY : Hid (∀ (a h : Nat) (W : World), w.heap.size ≤ a → AreAt W a b 0 h 0 → QAt W ∧ TAt W → Calls Tryz.prog 20 #[.pointer (some ⟨a, 0, none⟩), pav al t m l z, inv s1 s2 s3 s4, .func (.func 21) #[] #[]] W fun e w' => e = .returned (.tuple #[.string ⟨#[]⟩, .int .i64 5]) ∧ AreAt w' a b 0 (max h (0 + b)) 0 ∧ Kept (fun j => j = a) W w') := Lib.hid fun a h W ha hA hq => by
    have h := by_any hA (N0 := w.heap.size) hQ.1 ⟨hT.1.1, hT.2.1⟩ ha hq.1 hq.2 CO S hm hz4 hz10 s1 s2 s3 s4 HH hHH CH (by omega) (by omega) (by omega) (F := 21) (reg_enters Tryz.func21 (by kernel_rfl) (by kernel_rfl)) (r := 5) (L' := begTo HH c (List.replicate b zb) l) (by rw [begTo_len, List.length_replicate]; exact hbl)
      (fun W q p G hG _ _ => (clo_any _ W).mono fun e w' ⟨h1, h2⟩ => ⟨h1, by rw [← h2]; exact hG, by rw [← h2]; exact Kept.refl _ _⟩)
    rw [byV, if_neg (by decide)] at h
    exact h
  have CN0 : Hid (∀ W, QAt W → Calls Tryz.prog 13 #[.pointer none, pav al t m l z, inv s1 s2 s3 s4] W fun e w' => e = .returned (.tuple #[.string ⟨#[]⟩, .int .i64 11]) ∧ Below W.heap.size W w') := Lib.hid fun W hq =>
    key_lift ((by_nil CO s1 s2 s3 s4 HH CH (.func (.func 32) #[] #[]) _ (hq.next (pin_rows al t m l z s1 s2 s3 s4 W).2.2)).mono fun e w' ⟨h1, h2⟩ => (⟨h1, below_step (pin_rows al t m l z s1 s2 s3 s4 W).2.2 h2⟩ : e = _ ∧ Below W.heap.size W w'))
  have CW := Lib.hid CW
  have CR := Lib.hid CR
  have CNA := Lib.hid fun w => anew_any b (by omega) w
  have CNB := Lib.hid fun w => anew_any (b + B) (by omega) w
  obtain ⟨D, hD⟩ : ∃ D, b + B = D := ⟨_, rfl⟩
  rw [hD] at CNB
  have hDI : (b : Int) + (B : Int) = (D : Int) := by omega
  have hDw : IntKind.i64.wrap (D : Int) = (D : Int) := by rw [IntKind.wrap_i64]; omega
  have i1 : decide ((B : Int) < 0) = false := by simp
  have i2 : decide ((1000 : Int) < (B : Int)) = false := by simp; omega
  have i3 : decide (1000 < B) = false := by simp; omega
  have hDB : b + B ≤ D := by omega
  have hD4 : D ≤ 4194304 := by omega
  have HTT := Lib.hid hTT
  clear hp hi hbw hQ hT hf CO CH S hTT hHH hTz hD hbl
  go_enter Tryz.func5, Tryz.ntmps5
  go_wp2_with fail
  refine CA.out.mono ?_
  rintro e w1 ⟨rfl, hb⟩
  have HP1 := Lib.hid (HP.out.step hb)
  have HI1 := Lib.hid (HI.out.step hb)
  have HB1 := Lib.hid (below_step HB.out hb)
  clear hb CA HI HB HP
  go_wp2_with (refine wpList_load_want rfl 23 _ rfl _ _ rfl (pa_load HP1.out) ?_)
  refine (CR.out _).mono ?_
  rintro e w2 ⟨rfl, hb⟩
  obtain ⟨w3, e3⟩ : ∃ w3, w3 = w2.alloc (.cells (spc al t l m b c g z) 44) := ⟨_, rfl⟩
  have b3 : Below w1.heap.size w1 w3 := by rw [e3]; exact hb.alloc hb.size _
  have r3 : RowAt w3 w2.heap.size 44 (spc al t l m b c g z) := by rw [e3]; exact RowAt.new w2 _ _
  have HP3 := Lib.hid (HP1.out.step b3)
  have HI3 := Lib.hid (HI1.out.step b3)
  have HB3 := Lib.hid (below_step HB1.out b3)
  have HR3 := Lib.hid r3
  have E3 := Lib.hid e3
  clear hb CR HI1 HB1 HP1 b3 r3 e3
  go_upto_region 4 with fail
  rw [← E3.out]
  clear E3
  generalize w2.heap.size = S7 at *
  go_wp2_with (refine wpList_load_want rfl 44 _ rfl _ _ rfl (rsp_loadN HR3.out) ?_)
  refine (CF.out _).mono ?_
  rintro e w4 ⟨rfl, hb⟩
  have HP4 := Lib.hid (HP3.out.step hb)
  have HI4 := Lib.hid (HI3.out.step hb)
  have HB4 := Lib.hid (below_step HB3.out hb)
  have HR4 := Lib.hid (HR3.out.step hb)
  clear hb CF HP3 HI3 HB3 HR3
  go_wp2_with (first
    | refine wpList_load_want rfl 23 _ rfl _ _ rfl (pa_load HP4.out) ?_
    | refine wpList_load_want rfl 25 _ rfl _ _ rfl (in_load HI4.out) ?_)
  refine (CW.out _).mono ?_
  rintro e w5 ⟨rfl, hb⟩
  have HP5 := Lib.hid (HP4.out.step hb)
  have HI5 := Lib.hid (HI4.out.step hb)
  have HB5 := Lib.hid (below_step HB4.out hb)
  have HR5 := Lib.hid (HR4.out.step hb)
  have k4 : w5.cell? ⟨S7, 4, none⟩ = some (.int .i64 (b : Int)) := (HR5.out.cell 4).trans rfl
  clear hb CW HP4 HI4 HB4 HR4
  go_wp2_with fail
  refine (CNA.out _).mono ?_
  rintro e w6 ⟨rfl, hA, hb⟩
  obtain ⟨a, ha⟩ : ∃ a, a = w5.heap.size := ⟨_, rfl⟩
  have haw : w.heap.size ≤ a := by rw [ha]; exact HB5.out.size
  rw [← ha] at hA ⊢
  have HA6 := Lib.hid hA
  have HP6 := Lib.hid (HP5.out.step hb)
  have HI6 := Lib.hid (HI5.out.step hb)
  have HB6 := Lib.hid (below_step HB5.out hb)
  have HR6 := Lib.hid (HR5.out.step hb)
  have k4 : w6.cell? ⟨S7, 4, none⟩ = some (.int .i64 (b : Int)) := (HR6.out.cell 4).trans rfl
  clear hb hA CNA HP5 HI5 HB5 HR5 ha
  go_wp2_with fail
  refine (CNB.out _).mono ?_
  rintro e w7 ⟨rfl, hA, hb⟩
  obtain ⟨d, hd⟩ : ∃ d, d = w6.heap.size := ⟨_, rfl⟩
  have hdw : w.heap.size ≤ d := by rw [hd]; exact HB6.out.size
  have had : a < d := by rw [hd]; exact RowAt.lt HA6.out
  rw [← hd] at hA ⊢
  have HD7 := Lib.hid hA
  have HA7 := Lib.hid (RowAt.below HA6.out hb (RowAt.lt HA6.out))
  have HP7 := Lib.hid (HP6.out.step hb)
  have HI7 := Lib.hid (HI6.out.step hb)
  have HB7 := Lib.hid (below_step HB6.out hb)
  have CRS := Lib.hid (ares_any hA B (by omega) hD4 (by decide))
  have hna := Lib.hid (RowAt.unlike HP7.out HA7.out (by rfl))
  have hnb := Lib.hid (RowAt.unlike HI7.out HA7.out (by rfl))
  have hnc := Lib.hid (RowAt.unlike HP7.out HD7.out (by rfl))
  have hnd := Lib.hid (RowAt.unlike HI7.out HD7.out (by rfl))
  have hne : ¬ a = d := by omega
  clear hb hA CNB HP6 HI6 HB6 HR6 k4 hd HA6
  go_wp2_with fail
  refine CRS.out.mono ?_
  rintro e w8 ⟨⟨pp, gg, rfl, _, _, _⟩, hA, hk⟩
  have HD8 := Lib.hid hA
  have HA8 := Lib.hid (RowAt.kept HA7.out hk hne)
  have HP8 := Lib.hid (RowAt.kept HP7.out hk hnc.out)
  have HI8 := Lib.hid (RowAt.kept HI7.out hk hnd.out)
  have HB8 := Lib.hid (HB7.out.trans (hk.below HB7.out.size fun x e => by omega))
  have CK8 := Lib.hid (CK.out a b 0 0 0 w8 haw HA8.out (by omega) (by omega) (by decide) (HQT.out w8 HB8.out))
  clear hA hk CRS HP7 HI7 HB7 HA7 HD7
  go_wp2_with (first
    | refine wpList_load_want rfl 23 _ rfl _ _ rfl (pa_load HP8.out) ?_
    | refine wpList_load_want rfl 25 _ rfl _ _ rfl (in_load HI8.out) ?_)
  refine CK8.out.mono ?_
  rintro e w9 ⟨rfl, hA, hk⟩
  have HA9 := Lib.hid hA
  have HD9 := Lib.hid (RowAt.kept HD8.out hk (show ¬ d = a by omega))
  have HP9 := Lib.hid (RowAt.kept HP8.out hk hna.out)
  have HI9 := Lib.hid (RowAt.kept HI8.out hk hnb.out)
  have HB9 := Lib.hid (HB8.out.trans (hk.below HB8.out.size fun x e => by omega))
  have CK9 := Lib.hid (CK.out d D (0 + B) (max 0 (0 + B)) (0 + 1) w9 hdw HD9.out (by omega) hD4 (by decide) (HQT.out w9 HB9.out))
  clear hA hk CK8 HP8 HI8 HB8 HA8 HD8 CK
  go_wp2_with (first
    | refine wpList_load_want rfl 23 _ rfl _ _ rfl (pa_load HP9.out) ?_
    | refine wpList_load_want rfl 25 _ rfl _ _ rfl (in_load HI9.out) ?_)
  refine CK9.out.mono ?_
  rintro e wA ⟨rfl, hA, hk⟩
  have HDA := Lib.hid hA
  have HAA := Lib.hid (RowAt.kept HA9.out hk hne)
  have HPA := Lib.hid (RowAt.kept HP9.out hk hnc.out)
  have HIA := Lib.hid (RowAt.kept HI9.out hk hnd.out)
  have HBA := Lib.hid (HB9.out.trans (hk.below HB9.out.size fun x e => by omega))
  have CYA := Lib.hid (CY.out a _ wA haw HAA.out (HQT.out wA HBA.out))
  clear hA hk CK9 HP9 HI9 HB9 HA9 HD9 CY
  go_wp2_with (first
    | refine wpList_load_want rfl 23 _ rfl _ _ rfl (pa_load HPA.out) ?_
    | refine wpList_load_want rfl 25 _ rfl _ _ rfl (in_load HIA.out) ?_)
  refine CYA.out.mono ?_
  rintro e wB ⟨rfl, hA, hk⟩
  have HAB := Lib.hid hA
  have HDB := Lib.hid (RowAt.kept HDA.out hk (show ¬ d = a by omega))
  have HPB := Lib.hid (RowAt.kept HPA.out hk hna.out)
  have HIB := Lib.hid (RowAt.kept HIA.out hk hnb.out)
  have HBB := Lib.hid (HBA.out.trans (hk.below HBA.out.size fun x e => by omega))
  have CNB := Lib.hid (CN0.out wB (HQT.out wB HBB.out).1)
  clear hA hk CYA HPA HIA HBA HAA HDA HQT CN0
  go_wp2_with (first
    | refine wpList_load_want rfl 23 _ rfl _ _ rfl (pa_load HPB.out) ?_
    | refine wpList_load_want rfl 25 _ rfl _ _ rfl (in_load HIB.out) ?_)
  refine CNB.out.mono ?_
  rintro e wC ⟨rfl, hb⟩
  have HBC := Lib.hid (below_step HBB.out hb)
  have HAC := Lib.hid (RowAt.below HAB.out hb (RowAt.lt HAB.out))
  have HDC := Lib.hid (RowAt.below HDB.out hb (RowAt.lt HDB.out))
  have k4 := (pa_cells (HPB.out.step hb)).2.2.2.2
  have CU1 := Lib.hid (used_any HAC.out)
  clear hb CNB HPB HIB HBB HAB HDB hna hnb hnc hnd
  go_wp2_with fail
  refine CU1.out.mono ?_
  rintro e wD ⟨rfl, hb⟩
  have HBD := Lib.hid (below_step HBC.out hb)
  have CU2 := Lib.hid (used_any (RowAt.below HDC.out hb (RowAt.lt HDC.out)))
  rw [Nat.zero_add] at CU2
  clear hb CU1 HBC HAC HDC k4
  go_wp2_with fail
  refine CU2.out.mono ?_
  rintro e wE ⟨rfl, hb⟩
  have HBE := Lib.hid (below_step HBD.out hb)
  clear hb CU2 HBD
  go_wp2
  go_ret
  exact ⟨rfl, HBE.out⟩
theorem alone_any (B pa pt pm pl pz : Int) (s1 s2 s3 s4 : ByteArray) (hs1 : s1.size ≤ 140737488351232) (hs2 : s2.size ≤ 140737488351232) (hs3 : s3.size ≤ 140737488351232) (hs4 : s4.size ≤ 140737488351232) (w : World) (hQ : QAt w) (hT : TAt w) :
    Calls Tryz.prog 5 #[.int .i64 B, pav pa pt pm pl pz, inv s1 s2 s3 s4] w fun e w' => e = .returned (.bool true) ∧ Below w.heap.size w w' := by
  cases hM : mayB pa pt pm pl pz with
  | false =>
    exact alone_true (al := 0) (t := 0) (l := 0) (m := 0) (b := 0) (c := 0) (g := 0) (z := 0) (ok := false) B pa pt pm pl pz s1 s2 s3 s4 (rof_bad pa pt pm pl pz hM) (why_bad pa pt pm pl pz hM s1 s2 s3 s4) (.inr (.inr (.inl rfl))) w hQ hT
  | true =>
    obtain ⟨al, t, m, l, z, rfl, rfl, rfl, rfl, rfl, hO⟩ := may_nats hM
    obtain ⟨b, c, g, hg, hc, hb, hbm, hgm, CO⟩ := of_good hO
    have CR := rof_good hO hgm hc hb hbm
    have CW := why_good CR s1 s2 s3 s4 hs1 hs2 hs3 hs4
    by_cases hx : B < 0 ∨ 1000 < B ∨ fewB t l b = false ∨ wyN s1.size s2.size s3.size s4.size ≠ 0
    · exact alone_true B _ _ _ _ _ s1 s2 s3 s4 CR CW (by rcases hx with h | h | h | h; exact .inl h; exact .inr (.inl h); exact .inr (.inr (.inr (.inl h))); exact .inr (.inr (.inr (.inr h)))) w hQ hT
    · have hE : wyN s1.size s2.size s3.size s4.size = 0 := Decidable.byContradiction fun h => hx (.inr (.inr (.inr h)))
      have hf : fewB t l b = true := by
        cases h : fewB t l b with
        | true => rfl
        | false => exact absurd (.inr (.inr (.inl h))) hx
      have hB1 : ¬ B < 0 := fun h => hx (.inl h)
      have hB2 : ¬ 1000 < B := fun h => hx (.inr (.inl h))
      obtain ⟨N, rfl⟩ : ∃ N : Nat, B = (N : Int) := ⟨B.toNat, by omega⟩
      have hs : ¬ (s2.size < 8 ∨ 64 < s2.size) := fun h => by rw [wy_salt h] at hE; cases hE
      have hy : ¬ (4096 < s1.size ∨ 4096 < s3.size ∨ 4096 < s4.size) := fun h => by rw [wy_long hs h] at hE; cases hE
      rw [hE] at CW
      have CC := check_good CO s1 s2 s3 s4 (by omega)
      rw [hE] at CC
      have hf' := hf
      unfold fewB at hf'
      simp only [Bool.and_eq_true, decide_eq_true_eq] at hf'
      obtain ⟨f1, f2, f3⟩ := hf'
      have hO' := hO
      obtain ⟨h1, h2, h3, h4, h5, h6, h7, h8, h9⟩ := hO
      have hcb : c ≤ b := by rw [hb]; exact Nat.le_mul_of_pos_left c h4
      have S : Sh al t l b c g := ⟨h1, h2, h3, h4, by omega, hg, hc, by omega, hb⟩
      have hHs : (tx (hdL al t l m z s1 s2 s3 s4)).size = 64 := by
        rw [tx_size]
        exact blkL_length0 64 (by decide) _ (by rw [hdX_length]; omega)
      exact alone_good (by omega) CO CR (fun w hQ => head_good CO hO' s1 s2 s3 s4 CC (by omega) (by omega) (by omega) (by omega) w hQ) CW hHs S h7 h8 h9 f3 hf w hQ hT
end Go.Proofs.YtcbccjcnllifjaaGreatDoor
