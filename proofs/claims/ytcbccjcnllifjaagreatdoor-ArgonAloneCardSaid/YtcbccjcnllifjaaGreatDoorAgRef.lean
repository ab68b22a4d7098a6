/- The document's Head by its contract. Conditions: those typed. -/
import Derived.Test.YtcbccjcnllifjaaGreatDoorAgC
import Derived.Test.YtcbccjcnllifjaaGreatDoorBkRsum
namespace Go.Proofs.YtcbccjcnllifjaaGreatDoor
set_option maxRecDepth 50000
open Go.RowKit Bb Bl
theorem add_text (a b : ByteArray) (ha : a.size + b.size ≤ 100000) (w : World) : (binOp .add 9 (.string a) (.string b)).run Tryz.prog w = .ok (.string (a ++ b)) w := by
  simp [go_sem]
  omega
theorem number_any (n : Nat) (hn : n < 4294967296) (w : World) : Calls Tryz.prog 29 #[.int .i64 (n : Int)] w fun e w' => e = .returned (.string (tx (lead n))) ∧ Below w.heap.size w w' := by
  have C := Lib.hid (of32_own n w hn)
  have hu : IntKind.u32.wrap (n : Int) = (n : Int) := by rw [IntKind.wrap_u32]; omega
  go_enter Tryz.func29, Tryz.ntmps29
  go_wp2_with fail
  refine C.out.mono ?_
  rintro e w1 ⟨g, c, rfl, ho, hb⟩
  rw [lead_cs] at ho
  have hcv : (convert 86 9 (.slice (some ⟨g, 0, none⟩) 4 c)).run Tryz.prog w1 = .ok (.string (tx (lead n))) w1 := conv_text w1 ho
  have HB := Lib.hid hb
  clear ho hb C
  go_wp2
  go_ret
  exact ⟨rfl, HB.out⟩
theorem sized_any (s : ByteArray) (hs : s.size ≤ 5000) (w : World) : Calls Tryz.prog 31 #[.string s] w fun e w' => e = .returned (.string (tx (inL s))) ∧ Below w.heap.size w w' := by
  have C := Lib.hid (number_any s.size (by omega) w)
  have hL : (tx (lead s.size)).size = 4 := by rw [tx_size, lead_length]
  have hT : tx (inL s) = tx (lead s.size) ++ s := tl_inj (by rw [tl_app, tl_tx, tl_tx]; rfl)
  rw [hT]
  generalize tx (lead s.size) = TL at *
  clear hT
  go_enter Tryz.func31, Tryz.ntmps31
  go_wp2_with fail
  refine C.out.mono ?_
  rintro e w1 ⟨rfl, hb⟩
  have HB := Lib.hid hb
  clear hb C
  go_wp2
  go_ret
  exact ⟨rfl, HB.out⟩
section
variable {w : World} {ev : Operand → Value} {x : Operand} {o : Oper}
theorem paf_run {b off : Nat} {k : Nat} (hop : o.op = .fieldAddr 23 x k) (hk : k < 5) (hx : ev x = .pointer (some ⟨b, off, none⟩)) : (execOp ev o).run Tryz.prog w = .ok (.value (.pointer (some ⟨b, off + k, none⟩))) w := by
  rcases (show k = 0 ∨ k = 1 ∨ k = 2 ∨ k = 3 ∨ k = 4 by omega) with rfl | rfl | rfl | rfl | rfl
  all_goals
    simp [execOp, hop, hx, go_sem]
end
theorem lead_flat (xs : List Nat) : (xs.flatMap lead).length = 4 * xs.length := by
  induction xs with
  | nil => rfl
  | cons x xs ih => rw [List.flatMap_cons, List.length_append, ih, lead_length, List.length_cons]; omega
theorem lead_more (xs : List Nat) (y : Nat) : tx ((xs ++ [y]).flatMap lead) = tx (xs.flatMap lead) ++ tx (lead y) := by
  rw [tx_app, List.flatMap_append]
  simp
set_option maxHeartbeats 3200000 in
theorem rhead_any {a t l m z : Nat} (hM : Mok a t m l z) (s1 s2 s3 s4 : ByteArray) (hs1 : s1.size ≤ 4096) (hs2 : s2.size ≤ 64) (hs3 : s3.size ≤ 4096) (hs4 : s4.size ≤ 4096) (w : World) :
    Calls Tryz.prog 10 #[.agg (wq iv), pav a t m l z, inv s1 s2 s3 s4] w fun e w' => e = .returned (.string (tx (hdL a t l m z s1 s2 s3 s4))) ∧ Below w.heap.size w w' := by
  obtain ⟨ha, ht1, ht2, hl1, hl2, hm1, hm2, hz1, hz2⟩ := hM
  obtain ⟨k, hk⟩ : ∃ k, a - 1 = k := ⟨_, rfl⟩
  have hk3 : k < 3 := by omega
  have HK : Hid (∀ u : World, (binOp .sub 3 (.int .i64 (a : Int)) (.int .i64 1)).run Tryz.prog u = .ok (.int .i64 (k : Int)) u) := Lib.hid fun u => by
    have e : IntKind.i64.wrap ((a : Int) - 1) = (k : Int) := by rw [IntKind.wrap_i64]; omega
    simp [go_sem, e]
  have hz1' : z ≤ 1024 := hz2
  have HA : Hid (∀ (xs : List Nat) (y : Nat) (u : World), xs.length ≤ 10 → (binOp .add 9 (.string (tx (xs.flatMap lead))) (.string (tx (lead y)))).run Tryz.prog u = .ok (.string (tx ((xs ++ [y]).flatMap lead))) u) := Lib.hid fun xs y u hx => by
    rw [lead_more]
    exact add_text _ _ (by rw [tx_size, tx_size, lead_flat, lead_length]; omega) u
  have HA2 : Hid (∀ (x y : Nat) (u : World), (binOp .add 9 (.string (tx (lead x))) (.string (tx (lead y)))).run Tryz.prog u = .ok (.string (tx ([x, y].flatMap lead))) u) := Lib.hid fun x y u => by
    have h := HA.out [x] y u (by simp)
    simpa using h
  obtain ⟨T0, hT0⟩ : ∃ T, T = tx (cosL l z m t k) := ⟨_, rfl⟩
  obtain ⟨T1, hT1⟩ : ∃ T, T = T0 ++ tx (inL s1) := ⟨_, rfl⟩
  obtain ⟨T2, hT2⟩ : ∃ T, T = T1 ++ tx (inL s2) := ⟨_, rfl⟩
  obtain ⟨T3, hT3⟩ : ∃ T, T = T2 ++ tx (inL s3) := ⟨_, rfl⟩
  obtain ⟨T4, hT4⟩ : ∃ T, T = T3 ++ tx (inL s4) := ⟨_, rfl⟩
  have z0 : T0.size = 24 := by rw [hT0, tx_size, cosL_length]
  have zi : ∀ s : ByteArray, (tx (inL s)).size = 4 + s.size := fun s => by rw [tx_size, inL_length]
  have z1 : T1.size = 28 + s1.size := by rw [hT1, ByteArray.size_append, z0, zi]; omega
  have z2 : T2.size = 32 + s1.size + s2.size := by rw [hT2, ByteArray.size_append, z1, zi]; omega
  have z3 : T3.size = 36 + s1.size + s2.size + s3.size := by rw [hT3, ByteArray.size_append, z2, zi]; omega
  have z4 : T4.size = 40 + s1.size + s2.size + s3.size + s4.size := by rw [hT4, ByteArray.size_append, z3, zi]; omega
  have HT : Hid ((∀ u : World, (binOp .add 9 (.string T0) (.string (tx (inL s1)))).run Tryz.prog u = .ok (.string T1) u) ∧ (∀ u : World, (binOp .add 9 (.string T1) (.string (tx (inL s2)))).run Tryz.prog u = .ok (.string T2) u) ∧ (∀ u : World, (binOp .add 9 (.string T2) (.string (tx (inL s3)))).run Tryz.prog u = .ok (.string T3) u) ∧ (∀ u : World, (binOp .add 9 (.string T3) (.string (tx (inL s4)))).run Tryz.prog u = .ok (.string T4) u)) := Lib.hid
    ⟨fun u => by rw [hT1]; exact add_text _ _ (by rw [z0, zi]; omega) u, fun u => by rw [hT2]; exact add_text _ _ (by rw [z1, zi]; omega) u, fun u => by rw [hT3]; exact add_text _ _ (by rw [z2, zi]; omega) u, fun u => by rw [hT4]; exact add_text _ _ (by rw [z3, zi]; omega) u⟩
  obtain ⟨HH, hHH⟩ : ∃ HH, HH = tx (hdL a t l m z s1 s2 s3 s4) := ⟨_, rfl⟩
  have CS : Hid (∀ u : World, Calls Tryz.prog 30 #[.agg (wq iv), .int .i64 64, .string ⟨#[]⟩, .string T4] u fun e w' => ∃ v, e = .returned v ∧ Is (.string HH) v w' ∧ Below u.heap.size u w') := Lib.hid fun u => by
    have h := rsum_plain 64 (by decide) T4 (by rw [z4]; omega) u
    have e : tl T4 = hdX a t l m z s1 s2 s3 s4 := by
      rw [hT4, hT3, hT2, hT1, hT0, ← hk]
      simp only [tl_app, tl_tx, hdX, List.append_assoc]
    rw [e] at h
    rw [hHH]
    exact calls_is h
  have hT0' : tx ([l, z, m, t, 19, k].flatMap lead) = T0 := hT0.symm
  have HT0 := Lib.hid hT0'
  rw [← hHH]
  obtain ⟨A0, hA0⟩ : ∃ A0, A0 = w.heap.size := ⟨_, rfl⟩
  obtain ⟨w1, e1⟩ : ∃ w1, w1 = ((w.alloc (.cells (wq iv) 35)).alloc (.cells (pac a t m l z) 23)).alloc (.cells (inc s1 s2 s3 s4) 25) := ⟨_, rfl⟩
  have b1 : Below w.heap.size w w1 := by rw [e1]; exact (two_box _ _ _).alloc (by rw [World.size_alloc, World.size_alloc]; omega) _
  have r1 : RowAt w1 A0 35 (wq iv) := by rw [e1, hA0]; exact ((RowAt.new w _ _).alloc _).alloc _
  have r2 : RowAt w1 (A0 + 1) 23 (pac a t m l z) := by
    rw [e1, hA0]
    have := RowAt.new (w.alloc (.cells (wq iv) 35)) 23 (pac a t m l z)
    rw [World.size_alloc] at this
    exact this.alloc _
  have r3 : RowAt w1 (A0 + 1 + 1) 25 (inc s1 s2 s3 s4) := by
    rw [e1, hA0]
    have := RowAt.new ((w.alloc (.cells (wq iv) 35)).alloc (.cells (pac a t m l z) 23)) 25 (inc s1 s2 s3 s4)
    rwa [World.size_alloc, World.size_alloc] at this
  have HB := Lib.hid b1
  have HV0 := Lib.hid r1
  have HP := Lib.hid r2
  have HI0 := Lib.hid r3
  have hl : l < 4294967296 := by omega
  have hm : m < 4294967296 := by omega
  have ht : t < 4294967296 := by omega
  have E1 := Lib.hid e1
  have EA := Lib.hid hA0
  clear b1 r1 r2 r3 e1 hA0 hT0 hT1 hT2 hT3 hT4 z0 zi z1 z2 z3 z4 hHH hk hT0'
  go_enter Tryz.func10, Tryz.ntmps10
  go_upto_region 1 with fail
  rw [← E1.out, ← EA.out]
  obtain ⟨S, hS⟩ : ∃ S, S = A0 + 1 := ⟨_, rfl⟩
  obtain ⟨I, hI⟩ : ∃ I, I = A0 + 1 + 1 := ⟨_, rfl⟩
  rw [← hS] at HP
  rw [← hI] at HI0
  rw [← hI, ← hS]
  clear E1 EA hS hI
  refine wp_region_text [Is (.pointer (some ⟨S, 0 + 3, none⟩)), Is (.int .i64 (l : Int)), Is (.string (tx (lead l))), Is (.pointer (some ⟨S, 0 + 4, none⟩)), Is (.int .i64 (z : Int)), Is (.string (tx (lead z))), Is (.string (tx ([l, z].flatMap lead))), Is (.pointer (some ⟨S, 0 + 2, none⟩)), Is (.int .i64 (m : Int)), Is (.string (tx (lead m))), Is (.string (tx ([l, z, m].flatMap lead))), Is (.pointer (some ⟨S, 0 + 1, none⟩)), Is (.int .i64 (t : Int)), Is (.string (tx (lead t))), Is (.string (tx ([l, z, m, t].flatMap lead))), Is (.string (tx (lead 19))), Is (.string (tx ([l, z, m, t, 19].flatMap lead))), Is (.pointer (some ⟨S, 0 + 0, none⟩)), Is (.int .i64 (a : Int)), Is (.int .i64 (k : Int)), Is (.string (tx (lead k))), Is (.string (tx ([l, z, m, t, 19, k].flatMap lead))), Is (.string (tx ([l, z, m, t, 19, k].flatMap lead)))] (by kernel_rfl) (by kernel_rfl) rfl ⟨stable_is _, stable_is _, stable_is _, stable_is _, stable_is _, stable_is _, stable_is _, stable_is _, stable_is _, stable_is _, stable_is _, stable_is _, stable_is _, stable_is _, stable_is _, stable_is _, stable_is _, stable_is _, stable_is _, stable_is _, stable_is _, stable_is _, stable_is _, trivial⟩ ⟨?_, ?_, ?_, ?_, ?_, ?_, ?_, ?_, ?_, ?_, ?_, ?_, ?_, ?_, ?_, ?_, ?_, ?_, ?_, ?_, ?_, ?_, ?_, trivial⟩ ?_
  · intro a w C
    exact part_on (wanted_free rfl _) (op_value (paf_run (k := 3) rfl (by decide) (C.was 4 (by kernel_rfl))) rfl)
  · intro a w C
    exact part_on (wanted_free rfl _) (op_value (int_run rfl (C.on (j := 0) (by kernel_rfl) rfl rfl) (pa_cells (HP.out.step C.below)).2.2.2.1) rfl)
  · intro a w C
    exact part_on (wanted_free rfl _) (op_call1 rfl (reg_enters Tryz.func29 (by kernel_rfl) (by kernel_rfl)) (C.on (j := 1) (by kernel_rfl) rfl rfl) (calls_is (number_any l (by omega) w)))
  · intro a w C
    exact part_on (wanted_free rfl _) (op_value (paf_run (k := 4) rfl (by decide) (C.was 4 (by kernel_rfl))) rfl)
  · intro a w C
    exact part_on (wanted_free rfl _) (op_value (int_run rfl (C.on (j := 3) (by kernel_rfl) rfl rfl) (pa_cells (HP.out.step C.below)).2.2.2.2) rfl)
  · intro a w C
    exact part_on (wanted_free rfl _) (op_call1 rfl (reg_enters Tryz.func29 (by kernel_rfl) (by kernel_rfl)) (C.on (j := 4) (by kernel_rfl) rfl rfl) (calls_is (number_any z (by omega) w)))
  · intro a w C
    exact part_on (wanted_free rfl _) (op_bin rfl (C.on (j := 2) (by kernel_rfl) rfl rfl) (C.on (j := 5) (by kernel_rfl) rfl rfl) rfl (HA2.out l z w) rfl)
  · intro a w C
    exact part_on (wanted_free rfl _) (op_value (paf_run (k := 2) rfl (by decide) (C.was 4 (by kernel_rfl))) rfl)
  · intro a w C
    exact part_on (wanted_free rfl _) (op_value (int_run rfl (C.on (j := 7) (by kernel_rfl) rfl rfl) (pa_cells (HP.out.step C.below)).2.2.1) rfl)
  · intro a w C
    exact part_on (wanted_free rfl _) (op_call1 rfl (reg_enters Tryz.func29 (by kernel_rfl) (by kernel_rfl)) (C.on (j := 8) (by kernel_rfl) rfl rfl) (calls_is (number_any m (by omega) w)))
  · intro a w C
    exact part_on (wanted_free rfl _) (op_bin rfl (C.on (j := 6) (by kernel_rfl) rfl rfl) (C.on (j := 9) (by kernel_rfl) rfl rfl) rfl (HA.out [l, z] m w (by simp)) rfl)
  · intro a w C
    exact part_on (wanted_free rfl _) (op_value (paf_run (k := 1) rfl (by decide) (C.was 4 (by kernel_rfl))) rfl)
  · intro a w C
    exact part_on (wanted_free rfl _) (op_value (int_run rfl (C.on (j := 11) (by kernel_rfl) rfl rfl) (pa_cells (HP.out.step C.below)).2.1) rfl)
  · intro a w C
    exact part_on (wanted_free rfl _) (op_call1 rfl (reg_enters Tryz.func29 (by kernel_rfl) (by kernel_rfl)) (C.on (j := 12) (by kernel_rfl) rfl rfl) (calls_is (number_any t (by omega) w)))
  · intro a w C
    exact part_on (wanted_free rfl _) (op_bin rfl (C.on (j := 10) (by kernel_rfl) rfl rfl) (C.on (j := 13) (by kernel_rfl) rfl rfl) rfl (HA.out [l, z, m] t w (by simp)) rfl)
  · intro a w C
    exact part_on (wanted_free rfl _) (op_call1 rfl (reg_enters Tryz.func29 (by kernel_rfl) (by kernel_rfl)) rfl (calls_is (number_any 19 (by decide) w)))
  · intro a w C
    exact part_on (wanted_free rfl _) (op_bin rfl (C.on (j := 14) (by kernel_rfl) rfl rfl) (C.on (j := 15) (by kernel_rfl) rfl rfl) rfl (HA.out [l, z, m, t] 19 w (by simp)) rfl)
  · intro a w C
    exact part_on (wanted_free rfl _) (op_value (paf_run (k := 0) rfl (by decide) (C.was 4 (by kernel_rfl))) rfl)
  · intro a w C
    exact part_on (wanted_free rfl _) (op_value (int_run rfl (C.on (j := 17) (by kernel_rfl) rfl rfl) (pa_cells (HP.out.step C.below)).1) rfl)
  · intro a w C
    exact part_on (wanted_free rfl _) (op_bin rfl (C.on (j := 18) (by kernel_rfl) rfl rfl) rfl rfl (HK.out w) rfl)
  · intro a w C
    exact part_on (wanted_free rfl _) (op_call1 rfl (reg_enters Tryz.func29 (by kernel_rfl) (by kernel_rfl)) (C.on (j := 19) (by kernel_rfl) rfl rfl) (calls_is (number_any k (by omega) w)))
  · intro a w C
    exact part_on (wanted_free rfl _) (op_bin rfl (C.on (j := 16) (by kernel_rfl) rfl rfl) (C.on (j := 20) (by kernel_rfl) rfl rfl) rfl (HA.out [l, z, m, t, 19] k w (by simp)) rfl)
  · intro a w C
    exact part_on (wanted_free rfl _) (op_move (.inr rfl) (C.on (j := 21) (by kernel_rfl) rfl rfl))
  rintro wF hbF _ rfl _ rfl _ rfl _ rfl _ rfl _ rfl _ rfl _ rfl _ rfl _ rfl _ rfl _ rfl _ rfl _ rfl _ rfl _ rfl _ rfl _ rfl _ rfl _ rfl _ rfl _ rfl _ rfl
  simp only [Fin, setAt, Exit.then, List.setIfInBounds_toArray, List.set_cons_succ, List.set_cons_zero]
  rw [HT0.out]
  have HBF := Lib.hid (HB.out.trans (hbF.mono HB.out.size))
  have HVF := Lib.hid (HV0.out.step hbF)
  have HIF := Lib.hid (HI0.out.step hbF)
  clear hbF HB HV0 HI0 HP HA HA2 HK HT0
  generalize wF = w1 at *
  have HV : Hid (∀ u, Below w1.heap.size w1 u → (loadVar 35 ⟨A0, 0, none⟩).run Tryz.prog u = .ok (.agg (wq iv)) u) := Lib.hid fun u hu => RowAt.load (HVF.out.step hu) Tryz.underlying35 (by kernel_rfl)
  have HI := HIF
  clear HVF HIF
  go_upto_region 2 with fail
  generalize A0 = F at *
  refine wp_region_text [Is (.agg (wq iv)), Is (.string T0), Is (.pointer (some ⟨I, 0 + 0, none⟩)), Is (.string s1), Is (.string (tx (inL s1))), Is (.string T1), Is (.pointer (some ⟨I, 0 + 1, none⟩)), Is (.string s2), Is (.string (tx (inL s2))), Is (.string T2), Is (.pointer (some ⟨I, 0 + 2, none⟩)), Is (.string s3), Is (.string (tx (inL s3))), Is (.string T3), Is (.pointer (some ⟨I, 0 + 3, none⟩)), Is (.string s4), Is (.string (tx (inL s4))), Is (.string T4), Is (.string HH), Is (.string HH)] (by kernel_rfl) (by kernel_rfl) rfl ⟨stable_is _, stable_is _, stable_is _, stable_is _, stable_is _, stable_is _, stable_is _, stable_is _, stable_is _, stable_is _, stable_is _, stable_is _, stable_is _, stable_is _, stable_is _, stable_is _, stable_is _, stable_is _, stable_is _, stable_is _, trivial⟩ ⟨?_, ?_, ?_, ?_, ?_, ?_, ?_, ?_, ?_, ?_, ?_, ?_, ?_, ?_, ?_, ?_, ?_, ?_, ?_, ?_, trivial⟩ ?_
  · intro a w C
    exact part_on (wanted_free rfl _) (op_value (load_run rfl (C.was 3 (by kernel_rfl)) (HV.out w C.below)) rfl)
  · intro a w C
    exact part_on (wanted_free rfl _) (op_move (.inl rfl) (C.was 7 (by kernel_rfl)))
  · intro a w C
    exact part_on (wanted_free rfl _) (op_value (inf_run (k := 0) rfl (by decide) (C.was 5 (by kernel_rfl))) rfl)
  · intro a w C
    exact part_on (wanted_free rfl _) (op_value (str_run rfl (C.on (j := 2) (by kernel_rfl) rfl rfl) (in_cells (HI.out.step C.below)).1) rfl)
  · intro a w C
    exact part_on (wanted_free rfl _) (op_call1 rfl (reg_enters Tryz.func31 (by kernel_rfl) (by kernel_rfl)) (C.on (j := 3) (by kernel_rfl) rfl rfl) (calls_is (sized_any s1 (by omega) w)))
  · intro a w C
    exact part_on (wanted_free rfl _) (op_bin rfl (C.on (j := 1) (by kernel_rfl) rfl rfl) (C.on (j := 4) (by kernel_rfl) rfl rfl) rfl (HT.out.1 w) rfl)
  · intro a w C
    exact part_on (wanted_free rfl _) (op_value (inf_run (k := 1) rfl (by decide) (C.was 5 (by kernel_rfl))) rfl)
  · intro a w C
    exact part_on (wanted_free rfl _) (op_value (str_run rfl (C.on (j := 6) (by kernel_rfl) rfl rfl) (in_cells (HI.out.step C.below)).2.1) rfl)
  · intro a w C
    exact part_on (wanted_free rfl _) (op_call1 rfl (reg_enters Tryz.func31 (by kernel_rfl) (by kernel_rfl)) (C.on (j := 7) (by kernel_rfl) rfl rfl) (calls_is (sized_any s2 (by omega) w)))
  · intro a w C
    exact part_on (wanted_free rfl _) (op_bin rfl (C.on (j := 5) (by kernel_rfl) rfl rfl) (C.on (j := 8) (by kernel_rfl) rfl rfl) rfl (HT.out.2.1 w) rfl)
  · intro a w C
    exact part_on (wanted_free rfl _) (op_value (inf_run (k := 2) rfl (by decide) (C.was 5 (by kernel_rfl))) rfl)
  · intro a w C
    exact part_on (wanted_free rfl _) (op_value (str_run rfl (C.on (j := 10) (by kernel_rfl) rfl rfl) (in_cells (HI.out.step C.below)).2.2.1) rfl)
  · intro a w C
    exact part_on (wanted_free rfl _) (op_call1 rfl (reg_enters Tryz.func31 (by kernel_rfl) (by kernel_rfl)) (C.on (j := 11) (by kernel_rfl) rfl rfl) (calls_is (sized_any s3 (by omega) w)))
  · intro a w C
    exact part_on (wanted_free rfl _) (op_bin rfl (C.on (j := 9) (by kernel_rfl) rfl rfl) (C.on (j := 12) (by kernel_rfl) rfl rfl) rfl (HT.out.2.2.1 w) rfl)
  · intro a w C
    exact part_on (wanted_free rfl _) (op_value (inf_run (k := 3) rfl (by decide) (C.was 5 (by kernel_rfl))) rfl)
  · intro a w C
    exact part_on (wanted_free rfl _) (op_value (str_run rfl (C.on (j := 14) (by kernel_rfl) rfl rfl) (in_cells (HI.out.step C.below)).2.2.2) rfl)
  · intro a w C
    exact part_on (wanted_free rfl _) (op_call1 rfl (reg_enters Tryz.func31 (by kernel_rfl) (by kernel_rfl)) (C.on (j := 15) (by kernel_rfl) rfl rfl) (calls_is (sized_any s4 (by omega) w)))
  · intro a w C
    exact part_on (wanted_free rfl _) (op_bin rfl (C.on (j := 13) (by kernel_rfl) rfl rfl) (C.on (j := 16) (by kernel_rfl) rfl rfl) rfl (HT.out.2.2.2 w) rfl)
  · intro a w C
    exact part_on (wanted_free rfl _) (op_call4 rfl (reg_enters Tryz.func30 (by kernel_rfl) (by kernel_rfl)) (C.on (j := 0) (by kernel_rfl) rfl rfl) rfl rfl (C.on (j := 17) (by kernel_rfl) rfl rfl) (CS.out w))
  · intro a w C
    exact part_on (wanted_free rfl _) (op_move (.inr rfl) (C.on (j := 18) (by kernel_rfl) rfl rfl))
  rintro wF hbF _ rfl _ rfl _ rfl _ rfl _ rfl _ rfl _ rfl _ rfl _ rfl _ rfl _ rfl _ rfl _ rfl _ rfl _ rfl _ rfl _ rfl _ rfl _ rfl _ rfl
  simp only [Fin, setAt, Exit.then, List.setIfInBounds_toArray, List.set_cons_succ, List.set_cons_zero]
  have HF := Lib.hid (HBF.out.trans (hbF.mono HBF.out.size))
  clear hbF HBF HT HV HI CS
  go_wp2
  go_ret
  exact ⟨rfl, HF.out⟩
end Go.Proofs.YtcbccjcnllifjaaGreatDoor
