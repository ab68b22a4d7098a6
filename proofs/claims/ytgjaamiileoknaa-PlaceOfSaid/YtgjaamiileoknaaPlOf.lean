/- Of of package place by its contract. Conditions: those typed. -/
import Derived.Test.YtgjaamiileoknaaPlRefers
namespace Go.Proofs.Ytgjaamiileoknaa
set_option maxRecDepth 50000
open Go.RowKit

/-- what stands where a shape, a turn and a spot have been put -/
structure Th (w wr : World) (q r e : Nat) (a t l m b c g z : Nat) (p s : Int) (x y : Nat) : Prop where
  tw : Tw wr q r a t l m b c g z p s
  so : RowAt wr e 35 (soc x y)
  le : w.heap.size ≤ e
  below : Below w.heap.size w wr
section
variable {w wr w' : World} {q r e a t l m b c g z x y : Nat} {p s : Int}
theorem Th.on (H : Th w wr q r e a t l m b c g z p s x y) (hb : Below wr.heap.size wr w') : Th w w' q r e a t l m b c g z p s x y := ⟨H.tw.on hb, H.so.step hb, H.le, H.below.trans (hb.mono H.below.size)⟩
theorem Th.set (H : Th w wr q r e a t l m b c g z p s x y) (x' y' : Nat) : RowAt (wr.setRow e (soc x' y')) e 35 (soc x' y') ∧ Below w.heap.size w (wr.setRow e (soc x' y')) := ⟨H.so.setRow _, below_setRow H.below H.le _⟩
theorem th_new (a t l m b c g z : Nat) (p s : Int) (w : World) : Th w (((w.alloc (.cells (spc a t l m b c g z) 29)).alloc (.cells (tuc p s) 25)).alloc (.cells (soc 0 0) 35)) w.heap.size (w.heap.size + 1) (w.heap.size + 1 + 1) a t l m b c g z p s 0 0 := by
  have H := tw_new a t l m b c g z p s w
  have s2 : ((w.alloc (.cells (spc a t l m b c g z) 29)).alloc (.cells (tuc p s) 25)).heap.size = w.heap.size + 1 + 1 := by simp [World.size_alloc]
  refine ⟨⟨H.sh.alloc _, H.tu.alloc _⟩, ?_, by omega, (two_box w _ _).alloc (by rw [s2]; omega) _⟩
  have := RowAt.new ((w.alloc (.cells (spc a t l m b c g z) 29)).alloc (.cells (tuc p s) 25)) 35 (soc 0 0)
  rwa [s2] at this
end

set_option maxHeartbeats 3200000 in
theorem plof_bad (a t l m b c g z : Nat) (p s k i : Int) (J K : Nat) (ht : t ≤ 4294967295) (hl : l ≤ 4294967295) (hg : g ≤ 4294967295) (hx : reB t l g p s k i = false) (w : World) :
    Calls Try.prog 8 #[spv a t l m b c g z, tuv p s, .int .i64 k, .int .i64 i, .int .u32 (J : Int), .int .u32 (K : Int)] w fun e w' => e = .returned (.tuple #[sov 0 0, .int .i64 11]) ∧ Below w.heap.size w w' := by
  have CR := Lib.hid (refers_any a t l m b c g z p s k i ht hl hg _ hx)
  have HT := Lib.hid (th_new a t l m b c g z p s w)
  clear hx
  go_enter Try.func8, Try.ntmps8
  go_wp2_with fail
  refine (CR.out _).mono ?_
  rintro e w3 ⟨rfl, hb⟩
  have HT3 := Lib.hid (HT.out.on hb)
  clear hb HT CR
  go_wp2_with (refine wpList_store_of rfl _ _ _ rfl ⟨w.heap.size + 1 + 1, 0, none⟩ _ rfl rfl (so_store rfl HT3.out.so) ?_)
  refine bodyPost_ret (results_row_tmp (fn := Try.f8) (p := 12) (u := 13) (b := w.heap.size + 1 + 1) (t := 35) (C := soc 0 0) rfl _ rfl (HT3.out.set _ _).1 Try.underlying35 rfl so_size) rfl ⟨rfl, (HT3.out.set _ _).2⟩

set_option maxHeartbeats 6400000 in
theorem plof_walk (a t l m b c g z p s k i J K L F B A Y C : Nat) (O : Bool) (ht : t ≤ 4294967295) (hl1 : 1 ≤ l) (hl : l ≤ 4294967295) (hg : g ≤ c) (hc : c ≤ 4294967295) (hs3 : s ≤ 3) (hs : (s + 1) * g ≤ 4294967296) (hi : i ≤ 4294967296) (hJ : J < 4294967296) (hK : K < 4294967296)
    (hx : reB t l g p s k i = true) (hL : lnN l p s k K = L) (hF : frN g p s = F) (hB : bsN c g p s = B) (hO : decide (L = k) = O) (hA : arI B i O = (A : Int)) (hA1 : 1 ≤ A) (hA2 : A ≤ 4294967296) (hY : piN A J = Y)
    (hC : (if c ≤ F + Y then F + Y - c else F + Y) = C) (hFb : F ≤ 4294967296) (w : World) :
    Calls Try.prog 8 #[spv a t l m b c g z, tuv p s, .int .i64 (k : Int), .int .i64 (i : Int), .int .u32 (J : Int), .int .u32 (K : Int)] w fun e w' => e = .returned (.tuple #[sov L C, .int .i64 0]) ∧ Below w.heap.size w w' := by
  have CR := Lib.hid (refers_any a t l m b c g z p s k i ht hl (by omega) _ hx)
  have CL := Lib.hid (lane_any a t l m b c g z p s k K L hL hl1 hK)
  have CF := Lib.hid fun w => calls_is (from_any a t l m b c g z p s F hF hs hs3 w)
  have hs1 : s * g ≤ 4294967296 := Nat.le_trans (Nat.mul_le_mul_right _ (by omega)) hs
  have CA := Lib.hid fun w => calls_is (area_any a t l m b c g z p s i B O hB hg (by omega) hs1 hi w)
  rw [hA] at CA
  have CP := Lib.hid fun w => calls_same (pick_any A J hA1 hA2 hJ w)
  have hYb : Y ≤ 4294967296 := by have := pi_lt (A := A) (J := J) hA1; omega
  rw [hY] at CP
  have HT := Lib.hid (th_new a t l m b c g z (p : Int) (s : Int) w)
  have HCC := Lib.hid hC
  have heq : ∀ w : World, (binOp .eql 3 (.int .i64 (L : Int)) (.int .i64 (k : Int))).run Try.prog w = .ok (.bool O) w := fun w => by
    rw [← hO]
    simp [go_sem]
    by_cases h : L = k
    · simp [h]
    · simp [h]
      omega
  clear hx hL hF hB hO hA hY hC hs hs1
  go_enter Try.func8, Try.ntmps8
  go_wp2_with fail
  refine (CR.out _).mono ?_
  rintro e w3 ⟨rfl, hb⟩
  have HT3 := Lib.hid (HT.out.on hb)
  clear hb HT CR
  generalize w.heap.size + 1 + 1 = d at *
  generalize w.heap.size + 1 = r at *
  generalize hq : w.heap.size = q at *
  have hf3 := HT3.out.tw.facts
  have f1 := hf3.sh
  have f2 := hf3.tu
  clear hf3
  go_wp2_with (first | refine wpList_load_want rfl 29 _ rfl _ _ rfl f1 ?_ | refine wpList_load_want rfl 25 _ rfl _ _ rfl f2 ?_)
  refine (CL.out _).mono ?_
  rintro e w4 ⟨rfl, hb⟩
  have HT4 := Lib.hid (HT3.out.on hb)
  clear hb HT3 CL f1 f2
  have HC := HT4.out.tw.later
  go_wp2_with fail
  refine wp_region_text [Is (spv a t l m b c g z), Is (tuv (p : Int) (s : Int)), Is (.int .i64 (F : Int)), Is (spv a t l m b c g z), Is (tuv (p : Int) (s : Int)), Is (.int .i64 (i : Int)), Is (.int .i64 (L : Int)), Is (.int .i64 (k : Int)), Is (.bool O), Is (.int .i64 (A : Int)), Is (.int .u32 (J : Int)), Is (.int .i64 (Y : Int)), Is (.int .i64 ((F + Y : Nat) : Int)), Is (.int .i64 ((F + Y : Nat) : Int))] (by kernel_rfl) (by kernel_rfl) rfl ⟨stable_is _, stable_is _, stable_is _, stable_is _, stable_is _, stable_is _, stable_is _, stable_is _, stable_is _, stable_is _, stable_is _, stable_is _, stable_is _, stable_is _, trivial⟩ ⟨?_, ?_, ?_, ?_, ?_, ?_, ?_, ?_, ?_, ?_, ?_, ?_, ?_, ?_, trivial⟩ ?_
  · intro a w C
    exact part_on (wanted_free rfl _) (op_value (load_run rfl (C.was 6 (by kernel_rfl)) (HC.out w C.below).sh) rfl)
  · intro a w C
    exact part_on (wanted_free rfl _) (op_value (load_run rfl (C.was 7 (by kernel_rfl)) (HC.out w C.below).tu) rfl)
  · intro a w C
    exact part_on (wanted_free rfl _) (op_call2 rfl (reg_enters Try.func14 (by kernel_rfl) (by kernel_rfl)) (C.on (j := 0) (by kernel_rfl) rfl rfl) (C.on (j := 1) (by kernel_rfl) rfl rfl) (CF.out w))
  · intro a w C
    exact part_on (wanted_free rfl _) (op_value (load_run rfl (C.was 6 (by kernel_rfl)) (HC.out w C.below).sh) rfl)
  · intro a w C
    exact part_on (wanted_free rfl _) (op_value (load_run rfl (C.was 7 (by kernel_rfl)) (HC.out w C.below).tu) rfl)
  · intro a w C
    exact part_on (wanted_free rfl _) (op_move (.inl rfl) (C.was 3 (by kernel_rfl)))
  · intro a w C
    exact part_on (wanted_free rfl _) (op_move (.inl rfl) (C.was 14 (by kernel_rfl)))
  · intro a w C
    exact part_on (wanted_free rfl _) (op_move (.inl rfl) (C.was 2 (by kernel_rfl)))
  · intro a w C
    exact part_on (wanted_free rfl _) (op_bin rfl (C.on (j := 6) (by kernel_rfl) rfl rfl) (C.on (j := 7) (by kernel_rfl) rfl rfl) rfl (heq w) rfl)
  · intro a w C
    exact part_on (wanted_free rfl _) (op_call4 rfl (reg_enters Try.func12 (by kernel_rfl) (by kernel_rfl)) (C.on (j := 3) (by kernel_rfl) rfl rfl) (C.on (j := 4) (by kernel_rfl) rfl rfl) (C.on (j := 5) (by kernel_rfl) rfl rfl) (C.on (j := 8) (by kernel_rfl) rfl rfl) (CA.out w))
  · intro a w C
    exact part_on (wanted_free rfl _) (op_move (.inl rfl) (C.was 4 (by kernel_rfl)))
  · intro a w C
    exact part_on (wanted_free rfl _) (op_call2 rfl (reg_enters Try.func17 (by kernel_rfl) (by kernel_rfl)) (C.on (j := 9) (by kernel_rfl) rfl rfl) (C.on (j := 10) (by kernel_rfl) rfl rfl) (CP.out w))
  · intro a w C
    exact part_on (wanted_free rfl _) (op_bin rfl (C.on (j := 2) (by kernel_rfl) rfl rfl) (C.on (j := 11) (by kernel_rfl) rfl rfl) rfl (add_run w _ _ _ (by omega) (by omega) (by omega)) rfl)
  · intro a w C
    exact part_on (wanted_free rfl _) (op_move (.inr rfl) (C.on (j := 12) (by kernel_rfl) rfl rfl))
  rintro wF hbF _ rfl _ rfl _ rfl _ rfl _ rfl _ rfl _ rfl _ rfl _ rfl _ rfl _ rfl _ rfl _ rfl _ rfl
  simp only [Fin, setAt, Exit.then, List.setIfInBounds_toArray, List.set_cons_succ, List.set_cons_zero]
  have HTF := Lib.hid (HT4.out.on hbF)
  clear hbF HT4 HC CF CA CP heq
  have f5 := HTF.out.tw.facts.c
  by_cases hge : c ≤ F + Y
  · have hC := HCC.out
    rw [if_pos hge] at hC
    have e1 : ((F + Y : Nat) : Int) - (c : Int) = (C : Int) := by omega
    have hC2 : C ≤ 8589934592 := by omega
    clear HCC hC
    generalize F + Y = G at *
    go_wp2_with (refine wpList_store_of rfl _ _ _ rfl ⟨d, 0, none⟩ _ rfl rfl (so_store rfl HTF.out.so) ?_)
    subst hq
    refine bodyPost_ret (results_row_tmp (fn := Try.f8) (p := 12) (u := 13) (b := d) (t := 35) (C := soc L C) rfl _ rfl (HTF.out.set _ _).1 Try.underlying35 rfl so_size) rfl ⟨rfl, (HTF.out.set _ _).2⟩
  · have hC := HCC.out
    rw [if_neg hge] at hC
    clear HCC
    generalize F + Y = G at *
    subst hC
    go_wp2_with (refine wpList_store_of rfl _ _ _ rfl ⟨d, 0, none⟩ _ rfl rfl (so_store rfl HTF.out.so) ?_)
    subst hq
    refine bodyPost_ret (results_row_tmp (fn := Try.f8) (p := 12) (u := 13) (b := d) (t := 35) (C := soc L G) rfl _ rfl (HTF.out.set _ _).1 Try.underlying35 rfl so_size) rfl ⟨rfl, (HTF.out.set _ _).2⟩
end Go.Proofs.Ytgjaamiileoknaa
