/- The document's masked and Tag by their contracts. Conditions: the key is of at most 300 bytes, the text of at most 1,000. -/
import Derived.Test.YtebocfbnamcnoaaDoorMxMac
import Derived.Test.YtebocfbnamcnoaaDoorShRsum
namespace Go.Proofs.YtebocfbnamcnoaaDoor
set_option maxRecDepth 50000
open Go.RowKit Sha

theorem cs_take_snoc (l : List UInt8) (k : Nat) (h : k < l.length) : cs (l.take (k + 1)) = cs (l.take k) ++ [.int .u8 (l[k].toNat : Int)] := by
  rw [List.take_succ_eq_append_getElem h, cs_append]; rfl
theorem u8_xor_u (x m : UInt8) : bits .xor .u8 (x.toNat : Int) (m.toNat : Int) = ((x ^^^ m).toNat : Int) := by
  rw [u8_xor_of x.toNat m x.toNat_lt, UInt8.toNat_xor]
theorem tl_at (s : ByteArray) (k : Nat) (h : k < s.size) : (tl s)[k]'(by rw [tl_length]; exact h) = s[k] := rfl

set_option maxHeartbeats 1600000 in
theorem rmask_any (s : ByteArray) (hs : s.size ≤ 64) (m : UInt8) (w : World) : Calls Tryd.prog 52 #[.string s, .int .u8 (m.toNat : Int)] w fun e w' => e = .returned (.string (tx (mskL m (tl s ++ List.replicate (64 - s.size) 0)))) ∧ Below w.heap.size w w' := by
  obtain ⟨i0, hi, hz0, hz1, hz2⟩ := info_parts Tryd.info5
  obtain ⟨Y, hY⟩ : ∃ Y, Y = mskL m (tl s ++ List.replicate (64 - s.size) 0) := ⟨_, rfl⟩
  have hYl : Y.length = 64 := by rw [hY, mskL_length, List.length_append, List.length_replicate, tl_length]; omega
  have hY1 : ∀ k, (h : k < s.size) → Y[k]'(by omega) = s[k] ^^^ m := fun k h => by
    subst hY
    simp only [mskL, List.getElem_map]
    rw [List.getElem_append_left (by rw [tl_length]; exact h), tl_at s k h]
  have hY2 : ∀ k, (h : ¬ k < s.size) → (h2 : k < 64) → Y[k]'(by omega) = 0 ^^^ m := fun k h h2 => by
    subst hY
    simp only [mskL, List.getElem_map]
    rw [List.getElem_append_right (by rw [tl_length]; omega), List.getElem_replicate]
  have HY1 := Lib.hid hY1
  have HY2 := Lib.hid hY2
  have HYL := Lib.hid hYl
  rw [← hY]
  clear hY hY1 hY2
  go_enter Tryd.func52, Tryd.ntmps52
  go_wp2
  go_loopw [5, 6] (fun v i wr => ∃ k : Nat, k ≤ 64 ∧ i = .int .i64 (k : Int) ∧ wr.ownsRow w.heap.size 5 1 v k (cs (Y.take k)) ∧ Below w.heap.size w wr) (fun _ i _ => 64 - (intOf i).toNat)
  case atStart => exact ⟨0, Nat.zero_le _, rfl, by simpa [cs] using World.ownsRow_nil _ _ _ _, Below.refl _ _⟩
  case round =>
    obtain ⟨k, hk, rfl, hown, hb⟩ := hrel
    by_cases hlt : k < 64
    · have hsz := hb.size
      have hdt : decide ((k : Int) < 64) = true := by simp; omega
      have hYk : k < Y.length := by rw [HYL.out]; exact hlt
      have HS := Lib.hid (cs_take_snoc Y k hYk)
      have ik0 : (0 : Int) ≤ (k : Int) := by omega
      by_cases hks : k < s.size
      · have i1 : (k : Int) < (s.size : Int) := by omega
        have hd2 : decide ((k : Int) < (s.size : Int)) = true := by simp; omega
        have hx := u8_xor_u s[k] m
        rw [← HY1.out k hks] at hx
        generalize Y[k] = y at *
        clear hYk
        go_wp2_with (at_builtin; refine wpList_append_own _ rfl (.tmp 19) (.tmp 23) 48 rfl w.heap.size 5 i0 (.int .u8 0) 1 1 Tryd.underlying48 hi hz0 hz1 hz2 rfl (by decide) _ _ _ rfl (hown.alloc _) ⟨wr.heap.size, 0, none⟩ 1 1 [.int .u8 (y.toNat : Int)] rfl rfl ?c1 ?c2 ?c3 ?c4 ?c5 ?_)
        case c1 => exact one_new _ _ _
        case c2 => exact one_cell _ rfl
        case c3 => unfold maxLen; omega
        case c4 => omega
        case c5 => simp; omega
        intro v' w2 hown2 hg2 _
        have R := rel_step hb hsz hown hown2 hg2
        clear hown2 hg2 hown hb
        go_wp2
        go_roundw
        case rel => exact ⟨k + 1, by omega, by go_num, by rw [HS.out]; exact R.1, R.2⟩
        case measure => simp [intOf]; omega
      · have hd2 : decide ((k : Int) < (s.size : Int)) = false := by simp; omega
        have hx := u8_xor_u 0 m
        rw [← HY2.out k hks hlt] at hx
        have e0 : ((0 : UInt8).toNat : Int) = 0 := rfl
        rw [e0] at hx
        generalize Y[k] = y at *
        clear hYk
        go_wp2_with (at_builtin; refine wpList_append_own _ rfl (.tmp 19) (.tmp 23) 48 rfl w.heap.size 5 i0 (.int .u8 0) 1 1 Tryd.underlying48 hi hz0 hz1 hz2 rfl (by decide) _ _ _ rfl (hown.alloc _) ⟨wr.heap.size, 0, none⟩ 1 1 [.int .u8 (y.toNat : Int)] rfl rfl ?c1 ?c2 ?c3 ?c4 ?c5 ?_)
        case c1 => exact one_new _ _ _
        case c2 => exact one_cell _ rfl
        case c3 => unfold maxLen; omega
        case c4 => omega
        case c5 => simp; omega
        intro v' w2 hown2 hg2 _
        have R := rel_step hb hsz hown hown2 hg2
        clear hown2 hg2 hown hb
        go_wp2
        go_roundw
        case rel => exact ⟨k + 1, by omega, by go_num, by rw [HS.out]; exact R.1, R.2⟩
        case measure => simp [intOf]; omega
    · obtain rfl : k = 64 := by omega
      have e1 : Y.take 64 = Y := by rw [List.take_of_length_le (by rw [HYL.out]; decide)]
      rw [e1] at hown
      have hcv := conv_text wr hown
      have HB := Lib.hid hb
      clear hown hb e1
      go_wp2
      go_ret
      exact ⟨rfl, HB.out⟩

theorem loadfx_run (w : World) (b : Nat) (FX : Array Value) (ev : Operand → Value) (x : Operand) (o : Oper) (hop : o.op = .load 33 x) (hx : ev x = .pointer (some ⟨b, 0, none⟩)) (hc : (loadVar 33 ⟨b, 0, none⟩).run Tryd.prog w = .ok (.agg FX) w) : (execOp ev o).run Tryd.prog w = .ok (.value (.agg FX)) w := by
  simp [execOp, hop, hx, Instr.loadAt, Instr.sureAddr, hc]
theorem fx_load {w : World} {FX : Array Value} {b : Nat} (h : RowAt w b 33 FX) (hf : FX.size = 72) : (loadVar 33 ⟨b, 0, none⟩).run Tryd.prog w = .ok (.agg FX) w :=
  run_loadVar_row (P := Tryd.prog) _ _ 33 33 FX (0, 0) _ h Tryd.underlying33 rfl (by rw [hf]; exact size72)

theorem rtag_facts (FX : Array Value) (hFX : FX = wd (kk ++ hh)) (K : List UInt8) (k : ByteArray) (hk : k.size ≤ 64) (hK : keyL K = tl k ++ List.replicate (64 - k.size) 0) (t : ByteArray) (ht : t.size ≤ 1000) :
    ∃ Z I0 S D : ByteArray, D = tx (tagL K (tl t)) ∧
      (∀ W : World, (Calls Tryd.prog 52 #[.string k, .int .u8 92] W fun e w' => ∃ x, e = .returned x ∧ Is (.string Z) x w' ∧ Below W.heap.size W w') ∧ Calls Tryd.prog 52 #[.string k, .int .u8 54] W fun e w' => ∃ x, e = .returned x ∧ Is (.string I0) x w' ∧ Below W.heap.size W w') ∧
      (∀ W : World, (binOp .add 9 (.string I0) (.string t)).run Tryd.prog W = .ok (.string (I0 ++ t)) W) ∧
      (∀ W : World, (binOp .add 9 (.string Z) (.string S)).run Tryd.prog W = .ok (.string (Z ++ S)) W) ∧
      (∀ W : World, (Calls Tryd.prog 51 #[.agg FX, .string (I0 ++ t)] W fun e w' => ∃ x, e = .returned x ∧ Is (.string S) x w' ∧ Below W.heap.size W w') ∧ Calls Tryd.prog 51 #[.agg FX, .string (Z ++ S)] W fun e w' => ∃ x, e = .returned x ∧ Is (.string D) x w' ∧ Below W.heap.size W w') := by
  subst hFX
  have z1 : (tx (outK K)).size = 64 := by rw [tx_size, outK_length]
  have z2 : (tx (inK K)).size = 64 := by rw [tx_size, inK_length]
  have z3 : (tx (shaL (inK K ++ tl t))).size = 32 := by rw [tx_size, shaL_length]
  have e1 : tx (inK K) ++ t = tx (inK K ++ tl t) := by rw [tx_append, tx_tl]
  refine ⟨tx (outK K), tx (inK K), tx (shaL (inK K ++ tl t)), tx (tagL K (tl t)), rfl, fun W => ⟨?_, ?_⟩, fun W => ?_, fun W => ?_, fun W => ⟨?_, ?_⟩⟩
  · refine (rmask_any k hk 92 W).mono ?_
    rintro e w' ⟨rfl, hb⟩
    exact ⟨_, rfl, by rw [← hK]; rfl, hb⟩
  · refine (rmask_any k hk 54 W).mono ?_
    rintro e w' ⟨rfl, hb⟩
    exact ⟨_, rfl, by rw [← hK]; rfl, hb⟩
  · simp [go_sem]; omega
  · simp [go_sem]; omega
  · rw [e1]
    refine (rsum_any _ (by rw [tx_size, List.length_append, inK_length, tl_length]; omega) W).mono ?_
    rintro e w' ⟨rfl, hb⟩
    exact ⟨_, rfl, by rw [tl_tx]; rfl, hb⟩
  · rw [← tx_append]
    refine (rsum_any _ (by rw [tx_size, List.length_append, outK_length, shaL_length]; omega) W).mono ?_
    rintro e w' ⟨rfl, hb⟩
    exact ⟨_, rfl, by rw [tl_tx]; rfl, hb⟩

set_option maxHeartbeats 1600000 in
theorem rtag_any (k t : ByteArray) (hk : k.size ≤ 1000) (ht : t.size ≤ 1000) (w : World) : Calls Tryd.prog 37 #[.agg (wd (kk ++ hh)), .string k, .string t] w fun e w' => e = .returned (.string (tx (tagL (tl k) (tl t)))) ∧ Below w.heap.size w w' := by
  have hfl : (wd (kk ++ hh)).size = 72 := by rw [wd_size]; rfl
  obtain ⟨FX, hFX⟩ : ∃ FX, FX = wd (kk ++ hh) := ⟨_, rfl⟩
  by_cases h64 : 64 < k.size
  · have C := rsum_any k (by omega)
    obtain ⟨k2, hk2⟩ : ∃ k2, k2 = tx (shaL (tl k)) := ⟨_, rfl⟩
    have hs2 : k2.size = 32 := by rw [hk2, tx_size, shaL_length]
    have hK : keyL (tl k) = tl k2 ++ List.replicate (64 - k2.size) 0 := by
      rw [hs2, hk2, tl_tx]
      unfold keyL cutK
      rw [tl_length, if_pos h64, shaL_length]
    obtain ⟨Z, I0, S, D, hD, CM0, HA10, HA20, CS0⟩ := rtag_facts FX hFX (tl k) k2 (by omega) hK t ht
    have CM := Lib.hid CM0
    have HA1 := Lib.hid HA10
    have HA2 := Lib.hid HA20
    have CS := Lib.hid CS0
    rw [← hk2, ← hFX] at C
    rw [← hD, ← hFX]
    rw [← hFX] at hfl
    have CC := Lib.hid C
    have HFL := Lib.hid hfl
    clear C CM0 HA10 HA20 CS0 hD hK hk2 hs2 hfl hFX
    go_enter Tryd.func37, Tryd.ntmps37
    have R0 := Lib.hid (RowAt.new w 33 FX)
    have B0 : Hid (Below w.heap.size w (w.alloc (.cells FX 33))) := Lib.hid ((Below.refl _ w).alloc (Nat.le_refl _) _)
    have hlt : w.heap.size < (w.alloc (.cells FX 33)).heap.size := by simp
    go_wp2_with (first
      | refine wpList_load_of rfl 33 (.tmp 3) rfl ⟨w.heap.size, 0, none⟩ _ rfl (fx_load R0.out HFL.out) ?_)
    refine (CC.out _).mono ?_
    rintro e w1 ⟨rfl, b1⟩
    have LF := Lib.hid fun (w' : World) (hb : Below w1.heap.size w1 w') => fx_load (((R0.out.below b1 hlt).below hb (Nat.lt_of_lt_of_le hlt b1.size))) HFL.out
    have B1 := Lib.hid (below_step B0.out b1)
    clear b1 hlt
    go_wp2_with fail
    refine wp_region_text [Is (.agg FX), Is (.string k2), Is (.string Z), Is (.agg FX), Is (.string k2), Is (.string I0), Is (.string t), Is (.string (I0 ++ t)), Is (.string S), Is (.string (Z ++ S)), Is (.string D), Is (.string D)] (by kernel_rfl) (by kernel_rfl) rfl ⟨stable_is _, stable_is _, stable_is _, stable_is _, stable_is _, stable_is _, stable_is _, stable_is _, stable_is _, stable_is _, stable_is _, stable_is _, trivial⟩ ⟨?_, ?_, ?_, ?_, ?_, ?_, ?_, ?_, ?_, ?_, ?_, ?_, trivial⟩ ?_
    · intro a w C
      exact part_on (wanted_free rfl _) (op_value (loadfx_run _ _ _ _ _ _ rfl (C.was 3 (by kernel_rfl)) (LF.out w C.below)) rfl)
    · intro a w C
      exact part_on (wanted_free rfl _) (op_move (.inl rfl) (C.was 1 (by kernel_rfl)))
    · intro a w C
      exact part_on (wanted_free rfl _) (op_call2 rfl (reg_enters Tryd.func52 (by kernel_rfl) (by kernel_rfl)) (C.on (j := 1) (by kernel_rfl) rfl rfl) rfl ((CM.out w).1))
    · intro a w C
      exact part_on (wanted_free rfl _) (op_value (loadfx_run _ _ _ _ _ _ rfl (C.was 3 (by kernel_rfl)) (LF.out w C.below)) rfl)
    · intro a w C
      exact part_on (wanted_free rfl _) (op_move (.inl rfl) (C.was 1 (by kernel_rfl)))
    · intro a w C
      exact part_on (wanted_free rfl _) (op_call2 rfl (reg_enters Tryd.func52 (by kernel_rfl) (by kernel_rfl)) (C.on (j := 4) (by kernel_rfl) rfl rfl) rfl ((CM.out w).2))
    · intro a w C
      exact part_on (wanted_free rfl _) (op_move (.inl rfl) (C.was 2 (by kernel_rfl)))
    · intro a w C
      exact part_on (wanted_free rfl _) (op_bin rfl (C.on (j := 5) (by kernel_rfl) rfl rfl) (C.on (j := 6) (by kernel_rfl) rfl rfl) rfl (HA1.out w) rfl)
    · intro a w C
      exact part_on (wanted_free rfl _) (op_call2 rfl (reg_enters Tryd.func51 (by kernel_rfl) (by kernel_rfl)) (C.on (j := 3) (by kernel_rfl) rfl rfl) (C.on (j := 7) (by kernel_rfl) rfl rfl) ((CS.out w).1))
    · intro a w C
      exact part_on (wanted_free rfl _) (op_bin rfl (C.on (j := 2) (by kernel_rfl) rfl rfl) (C.on (j := 8) (by kernel_rfl) rfl rfl) rfl (HA2.out w) rfl)
    · intro a w C
      exact part_on (wanted_free rfl _) (op_call2 rfl (reg_enters Tryd.func51 (by kernel_rfl) (by kernel_rfl)) (C.on (j := 0) (by kernel_rfl) rfl rfl) (C.on (j := 9) (by kernel_rfl) rfl rfl) ((CS.out w).2))
    · intro a w C
      exact part_on (wanted_free rfl _) (op_move (.inr rfl) (C.on (j := 10) (by kernel_rfl) rfl rfl))
    rintro wF hbF _ rfl _ rfl _ rfl _ rfl _ rfl _ rfl _ rfl _ rfl _ rfl _ rfl _ rfl _ rfl
    simp only [Fin, setAt, Exit.then, List.setIfInBounds_toArray, List.set_cons_succ, List.set_cons_zero]

    go_wp2
    go_ret
    exact ⟨rfl, below_step B1.out hbF⟩
  · have hK : keyL (tl k) = tl k ++ List.replicate (64 - k.size) 0 := by
      unfold keyL cutK
      rw [tl_length, if_neg h64, tl_length]
    obtain ⟨Z, I0, S, D, hD, CM0, HA10, HA20, CS0⟩ := rtag_facts FX hFX (tl k) k (by omega) hK t ht
    have CM := Lib.hid CM0
    have HA1 := Lib.hid HA10
    have HA2 := Lib.hid HA20
    have CS := Lib.hid CS0
    rw [← hD, ← hFX]
    rw [← hFX] at hfl
    have HFL := Lib.hid hfl
    clear CM0 HA10 HA20 CS0 hD hK hfl hFX
    go_enter Tryd.func37, Tryd.ntmps37
    have R0 := Lib.hid (RowAt.new w 33 FX)
    have B0 : Hid (Below w.heap.size w (w.alloc (.cells FX 33))) := Lib.hid ((Below.refl _ w).alloc (Nat.le_refl _) _)
    have hlt : w.heap.size < (w.alloc (.cells FX 33)).heap.size := by simp
    have LF := Lib.hid fun (w' : World) (hb : Below (w.alloc (.cells FX 33)).heap.size (w.alloc (.cells FX 33)) w') => fx_load (R0.out.below hb hlt) HFL.out
    clear hlt
    go_wp2_with fail
    refine wp_region_text [Is (.agg FX), Is (.string k), Is (.string Z), Is (.agg FX), Is (.string k), Is (.string I0), Is (.string t), Is (.string (I0 ++ t)), Is (.string S), Is (.string (Z ++ S)), Is (.string D), Is (.string D)] (by kernel_rfl) (by kernel_rfl) rfl ⟨stable_is _, stable_is _, stable_is _, stable_is _, stable_is _, stable_is _, stable_is _, stable_is _, stable_is _, stable_is _, stable_is _, stable_is _, trivial⟩ ⟨?_, ?_, ?_, ?_, ?_, ?_, ?_, ?_, ?_, ?_, ?_, ?_, trivial⟩ ?_
    · intro a w C
      exact part_on (wanted_free rfl _) (op_value (loadfx_run _ _ _ _ _ _ rfl (C.was 3 (by kernel_rfl)) (LF.out w C.below)) rfl)
    · intro a w C
      exact part_on (wanted_free rfl _) (op_move (.inl rfl) (C.was 1 (by kernel_rfl)))
    · intro a w C
      exact part_on (wanted_free rfl _) (op_call2 rfl (reg_enters Tryd.func52 (by kernel_rfl) (by kernel_rfl)) (C.on (j := 1) (by kernel_rfl) rfl rfl) rfl ((CM.out w).1))
    · intro a w C
      exact part_on (wanted_free rfl _) (op_value (loadfx_run _ _ _ _ _ _ rfl (C.was 3 (by kernel_rfl)) (LF.out w C.below)) rfl)
    · intro a w C
      exact part_on (wanted_free rfl _) (op_move (.inl rfl) (C.was 1 (by kernel_rfl)))
    · intro a w C
      exact part_on (wanted_free rfl _) (op_call2 rfl (reg_enters Tryd.func52 (by kernel_rfl) (by kernel_rfl)) (C.on (j := 4) (by kernel_rfl) rfl rfl) rfl ((CM.out w).2))
    · intro a w C
      exact part_on (wanted_free rfl _) (op_move (.inl rfl) (C.was 2 (by kernel_rfl)))
    · intro a w C
      exact part_on (wanted_free rfl _) (op_bin rfl (C.on (j := 5) (by kernel_rfl) rfl rfl) (C.on (j := 6) (by kernel_rfl) rfl rfl) rfl (HA1.out w) rfl)
    · intro a w C
      exact part_on (wanted_free rfl _) (op_call2 rfl (reg_enters Tryd.func51 (by kernel_rfl) (by kernel_rfl)) (C.on (j := 3) (by kernel_rfl) rfl rfl) (C.on (j := 7) (by kernel_rfl) rfl rfl) ((CS.out w).1))
    · intro a w C
      exact part_on (wanted_free rfl _) (op_bin rfl (C.on (j := 2) (by kernel_rfl) rfl rfl) (C.on (j := 8) (by kernel_rfl) rfl rfl) rfl (HA2.out w) rfl)
    · intro a w C
      exact part_on (wanted_free rfl _) (op_call2 rfl (reg_enters Tryd.func51 (by kernel_rfl) (by kernel_rfl)) (C.on (j := 0) (by kernel_rfl) rfl rfl) (C.on (j := 9) (by kernel_rfl) rfl rfl) ((CS.out w).2))
    · intro a w C
      exact part_on (wanted_free rfl _) (op_move (.inr rfl) (C.on (j := 10) (by kernel_rfl) rfl rfl))
    rintro wF hbF _ rfl _ rfl _ rfl _ rfl _ rfl _ rfl _ rfl _ rfl _ rfl _ rfl _ rfl _ rfl
    simp only [Fin, setAt, Exit.then, List.setIfInBounds_toArray, List.set_cons_succ, List.set_cons_zero]

    go_wp2
    go_ret
    exact ⟨rfl, below_step B0.out hbF⟩
end Go.Proofs.YtebocfbnamcnoaaDoor
