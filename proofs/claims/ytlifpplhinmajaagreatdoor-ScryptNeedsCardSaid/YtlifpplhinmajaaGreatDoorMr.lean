/- The document's masked and Tag by their contracts. Conditions: the key is of at most 300 bytes, the text of at most 1,000. The document's Chain by its contract. Conditions: the key is of at most 1,000 bytes, what came and the text together too. The law MacChains, for every key, two texts and an int. Conditions: each text is no longer than what may come in; the package's table lies at its place. -/
import Derived.Test.YtlifpplhinmajaaGreatDoorMx
import Derived.Test.YtlifpplhinmajaaGreatDoorSu
import Derived.Deep.QuietTactic
import Derived.BigQuiet
namespace Go.Proofs.YtlifpplhinmajaaGreatDoor
set_option maxRecDepth 50000
open Go.RowKit Sha

theorem cs_take_snoc (l : List UInt8) (k : Nat) (h : k < l.length) : cs (l.take (k + 1)) = cs (l.take k) ++ [.int .u8 (l[k].toNat : Int)] := by
  rw [List.take_succ_eq_append_getElem h, cs_append]; rfl
theorem u8_xor_u (x m : UInt8) : bits .xor .u8 (x.toNat : Int) (m.toNat : Int) = ((x ^^^ m).toNat : Int) := by
  rw [u8_xor_of x.toNat m x.toNat_lt, UInt8.toNat_xor]
theorem tl_at (s : ByteArray) (k : Nat) (h : k < s.size) : (tl s)[k]'(by rw [tl_length]; exact h) = s[k] := rfl

set_option maxHeartbeats 1600000 in
theorem rmask_any (s : ByteArray) (hs : s.size ≤ 64) (m : UInt8) (w : World) : Calls Tryz.prog 115 #[.string s, .int .u8 (m.toNat : Int)] w fun e w' => e = .returned (.string (tx (mskL m (tl s ++ List.replicate (64 - s.size) 0)))) ∧ Below w.heap.size w w' := by
  obtain ⟨i0, hi, hz0, hz1, hz2⟩ := info_parts Tryz.info5
  obtain ⟨Y, hY⟩ : ∃ Y, Y = mskL m (tl s ++ List.replicate (64 - s.size) 0) := ⟨_, rfl⟩
  have hYl : Y.length = 64 := by rw [hY, mskL_length, List.length_append, List.length_replicate, tl_length]; omega
  have hY1 : ∀ k, (h : k < s.size) → Y[k]'(by omega) = s[k] ^^^ m := fun k h => by
    subst hY
    simp only [mskL, List.getElem_map]
    rw [List.getElem_append_left (by rw [tl_length]; exact h), tl_at s k h]
  have hY2 : ∀ k, (h : ¬ k < s.size) → (h2 : k < 64) → Y[k]'(by omega) = 0 ^^^ m := fun k h h2 => by
    subst hY
    simp only [mskL, List.getElem_map]
    rw [List.getElem_append_right (by rw [tl_length]; omega), List.getElem_replicate]
  have HY1 := Lib.hid hY1
  have HY2 := Lib.hid hY2
  have HYL := Lib.hid hYl
  rw [← hY]
  clear hY hY1 hY2
  go_enter Tryz.func115, Tryz.ntmps115
  go_wp2
  go_loopw [5, 6] (fun v i wr => ∃ k : Nat, k ≤ 64 ∧ i = .int .i64 (k : Int) ∧ wr.ownsRow w.heap.size 5 1 v k (cs (Y.take k)) ∧ Below w.heap.size w wr) (fun _ i _ => 64 - (intOf i).toNat)
  case atStart => exact ⟨0, Nat.zero_le _, rfl, by simpa [cs] using World.ownsRow_nil _ _ _ _, Below.refl _ _⟩
  case round =>
    obtain ⟨k, hk, rfl, hown, hb⟩ := hrel
    by_cases hlt : k < 64
    · have hsz := hb.size
      have hdt : decide ((k : Int) < 64) = true := by simp; omega
      have hYk : k < Y.length := by rw [HYL.out]; exact hlt
      have HS := Lib.hid (cs_take_snoc Y k hYk)
      have ik0 : (0 : Int) ≤ (k : Int) := by omega
      by_cases hks : k < s.size
      · have i1 : (k : Int) < (s.size : Int) := by omega
        have hd2 : decide ((k : Int) < (s.size : Int)) = true := by simp; omega
        have hx := u8_xor_u s[k] m
        rw [← HY1.out k hks] at hx
        generalize Y[k] = y at *
        clear hYk
        go_wp2_with (at_builtin; refine wpList_append_own _ rfl (.tmp 19) (.tmp 23) 68 rfl w.heap.size 5 i0 (.int .u8 0) 1 1 Tryz.underlying68 hi hz0 hz1 hz2 rfl (by decide) _ _ _ rfl (hown.alloc _) ⟨wr.heap.size, 0, none⟩ 1 1 [.int .u8 (y.toNat : Int)] rfl rfl ?c1 ?c2 ?c3 ?c4 ?c5 ?_)
        case c1 => exact one_new _ _ _
        case c2 => exact one_cell _ rfl
        case c3 => unfold maxLen; omega
        case c4 => omega
        case c5 => simp; omega
        intro v' w2 hown2 hg2 _
        have R := rel_step hb hsz hown hown2 hg2
        clear hown2 hg2 hown hb
        go_wp2
        go_roundw
        case rel => exact ⟨k + 1, by omega, by go_num, by rw [HS.out]; exact R.1, R.2⟩
        case measure => simp [intOf]; omega
      · have hd2 : decide ((k : Int) < (s.size : Int)) = false := by simp; omega
        have hx := u8_xor_u 0 m
        rw [← HY2.out k hks hlt] at hx
        have e0 : ((0 : UInt8).toNat : Int) = 0 := rfl
        rw [e0] at hx
        generalize Y[k] = y at *
        clear hYk
        go_wp2_with (at_builtin; refine wpList_append_own _ rfl (.tmp 19) (.tmp 23) 68 rfl w.heap.size 5 i0 (.int .u8 0) 1 1 Tryz.underlying68 hi hz0 hz1 hz2 rfl (by decide) _ _ _ rfl (hown.alloc _) ⟨wr.heap.size, 0, none⟩ 1 1 [.int .u8 (y.toNat : Int)] rfl rfl ?c1 ?c2 ?c3 ?c4 ?c5 ?_)
        case c1 => exact one_new _ _ _
        case c2 => exact one_cell _ rfl
        case c3 => unfold maxLen; omega
        case c4 => omega
        case c5 => simp; omega
        intro v' w2 hown2 hg2 _
        have R := rel_step hb hsz hown hown2 hg2
        clear hown2 hg2 hown hb
        go_wp2
        go_roundw
        case rel => exact ⟨k + 1, by omega, by go_num, by rw [HS.out]; exact R.1, R.2⟩
        case measure => simp [intOf]; omega
    · obtain rfl : k = 64 := by omega
      have e1 : Y.take 64 = Y := by rw [List.take_of_length_le (by rw [HYL.out]; decide)]
      rw [e1] at hown
      have hcv := conv_text wr hown
      have HB := Lib.hid hb
      clear hown hb e1
      go_wp2
      go_ret
      exact ⟨rfl, HB.out⟩

theorem loadfx_run (w : World) (b : Nat) (FX : Array Value) (ev : Operand → Value) (x : Operand) (o : Oper) (hop : o.op = .load 40 x) (hx : ev x = .pointer (some ⟨b, 0, none⟩)) (hc : (loadVar 40 ⟨b, 0, none⟩).run Tryz.prog w = .ok (.agg FX) w) : (execOp ev o).run Tryz.prog w = .ok (.value (.agg FX)) w := by
  simp [execOp, hop, hx, Instr.loadAt, Instr.sureAddr, hc]
theorem fx_load {w : World} {FX : Array Value} {b : Nat} (h : RowAt w b 40 FX) (hf : FX.size = 72) : (loadVar 40 ⟨b, 0, none⟩).run Tryz.prog w = .ok (.agg FX) w :=
  run_loadVar_row (P := Tryz.prog) _ _ 40 40 FX (0, 0) _ h Tryz.underlying40 rfl (by rw [hf]; exact size72)

theorem rtag_facts (FX : Array Value) (hFX : FX = wd (kk ++ hh)) (K : List UInt8) (k : ByteArray) (hk : k.size ≤ 64) (hK : keyL K = tl k ++ List.replicate (64 - k.size) 0) (t : ByteArray) (ht : t.size ≤ 100000) :
    ∃ Z I0 S D : ByteArray, D = tx (tagL K (tl t)) ∧
      (∀ W : World, (Calls Tryz.prog 115 #[.string k, .int .u8 92] W fun e w' => ∃ x, e = .returned x ∧ Is (.string Z) x w' ∧ Below W.heap.size W w') ∧ Calls Tryz.prog 115 #[.string k, .int .u8 54] W fun e w' => ∃ x, e = .returned x ∧ Is (.string I0) x w' ∧ Below W.heap.size W w') ∧
      (∀ W : World, (binOp .add 9 (.string I0) (.string t)).run Tryz.prog W = .ok (.string (I0 ++ t)) W) ∧
      (∀ W : World, (binOp .add 9 (.string Z) (.string S)).run Tryz.prog W = .ok (.string (Z ++ S)) W) ∧
      (∀ W : World, (Calls Tryz.prog 114 #[.agg FX, .string (I0 ++ t)] W fun e w' => ∃ x, e = .returned x ∧ Is (.string S) x w' ∧ Below W.heap.size W w') ∧ Calls Tryz.prog 114 #[.agg FX, .string (Z ++ S)] W fun e w' => ∃ x, e = .returned x ∧ Is (.string D) x w' ∧ Below W.heap.size W w') := by
  subst hFX
  have z1 : (tx (outK K)).size = 64 := by rw [tx_size, outK_length]
  have z2 : (tx (inK K)).size = 64 := by rw [tx_size, inK_length]
  have z3 : (tx (shaL (inK K ++ tl t))).size = 32 := by rw [tx_size, shaL_length]
  have e1 : tx (inK K) ++ t = tx (inK K ++ tl t) := by rw [tx_append, tx_tl]
  refine ⟨tx (outK K), tx (inK K), tx (shaL (inK K ++ tl t)), tx (tagL K (tl t)), rfl, fun W => ⟨?_, ?_⟩, fun W => ?_, fun W => ?_, fun W => ⟨?_, ?_⟩⟩
  · refine (rmask_any k hk 92 W).mono ?_
    rintro e w' ⟨rfl, hb⟩
    exact ⟨_, rfl, by rw [← hK]; rfl, hb⟩
  · refine (rmask_any k hk 54 W).mono ?_
    rintro e w' ⟨rfl, hb⟩
    exact ⟨_, rfl, by rw [← hK]; rfl, hb⟩
  · simp [go_sem]; omega
  · simp [go_sem]; omega
  · rw [e1]
    refine (rsum_any _ (by rw [tx_size, List.length_append, inK_length, tl_length]; omega) W).mono ?_
    rintro e w' ⟨rfl, hb⟩
    exact ⟨_, rfl, by rw [tl_tx]; rfl, hb⟩
  · rw [← tx_append]
    refine (rsum_any _ (by rw [tx_size, List.length_append, outK_length, shaL_length]; omega) W).mono ?_
    rintro e w' ⟨rfl, hb⟩
    exact ⟨_, rfl, by rw [tl_tx]; rfl, hb⟩

set_option maxHeartbeats 1600000 in
theorem rtag_any (k t : ByteArray) (hk : k.size ≤ 1000) (ht : t.size ≤ 100000) (w : World) : Calls Tryz.prog 99 #[.agg (wd (kk ++ hh)), .string k, .string t] w fun e w' => e = .returned (.string (tx (tagL (tl k) (tl t)))) ∧ Below w.heap.size w w' := by
  have hfl : (wd (kk ++ hh)).size = 72 := by rw [wd_size]; rfl
  obtain ⟨FX, hFX⟩ : ∃ FX, FX = wd (kk ++ hh) := ⟨_, rfl⟩
  by_cases h64 : 64 < k.size
  · have C := rsum_any k (by omega)
    obtain ⟨k2, hk2⟩ : ∃ k2, k2 = tx (shaL (tl k)) := ⟨_, rfl⟩
    have hs2 : k2.size = 32 := by rw [hk2, tx_size, shaL_length]
    have hK : keyL (tl k) = tl k2 ++ List.replicate (64 - k2.size) 0 := by
      rw [hs2, hk2, tl_tx]
      unfold keyL cutK
      rw [tl_length, if_pos h64, shaL_length]
    obtain ⟨Z, I0, S, D, hD, CM0, HA10, HA20, CS0⟩ := rtag_facts FX hFX (tl k) k2 (by omega) hK t ht
    have CM := Lib.hid CM0
    have HA1 := Lib.hid HA10
    have HA2 := Lib.hid HA20
    have CS := Lib.hid CS0
    rw [← hk2, ← hFX] at C
    rw [← hD, ← hFX]
    rw [← hFX] at hfl
    have CC := Lib.hid C
    have HFL := Lib.hid hfl
    clear C CM0 HA10 HA20 CS0 hD hK hk2 hs2 hfl hFX
    go_enter Tryz.func99, Tryz.ntmps99
    have R0 := Lib.hid (RowAt.new w 40 FX)
    have B0 : Hid (Below w.heap.size w (w.alloc (.cells FX 40))) := Lib.hid ((Below.refl _ w).alloc (Nat.le_refl _) _)
    have hlt : w.heap.size < (w.alloc (.cells FX 40)).heap.size := by simp
    go_wp2_with (first
      | refine wpList_load_of rfl 40 (.tmp 3) rfl ⟨w.heap.size, 0, none⟩ _ rfl (fx_load R0.out HFL.out) ?_)
    refine (CC.out _).mono ?_
    rintro e w1 ⟨rfl, b1⟩
    have LF := Lib.hid fun (w' : World) (hb : Below w1.heap.size w1 w') => fx_load (((R0.out.below b1 hlt).below hb (Nat.lt_of_lt_of_le hlt b1.size))) HFL.out
    have B1 := Lib.hid (below_step B0.out b1)
    clear b1 hlt
    go_wp2_with fail
    refine wp_region_text [Is (.agg FX), Is (.string k2), Is (.string Z), Is (.agg FX), Is (.string k2), Is (.string I0), Is (.string t), Is (.string (I0 ++ t)), Is (.string S), Is (.string (Z ++ S)), Is (.string D), Is (.string D)] (by kernel_rfl) (by kernel_rfl) rfl ⟨stable_is _, stable_is _, stable_is _, stable_is _, stable_is _, stable_is _, stable_is _, stable_is _, stable_is _, stable_is _, stable_is _, stable_is _, trivial⟩ ⟨?_, ?_, ?_, ?_, ?_, ?_, ?_, ?_, ?_, ?_, ?_, ?_, trivial⟩ ?_
    · intro a w C
      exact part_on (wanted_free rfl _) (op_value (loadfx_run _ _ _ _ _ _ rfl (C.was 3 (by kernel_rfl)) (LF.out w C.below)) rfl)
    · intro a w C
      exact part_on (wanted_free rfl _) (op_move (.inl rfl) (C.was 1 (by kernel_rfl)))
    · intro a w C
      exact part_on (wanted_free rfl _) (op_call2 rfl (reg_enters Tryz.func115 (by kernel_rfl) (by kernel_rfl)) (C.on (j := 1) (by kernel_rfl) rfl rfl) rfl ((CM.out w).1))
    · intro a w C
      exact part_on (wanted_free rfl _) (op_value (loadfx_run _ _ _ _ _ _ rfl (C.was 3 (by kernel_rfl)) (LF.out w C.below)) rfl)
    · intro a w C
      exact part_on (wanted_free rfl _) (op_move (.inl rfl) (C.was 1 (by kernel_rfl)))
    · intro a w C
      exact part_on (wanted_free rfl _) (op_call2 rfl (reg_enters Tryz.func115 (by kernel_rfl) (by kernel_rfl)) (C.on (j := 4) (by kernel_rfl) rfl rfl) rfl ((CM.out w).2))
    · intro a w C
      exact part_on (wanted_free rfl _) (op_move (.inl rfl) (C.was 2 (by kernel_rfl)))
    · intro a w C
      exact part_on (wanted_free rfl _) (op_bin rfl (C.on (j := 5) (by kernel_rfl) rfl rfl) (C.on (j := 6) (by kernel_rfl) rfl rfl) rfl (HA1.out w) rfl)
    · intro a w C
      exact part_on (wanted_free rfl _) (op_call2 rfl (reg_enters Tryz.func114 (by kernel_rfl) (by kernel_rfl)) (C.on (j := 3) (by kernel_rfl) rfl rfl) (C.on (j := 7) (by kernel_rfl) rfl rfl) ((CS.out w).1))
    · intro a w C
      exact part_on (wanted_free rfl _) (op_bin rfl (C.on (j := 2) (by kernel_rfl) rfl rfl) (C.on (j := 8) (by kernel_rfl) rfl rfl) rfl (HA2.out w) rfl)
    · intro a w C
      exact part_on (wanted_free rfl _) (op_call2 rfl (reg_enters Tryz.func114 (by kernel_rfl) (by kernel_rfl)) (C.on (j := 0) (by kernel_rfl) rfl rfl) (C.on (j := 9) (by kernel_rfl) rfl rfl) ((CS.out w).2))
    · intro a w C
      exact part_on (wanted_free rfl _) (op_move (.inr rfl) (C.on (j := 10) (by kernel_rfl) rfl rfl))
    rintro wF hbF _ rfl _ rfl _ rfl _ rfl _ rfl _ rfl _ rfl _ rfl _ rfl _ rfl _ rfl _ rfl
    simp only [Fin, setAt, Exit.then, List.setIfInBounds_toArray, List.set_cons_succ, List.set_cons_zero]

    go_wp2
    go_ret
    exact ⟨rfl, below_step B1.out hbF⟩
  · have hK : keyL (tl k) = tl k ++ List.replicate (64 - k.size) 0 := by
      unfold keyL cutK
      rw [tl_length, if_neg h64, tl_length]
    obtain ⟨Z, I0, S, D, hD, CM0, HA10, HA20, CS0⟩ := rtag_facts FX hFX (tl k) k (by omega) hK t ht
    have CM := Lib.hid CM0
    have HA1 := Lib.hid HA10
    have HA2 := Lib.hid HA20
    have CS := Lib.hid CS0
    rw [← hD, ← hFX]
    rw [← hFX] at hfl
    have HFL := Lib.hid hfl
    clear CM0 HA10 HA20 CS0 hD hK hfl hFX
    go_enter Tryz.func99, Tryz.ntmps99
    have R0 := Lib.hid (RowAt.new w 40 FX)
    have B0 : Hid (Below w.heap.size w (w.alloc (.cells FX 40))) := Lib.hid ((Below.refl _ w).alloc (Nat.le_refl _) _)
    have hlt : w.heap.size < (w.alloc (.cells FX 40)).heap.size := by simp
    have LF := Lib.hid fun (w' : World) (hb : Below (w.alloc (.cells FX 40)).heap.size (w.alloc (.cells FX 40)) w') => fx_load (R0.out.below hb hlt) HFL.out
    clear hlt
    go_wp2_with fail
    refine wp_region_text [Is (.agg FX), Is (.string k), Is (.string Z), Is (.agg FX), Is (.string k), Is (.string I0), Is (.string t), Is (.string (I0 ++ t)), Is (.string S), Is (.string (Z ++ S)), Is (.string D), Is (.string D)] (by kernel_rfl) (by kernel_rfl) rfl ⟨stable_is _, stable_is _, stable_is _, stable_is _, stable_is _, stable_is _, stable_is _, stable_is _, stable_is _, stable_is _, stable_is _, stable_is _, trivial⟩ ⟨?_, ?_, ?_, ?_, ?_, ?_, ?_, ?_, ?_, ?_, ?_, ?_, trivial⟩ ?_
    · intro a w C
      exact part_on (wanted_free rfl _) (op_value (loadfx_run _ _ _ _ _ _ rfl (C.was 3 (by kernel_rfl)) (LF.out w C.below)) rfl)
    · intro a w C
      exact part_on (wanted_free rfl _) (op_move (.inl rfl) (C.was 1 (by kernel_rfl)))
    · intro a w C
      exact part_on (wanted_free rfl _) (op_call2 rfl (reg_enters Tryz.func115 (by kernel_rfl) (by kernel_rfl)) (C.on (j := 1) (by kernel_rfl) rfl rfl) rfl ((CM.out w).1))
    · intro a w C
      exact part_on (wanted_free rfl _) (op_value (loadfx_run _ _ _ _ _ _ rfl (C.was 3 (by kernel_rfl)) (LF.out w C.below)) rfl)
    · intro a w C
      exact part_on (wanted_free rfl _) (op_move (.inl rfl) (C.was 1 (by kernel_rfl)))
    · intro a w C
      exact part_on (wanted_free rfl _) (op_call2 rfl (reg_enters Tryz.func115 (by kernel_rfl) (by kernel_rfl)) (C.on (j := 4) (by kernel_rfl) rfl rfl) rfl ((CM.out w).2))
    · intro a w C
      exact part_on (wanted_free rfl _) (op_move (.inl rfl) (C.was 2 (by kernel_rfl)))
    · intro a w C
      exact part_on (wanted_free rfl _) (op_bin rfl (C.on (j := 5) (by kernel_rfl) rfl rfl) (C.on (j := 6) (by kernel_rfl) rfl rfl) rfl (HA1.out w) rfl)
    · intro a w C
      exact part_on (wanted_free rfl _) (op_call2 rfl (reg_enters Tryz.func114 (by kernel_rfl) (by kernel_rfl)) (C.on (j := 3) (by kernel_rfl) rfl rfl) (C.on (j := 7) (by kernel_rfl) rfl rfl) ((CS.out w).1))
    · intro a w C
      exact part_on (wanted_free rfl _) (op_bin rfl (C.on (j := 2) (by kernel_rfl) rfl rfl) (C.on (j := 8) (by kernel_rfl) rfl rfl) rfl (HA2.out w) rfl)
    · intro a w C
      exact part_on (wanted_free rfl _) (op_call2 rfl (reg_enters Tryz.func114 (by kernel_rfl) (by kernel_rfl)) (C.on (j := 0) (by kernel_rfl) rfl rfl) (C.on (j := 9) (by kernel_rfl) rfl rfl) ((CS.out w).2))
    · intro a w C
      exact part_on (wanted_free rfl _) (op_move (.inr rfl) (C.on (j := 10) (by kernel_rfl) rfl rfl))
    rintro wF hbF _ rfl _ rfl _ rfl _ rfl _ rfl _ rfl _ rfl _ rfl _ rfl _ rfl _ rfl _ rfl
    simp only [Fin, setAt, Exit.then, List.setIfInBounds_toArray, List.set_cons_succ, List.set_cons_zero]

    go_wp2
    go_ret
    exact ⟨rfl, below_step B0.out hbF⟩
end Go.Proofs.YtlifpplhinmajaaGreatDoor

namespace Go.Proofs.YtlifpplhinmajaaGreatDoor
set_option maxRecDepth 50000
open Go.RowKit Sha

set_option maxHeartbeats 800000 in
theorem rchain_low (FX : Array Value) (k came t : ByteArray) (m : Int) (hm : m < 1) (w : World) :
    Calls Tryz.prog 79 #[.agg FX, .string k, .string came, .string t, .int .i64 m] w fun e w' => e = .returned (.tuple #[.string ⟨#[]⟩, .string ⟨#[]⟩]) ∧ Below w.heap.size w w' := by
  have hd : decide (m < 1) = true := by simp; omega
  have B0 : Hid (Below w.heap.size w (w.alloc (.cells FX 40))) := Lib.hid ((Below.refl _ w).alloc (Nat.le_refl _) _)
  go_enter Tryz.func79, Tryz.ntmps79
  go_wp2
  go_ret2
  exact ⟨rfl, B0.out⟩

theorem drewN_below {B : Nat} {w w' : World} (h : Below B w w') (q : Nat) : Below B w (w'.drewN q) := ⟨h.os, h.tape, h.output, h.size, h.block⟩

set_option maxHeartbeats 4000000 in
theorem rchain_any (k came t : ByteArray) (hk : k.size ≤ 1000) (hct : came.size + t.size ≤ 90000) (m : Nat) (h0 : m ≠ 0) (hm : m ≤ 1000000) (w : World) :
    Calls Tryz.prog 79 #[.agg (wd (kk ++ hh)), .string k, .string came, .string t, .int .i64 (m : Int)] w fun e w' => e = .returned (.tuple #[.string (tx (lastL (tl k) (tl came) (tl t) (m - 1))), .string (tx (allL (tl k) (tl came) (tl t) (m - 1)))]) ∧ Below w.heap.size w w' := by
  have hfl : (wd (kk ++ hh)).size = 72 := by rw [wd_size]; rfl
  have CT := Lib.hid fun (u : ByteArray) (hu : u.size ≤ 100000) (W : World) => rtag_any k u hk hu W
  obtain ⟨FX, hFX⟩ : ∃ FX, FX = wd (kk ++ hh) := ⟨_, rfl⟩
  rw [← hFX] at hfl CT ⊢
  have HFL := Lib.hid hfl
  obtain ⟨K, hK⟩ : ∃ K, K = tl k := ⟨_, rfl⟩
  obtain ⟨C, hC⟩ : ∃ C, C = tl came := ⟨_, rfl⟩
  obtain ⟨X, hX⟩ : ∃ X, X = tl t := ⟨_, rfl⟩
  rw [← hK] at CT ⊢
  rw [← hC, ← hX]
  have e1 : tagL K (tl (came ++ t)) = lastL K C X 0 := by
    have e : tl (came ++ t) = C ++ X := by rw [hC, hX]; unfold tl; rw [ByteArray.data_append]; simp
    rw [e]; rfl
  have e2 : ∀ q (S : ByteArray), S = tx (lastL K C X q) → tagL K (tl (came ++ S)) = lastL K C X (q + 1) := fun q S hS => by
    have e : tl (came ++ S) = C ++ lastL K C X q := by
      have h : tl (came ++ S) = tl came ++ tl S := by unfold tl; rw [ByteArray.data_append]; simp
      rw [h, hS, tl_tx, hC]
    rw [e]; rfl
  have C0 := CT.out (came ++ t) (by rw [ByteArray.size_append]; omega)
  obtain ⟨S0, hS0⟩ : ∃ S0, S0 = tx (lastL K C X 0) := ⟨_, rfl⟩
  rw [e1, ← hS0] at C0
  have hs0 : S0.size = 32 := by rw [hS0, tx_size, lastL_length]
  have HS0 := Lib.hid hS0
  have HZ0 := Lib.hid hs0
  have hs0b : S0.size ≤ 32 := by omega
  have E2 := Lib.hid e2
  have CC0 := Lib.hid C0
  have hd : decide ((m : Int) < 1) = false := by simp; omega
  have hcs : came.size ≤ 90000 := by omega
  have H0 := Lib.hid h0
  clear hfl hFX hK hC hX e1 e2 C0 hS0 hs0 h0
  go_enter Tryz.func79, Tryz.ntmps79
  have R0 := Lib.hid (RowAt.new w 40 FX)
  have B0 : Hid (Below w.heap.size w (w.alloc (.cells FX 40))) := Lib.hid ((Below.refl _ w).alloc (Nat.le_refl _) _)
  have hlt0 : w.heap.size < (w.alloc (.cells FX 40)).heap.size := by simp
  go_wp2_with (first
    | refine wpList_load_of rfl 40 (.tmp 5) rfl ⟨w.heap.size, 0, none⟩ _ rfl (fx_load R0.out HFL.out) ?_)
  refine (CC0.out _).mono ?_
  rintro e w2 ⟨rfl, b2⟩
  have LF := Lib.hid fun (w' : World) (hb : Below w2.heap.size w2 w') => fx_load (((R0.out.below b2 hlt0).below hb (Nat.lt_of_lt_of_le hlt0 b2.size))) HFL.out
  have B2 := Lib.hid (below_step B0.out b2)
  clear b2 hlt0 CC0
  obtain ⟨W, cap, hcv, hbW, hBuf, hWs⟩ := bytes_of_text w2 S0
  have HW := Lib.hid hWs
  have HBF := Lib.hid hBuf
  have HBW := Lib.hid hbW
  clear hWs hBuf hbW
  go_wp2_with fail
  go_loopw [12, 14] (fun v12 v14 wr => ∃ q i : Nat, i = q + 1 ∧ i ≤ m ∧ v14 = .int .i64 (i : Int) ∧ v12 = .string (tx (lastL K C X q)) ∧ Buf wr w2.heap.size (nats (allL K C X q)) ∧ Below w2.heap.size w2 wr ∧ w2.heap.size < wr.heap.size) (fun _ v14 _ => m - (intOf v14).toNat)
  case atStart => exact ⟨0, 1, rfl, by have := H0.out; omega, rfl, by rw [HS0.out], by have h := HBF.out; rw [nb_nats, HS0.out, tl_tx] at h; exact h, HBW.out, by have := HW.out; omega⟩
  case round =>
    obtain ⟨q, i, hi, him, rfl, rfl, hB, hb, hgs⟩ := hrel
    have HBr := Lib.hid hB
    have Hbr := Lib.hid hb
    have HI := Lib.hid hi
    clear hB hb hi
    by_cases hlt : i < m
    · have hdt : decide ((i : Int) < (m : Int)) = true := by simp; omega
      have HLT := Lib.hid hlt
      clear hlt
      obtain ⟨S, hS⟩ : ∃ S, S = tx (lastL K C X q) := ⟨_, rfl⟩
      have hs : S.size = 32 := by rw [hS, tx_size, lastL_length]
      have C1 := CT.out (came ++ S) (by rw [ByteArray.size_append]; omega)
      rw [E2.out q S hS] at C1
      obtain ⟨S2, hS2⟩ : ∃ S2, S2 = tx (lastL K C X (q + 1)) := ⟨_, rfl⟩
      rw [← hS2] at C1
      have hs2 : S2.size = S0.size := by rw [HZ0.out, hS2, tx_size, lastL_length]
      rw [← hS]
      have hsl : S.size ≤ 32 := by omega
      have HS2 := Lib.hid hS2
      have CC1 := Lib.hid C1
      have Hs2 := Lib.hid hs2
      have L1 := Lib.hid (LF.out _ Hbr.out)
      clear hS hs C1 hS2 hs2
      go_wp2_with (first
        | refine wpList_load_of rfl 40 (.tmp 5) rfl ⟨w.heap.size, 0, none⟩ _ rfl L1.out ?_)
      refine (CC1.out _).mono ?_
      rintro e w3 ⟨rfl, b3⟩
      have HB3 : Hid (Buf w3 w2.heap.size (nats (allL K C X q))) := Lib.hid ⟨fun j hj => (b3.cell (p := ⟨w2.heap.size, j, none⟩) hgs).trans (HBr.out.cell j hj), fun j hj => by
        have h := HBr.out.free j hj
        unfold World.frozen? at *
        rw [b3.block w2.heap.size hgs]; exact h⟩
      have Hb3 := Lib.hid (Hbr.out.trans (b3.mono (Nat.le_of_lt hgs)))
      have hgs3 : w2.heap.size < w3.heap.size := Nat.lt_of_lt_of_le hgs b3.size
      clear b3 CC1 L1 HBr Hbr hgs
      have hL : (nats (allL K C X q)).length = S0.size := by rw [nats_length, allL_length, HZ0.out]
      have hLt := nats_lt (allL K C X q)
      have hn : (nb S2).length = (nats (allL K C X q)).length := by rw [nb_length, Hs2.out, hL]
      have hend : xorL (nats (allL K C X q)) (nb S2) = nats (allL K C X (q + 1)) := by rw [nb_nats, HS2.out, tl_tx, xorL_nats]; rfl
      have HEND := Lib.hid hend
      generalize nats (allL K C X q) = L at *
      have HL := Lib.hid hL
      have HLt := Lib.hid hLt
      have Hn := Lib.hid hn
      clear hL hLt hn hend
      go_wp2_with fail
      go_loopw [15] (fun v15 wr => ∃ j : Nat, j ≤ S0.size ∧ v15 = .int .i64 (j : Int) ∧ Buf wr w2.heap.size (partX L (nb S2) j) ∧ Below w2.heap.size w2 wr ∧ w2.heap.size < wr.heap.size) (fun v15 _ => S0.size - (intOf v15).toNat)
      case atStart => exact ⟨0, Nat.zero_le _, rfl, by rw [partX_zero]; exact HB3.out, Hb3.out, hgs3⟩
      case round =>
        obtain ⟨j, hj, rfl, hB, hb, hgs⟩ := hrel
        by_cases hlj : j < S0.size
        · have hjL : j < L.length := by rw [HL.out]; exact hlj
          have hjt : j < S2.size := by rw [Hs2.out]; exact hlj
          have hjn : j < (nb S2).length := by rw [nb_length]; exact hjt
          have hpl : j < (partX L (nb S2) j).length := by rw [partX_length L (nb S2) j Hn.out (by omega)]; exact hjL
          have hc := hB.cell j hpl
          have hf := hB.free j hpl
          rw [partX_at L (nb S2) j Hn.out hjL] at hc
          have hset := partX_set L (nb S2) j Hn.out hjL
          have hxl := HLt.out L[j] (List.getElem_mem hjL)
          rw [nb_at S2 j hjt] at hset
          generalize L[j] = x at *
          have hor := u8_xor_of x S2[j] hxl
          have Hor := Lib.hid hor
          have Hset := Lib.hid hset
          have ij0 : (0 : Int) ≤ (j : Int) := by omega
          have ij1 : (j : Int) < (S0.size : Int) := by omega
          have ij2 : (j : Int) < (S2.size : Int) := by omega
          clear hor hset hpl
          go_wp2_with fail
          refine wp_region_still_tail 11 (by kernel_rfl) (by kernel_rfl) ?_
          simp only [List.take_succ_cons, List.take_zero, List.drop_succ_cons, List.drop_zero]
          repeat still_step
          refine wpStill_nil ?_
          change wpList _ _ _ _ _ wr.drew
          go_wp2_with fail
          go_roundw
          case rel =>
            refine ⟨j + 1, by omega, by go_num, ?_, (hb.setCell (Nat.le_refl _) _).drew, by simp [World.setCell, World.drew]; exact hgs⟩
            rw [Hor.out, ← Hset.out]
            exact (hB.set j _ (by rw [partX_length L (nb S2) j Hn.out (by omega)]; exact hjL)).drew
          case measure => simp [intOf]; omega
        · obtain rfl : j = S0.size := by omega
          have hpa := partX_all L (nb S2) Hn.out
          rw [HL.out] at hpa
          rw [hpa, HEND.out] at hB
          clear hpa
          have HBe := Lib.hid hB
          have Hbe := Lib.hid hb
          clear hB hb
          go_wp2_with fail
          go_roundw
          case rel => exact ⟨q + 1, i + 1, by rw [HI.out], HLT.out, by go_num, by rw [HS2.out], HBe.out, Hbe.out, hgs⟩
          case measure => have := HLT.out; simp [intOf]; omega
    · obtain rfl : i = m := by omega
      have hdt : decide ((i : Int) < (i : Int)) = false := by simp
      have hqm : q = i - 1 := by have := HI.out; omega
      have hcs2 : ∀ n, (convert 68 9 (.slice (some ⟨w2.heap.size, 0, none⟩) S0.size cap)).run Tryz.prog (wr.drewN n) = .ok (.string (tx (allL K C X q))) (wr.drewN n) := fun n => by
        have h := conv_str (wr.drewN n) (c := cap) (nats (allL K C X q)) ((HBr.out.reads hgs).drewN n)
        rw [nats_length, allL_length, strOf_nats] at h
        rw [HZ0.out]
        exact h
      have HQ := Lib.hid hqm
      have HE := Lib.hid fun n => drewN_below (below_step B2.out (Below.mono (w := w2) (w' := wr) Hbr.out (Nat.le_refl _))) n
      clear hqm hlt
      go_wp2_with fail
      go_quiet (fail)
      go_wp2_with fail
      go_ret2
      exact ⟨by rw [← HQ.out]; rfl, HE.out _⟩
end Go.Proofs.YtlifpplhinmajaaGreatDoor

namespace Go.Proofs.YtlifpplhinmajaaGreatDoor
set_option maxRecDepth 50000
open Go.RowKit Sha

/-- what both sides come to -/
def chainV (K C X : List UInt8) (x : Int) : Value := if x < 1 then .tuple #[.string ⟨#[]⟩, .string ⟨#[]⟩] else .tuple #[.string (tx (lastL K C X (x.toNat - 1))), .string (tx (allL K C X (x.toNat - 1)))]
theorem chainV_two (K C X : List UInt8) (x : Int) : ∃ a b, chainV K C X x = .tuple #[.string a, .string b] := by
  unfold chainV
  split <;> exact ⟨_, _, rfl⟩
theorem chain_all (w : World) (M : Nat) (K C : List UInt8) (h : MacIs w M K C) (hk : KAt w) (x : Int) (hn : x ≤ 1000000) (A : Option Addr) (c : Nat) (ps : List ByteArray) (hr : Reads w w.heap.size A (stv ps)) (hlen : C.length + (jn ps).length ≤ 10000) (hps : ps.length ≤ 1000000) :
    Calls Tryz.prog 64 #[.pointer (some ⟨M, 0, none⟩), .int .i64 x, .slice A ps.length c] w fun e w' => e = .returned (chainV K C (jn ps) x) ∧ Below w.heap.size w w' := by
  unfold chainV
  split
  · rename_i h1
    refine (chain_low w M x h1 A ps.length c).mono ?_
    rintro e w' ⟨rfl, rfl⟩
    exact ⟨rfl, Below.refl _ _⟩
  · obtain ⟨n, rfl⟩ : ∃ n : Nat, x = (n : Int) := ⟨x.toNat, by omega⟩
    rw [Int.toNat_natCast]
    exact chain_any w M K C h hk n (by omega) (by omega) A c ps hr hlen hps
theorem rchain_all (k came t : ByteArray) (hk : k.size ≤ 1000) (hct : came.size + t.size ≤ 90000) (x : Int) (hm : x ≤ 1000000) (w : World) :
    Calls Tryz.prog 79 #[.agg (wd (kk ++ hh)), .string k, .string came, .string t, .int .i64 x] w fun e w' => e = .returned (chainV (tl k) (tl came) (tl t) x) ∧ Below w.heap.size w w' := by
  unfold chainV
  split
  · rename_i h1
    exact rchain_low _ k came t x h1 w
  · obtain ⟨n, rfl⟩ : ∃ n : Nat, x = (n : Int) := ⟨x.toNat, by omega⟩
    rw [Int.toNat_natCast]
    exact rchain_any k came t hk hct n (by omega) (by omega) w

end Go.Proofs.YtlifpplhinmajaaGreatDoor
