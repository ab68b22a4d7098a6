/- The document's Decode, Dash and Undash by their contracts. Condition: the text is of at most 1,000 bytes. -/
import Derived.Test.YticmienihfokjaaHxRef
import Derived.Test.YticmienihfokjaaHxSeq
import Derived.Test.YticmienihfokjaaLaid
import Derived.Lib.BufferRead
namespace Go.Proofs.Yticmienihfokjaa
set_option maxRecDepth 50000
open Go.RowKit Hx

theorem text_is {s : ByteArray} {l : List UInt8} (h : tl s = l) : s = tx l := tl_inj (by rw [h, tl_tx])
theorem text_some (s : ByteArray) (h : tl s ≠ []) : s.toList ≠ [] ∧ s.toList.isEmpty = false ∧ (s.toList == []) = false := by
  have e : s.toList = tl s := ByteArray.toList_eq s
  refine ⟨by rw [e]; exact h, ?_, ?_⟩
  · rw [e]; cases hc : tl s with
    | nil => exact absurd hc h
    | cons _ _ => rfl
  · rw [e]; cases hc : tl s with
    | nil => exact absurd hc h
    | cons _ _ => rfl
theorem text_none : (tx []).toList.isEmpty = true ∧ ((tx []).toList == []) = true := by rw [ByteArray.toList_eq]; exact ⟨rfl, rfl⟩
theorem text_dash : ((tx [45]).toList == [45]) = true := by rw [ByteArray.toList_eq]; rfl
theorem text_not {s : ByteArray} {l : List UInt8} (h : tl s ≠ l) : (s.toList == l) = false := by
  rw [beq_eq_false_iff_ne, ByteArray.toList_eq]; exact h
theorem all_next (l : List UInt8) (k : Nat) (h : k < l.length) : (l.take (k + 1)).all isd = ((l.take k).all isd && isd l[k]) := by
  rw [List.take_succ_eq_append_getElem h, List.all_append]; simp
theorem all_no (l : List UInt8) (k : Nat) (h : k < l.length) (h2 : isd l[k] = false) : l.all isd = false :=
  List.all_eq_false.2 ⟨l[k], List.getElem_mem h, by rw [h2]; decide⟩
theorem dec_two (l : List UInt8) (j : Nat) (h : 2 * j + 1 < l.length) : dec (l.take (2 * (j + 1))) = dec (l.take (2 * j)) ++ [one (l[2 * j]'(by omega)) l[2 * j + 1]] := by
  rw [show 2 * (j + 1) = 2 * j + 1 + 1 by omega, List.take_succ_eq_append_getElem h, List.take_succ_eq_append_getElem (show 2 * j < l.length by omega)]
  exact dec_even _ _ _ (by rw [List.length_take]; omega)

set_option maxHeartbeats 3200000 in
theorem rdecode_any (s : ByteArray) (hs : s.size ≤ 1000) (w : World) :
    Calls Try.prog 8 #[.string s] w fun e w' => e = .returned (.tuple #[.string (tx (decL s)), .int .i64 (decE s)]) ∧ Below w.heap.size w w' := by
  obtain ⟨i0, hi, hz0, hz1, hz2⟩ := info_parts fd_info_u8
  go_enter Try.func8, Try.ntmps8
  go_wp2
  go_loopw [5] (fun v5 wr => ∃ k : Nat, k ≤ s.size ∧ v5 = .int .i64 (k : Int) ∧ Hid (((tl s).take k).all isd = true) ∧ wr = w) (fun v5 _ => s.size - (intOf v5).toNat)
  case atStart => exact ⟨0, Nat.zero_le _, rfl, Lib.hid rfl, rfl⟩
  case round =>
    obtain ⟨k, hk, rfl, HK, rfl⟩ := hrel
    by_cases hlt : k < s.size
    · have hkl : k < (tl s).length := by rw [tl_length]; exact hlt
      have hat : (tl s)[k] = (s[k]'hlt) := rfl
      have CV := Lib.hid (rvalue_any (s[k]'hlt) wr)
      by_cases hd : isd (s[k]'hlt) = true
      · have HN : Hid (((tl s).take (k + 1)).all isd = true) := Lib.hid (by rw [all_next _ k hkl, HK.out, hat, hd]; rfl)
        have hrv : rv (s[k]'hlt) = ((dn (s[k]'hlt) : Nat) : Int) := by unfold rv; rw [if_pos hd]
        rw [hrv] at CV
        have hb := dn_lt (s[k]'hlt)
        generalize dn (s[k]'hlt) = x at *
        have hneg : decide ((x : Int) < 0) = false := by simp
        clear hat hrv hd hkl
        go_wp2_with fail
        refine CV.out.mono ?_
        rintro e w1 ⟨rfl, rfl⟩
        go_wp2
        go_roundw
        case rel => exact ⟨k + 1, by omega, by go_num, HN, by trivial⟩
        case measure => simp [intOf]; omega
      · have hd2 : isd (s[k]'hlt) = false := by simpa using hd
        have hrv : rv (s[k]'hlt) = -1 := by unfold rv; rw [if_neg hd]
        rw [hrv] at CV
        have hbad := decE_bad (all_no (tl s) k hkl (by rw [hat]; exact hd2))
        have HB : Hid (decE s = 8 ∧ tx (decL s) = ⟨#[]⟩) := Lib.hid ⟨hbad, by rw [decL_bad (by rw [hbad]; decide)]; rfl⟩
        clear hat hrv hd hkl hd2 hbad
        go_wp2_with fail
        refine CV.out.mono ?_
        rintro e w1 ⟨rfl, rfl⟩
        go_wp2
        go_ret2
        exact ⟨by rw [HB.out.1, HB.out.2]; rfl, Below.refl _ _⟩
    · obtain rfl : k = s.size := by omega
      have hall := HK.out
      rw [List.take_of_length_le (by rw [tl_length]; exact Nat.le_refl _)] at hall
      have HALL := Lib.hid hall
      by_cases hev : s.size % 2 = 0
      · have hE := decE_good hall hev
        have HE : Hid (decE s = 0 ∧ decL s = dec (tl s)) := Lib.hid ⟨hE, decL_good hE⟩
        obtain ⟨m, hm⟩ : ∃ m, s.size = 2 * m := ⟨s.size / 2, by omega⟩
        have htm : (s.size : Int).tmod 2 = 0 := by rw [Int.tmod_eq_emod_of_nonneg (by omega)]; omega
        have HM := Lib.hid hm
        clear hall hev HK hE hm hlt
        go_wp2
        obtain ⟨wo, rfl⟩ : ∃ wo : World, wo = wr := ⟨_, rfl⟩
        go_loopw [4, 6] (fun v4 v6 wq => ∃ i j : Nat, Hid (i = 2 * j ∧ j ≤ m) ∧ v6 = .int .i64 (i : Int) ∧ wq.ownsRow wo.heap.size 5 1 v4 j (cs (dec ((tl s).take i))) ∧ Below wo.heap.size wo wq) (fun _ v6 _ => s.size - (intOf v6).toNat)
        case atStart => exact ⟨0, 0, Lib.hid ⟨rfl, Nat.zero_le _⟩, rfl, by simpa [cs, dec] using World.ownsRow_nil _ _ _ _, Below.refl _ _⟩
        case round =>
          obtain ⟨i, j, HI, rfl, hown, hb⟩ := hrel
          have hm := HM.out
          by_cases hlj : i + 1 < s.size
          · have hij := HI.out.1
            have h1 : i + 1 < (tl s).length := by rw [tl_length]; exact hlj
            have hi1 : i < s.size := by omega
            have hdt : dec ((tl s).take (i + 2)) = dec ((tl s).take i) ++ [one (s[i]'hi1) (s[i + 1]'hlj)] := by
              subst hij; exact dec_two (tl s) j h1
            have hd1 : isd (s[i]'hi1) = true := List.all_eq_true.1 HALL.out _ (List.getElem_mem (l := tl s) (n := i) (by omega))
            have hd2 : isd (s[i + 1]'hlj) = true := List.all_eq_true.1 HALL.out _ (List.getElem_mem (l := tl s) (n := i + 1) h1)
            have CA := Lib.hid (rvalue_any (s[i]'hi1))
            have CB := Lib.hid (rvalue_any (s[i + 1]'hlj))
            have r1 : rv (s[i]'hi1) = ((dn (s[i]'hi1) : Nat) : Int) := by unfold rv; rw [if_pos hd1]
            have r2 : rv (s[i + 1]'hlj) = ((dn (s[i + 1]'hlj) : Nat) : Int) := by unfold rv; rw [if_pos hd2]
            rw [r1] at CA
            rw [r2] at CB
            have hn := one_nat (s[i]'hi1) (s[i + 1]'hlj)
            have b1 := dn_lt (s[i]'hi1)
            have b2 := dn_lt (s[i + 1]'hlj)
            have HS : Hid (cs (dec ((tl s).take (i + 2))) = cs (dec ((tl s).take i)) ++ [.int .u8 ((one (s[i]'hi1) (s[i + 1]'hlj)).toNat : Int)]) := Lib.hid (by rw [hdt, cs_append]; rfl)
            rw [hn] at HS
            generalize dn (s[i]'hi1) = x at *
            generalize dn (s[i + 1]'hlj) = y at *
            have e0 : IntKind.i64.wrap (16 * (x : Int)) = ((16 * x : Nat) : Int) := by rw [IntKind.wrap_i64]; omega
            have e2 : IntKind.i64.wrap (((16 * x : Nat) : Int) + (y : Int)) = ((16 * x + y : Nat) : Int) := by rw [IntKind.wrap_i64]; omega
            have e3 : IntKind.u8.wrap ((16 * x + y : Nat) : Int) = ((16 * x + y : Nat) : Int) := by rw [IntKind.wrap_u8]; omega
            generalize 16 * x + y = z at *
            generalize 16 * x = z2 at *
            have g0 : (0 : Int) ≤ (i : Int) := by omega
            have g1 : (i : Int) < (s.size : Int) := by omega
            have g2 : IntKind.i64.wrap ((i : Int) + 1) = (i : Int) + 1 := by rw [IntKind.wrap_i64]; omega
            have g3 : (0 : Int) ≤ (i : Int) + 1 := by omega
            have g4 : (i : Int) + 1 < (s.size : Int) := by omega
            have hdl : decide ((i : Int) < (s.size : Int)) = true := by simp; omega
            clear hn hdt r1 r2 hd1 hd2 hm htm b1 b2 hij
            go_wp2
            have hjb : j ≤ 1000 := by have := HI.out; omega
            obtain ⟨v', w2, hrun, hown2, hg2, _⟩ := run_append_own (P := Try.prog) (wr.drew.alloc (.cells #[.int .u8 (z : Int)] 5)) wo.heap.size 40 40 5 i0 (.int .u8 0) 1 1 Try.underlying40 hi hz0 hz1 hz2 rfl (by decide) _ j _ (own_drew hown _) ⟨wr.heap.size, 0, none⟩ 1 1 [.int .u8 (z : Int)] rfl (one_new wr.drew _ _) (one_cell _ rfl) (by unfold maxLen; omega) (by omega) (by have := hb.size; simp; omega)
            have R := rel_step (w := wo) (wr := wr.drew) hb.drew (by have := hb.size; simpa using this) (own_drew0 hown) hown2 hg2
            have HR := Lib.hid R
            clear hown2 hg2 R hown hb
            refine wp_region_seq [13, 14] [u4, .string s, .int .i64 (i : Int), .int .u8 ((s[i]'hi1).toNat : Int), .int .i64 (x : Int), .int .i64 (z2 : Int), .string s, .int .i64 (i : Int), .int .i64 ((i + 1 : Nat) : Int), .int .u8 ((s[i + 1]'hlj).toNat : Int), .int .i64 (y : Int), .int .i64 (z : Int), .int .u8 (z : Int), .slice (some ⟨wr.heap.size, 0, none⟩) 1 1, v', v'] (fun k w3 => w3 = wdec wr.drew (wr.drew.alloc (.cells #[.int .u8 (z : Int)] 5)) w2 k) (by kernel_rfl) (by kernel_rfl) rfl rfl (by
              refine ⟨?_, ?_, ?_, ?_, ?_, ?_, ?_, ?_, ?_, ?_, ?_, ?_, ?_, ?_, ?_, ?_, trivial⟩
              · exact seq_exact (by kernel_rfl) fun a w2 k C hW => op_move (.inl rfl) ⟨(C.yet 4 (by kernel_rfl)), rfl⟩
              · exact seq_exact (by kernel_rfl) fun a w2 k C hW => op_move (.inl rfl) ⟨(C.was 0 (by kernel_rfl)), rfl⟩
              · exact seq_exact (by kernel_rfl) fun a w2 k C hW => op_move (.inl rfl) ⟨(C.was 6 (by kernel_rfl)), rfl⟩
              · exact seq_exact (by kernel_rfl) fun a w2 k C hW => op_value (ixt_run rfl Try.underlying9 (C.on (j := 1) (by kernel_rfl) rfl rfl) (C.on (j := 2) (by kernel_rfl) rfl rfl) hi1) ⟨rfl, rfl⟩
              · exact seq_exact (by kernel_rfl) fun a w2 k C hW => op_call1 rfl (reg_enters Try.func23 (by kernel_rfl) (by kernel_rfl)) (C.on (j := 3) (by kernel_rfl) rfl rfl) (quiet_call (CA.out w2) rfl)
              · exact seq_exact (by kernel_rfl) fun a w2 k C hW => op_bin rfl rfl (C.on (j := 4) (by kernel_rfl) rfl rfl) rfl (by simp [go_sem, e0]) ⟨rfl, rfl⟩
              · exact seq_exact (by kernel_rfl) fun a w2 k C hW => op_move (.inl rfl) ⟨(C.was 0 (by kernel_rfl)), rfl⟩
              · exact seq_exact (by kernel_rfl) fun a w2 k C hW => op_move (.inl rfl) ⟨(C.was 6 (by kernel_rfl)), rfl⟩
              · exact seq_exact (by kernel_rfl) fun a w2 k C hW => op_bin rfl (C.on (j := 7) (by kernel_rfl) rfl rfl) rfl rfl (by simp [go_sem, g2]) ⟨rfl, rfl⟩
              · exact seq_exact (by kernel_rfl) fun a w2 k C hW => op_value (ixt_run rfl Try.underlying9 (C.on (j := 6) (by kernel_rfl) rfl rfl) (C.on (j := 8) (by kernel_rfl) rfl rfl) hlj) ⟨rfl, rfl⟩
              · exact seq_exact (by kernel_rfl) fun a w2 k C hW => op_call1 rfl (reg_enters Try.func23 (by kernel_rfl) (by kernel_rfl)) (C.on (j := 9) (by kernel_rfl) rfl rfl) (quiet_call (CB.out w2) rfl)
              · exact seq_exact (by kernel_rfl) fun a w2 k C hW => op_bin rfl (C.on (j := 5) (by kernel_rfl) rfl rfl) (C.on (j := 10) (by kernel_rfl) rfl rfl) rfl (by simp [go_sem, e2]) ⟨rfl, rfl⟩
              · exact seq_exact (by kernel_rfl) fun a w2 k C hW => op_conv rfl (C.on (j := 11) (by kernel_rfl) rfl rfl) (by simp [go_sem, e3]) ⟨rfl, rfl⟩
              · exact seq_turn 0 (by kernel_rfl) fun a w2 C hW => by
                  obtain rfl := hW
                  exact turn_value (slice_run1 _ rfl (C.on (j := 12) (by kernel_rfl) rfl rfl)) rfl
              · exact seq_turn 1 (by kernel_rfl) fun a w2 C hW => by
                  obtain rfl := hW
                  exact turn_value (append_run rfl (C.on (j := 0) (by kernel_rfl) rfl rfl) (C.on (j := 13) (by kernel_rfl) rfl rfl) hrun) rfl
              · exact seq_exact (by kernel_rfl) fun a w2 k C hW => op_move (.inr rfl) ⟨(C.on (j := 14) (by kernel_rfl) rfl rfl), rfl⟩) ?_
            intro wu hz
            obtain rfl : wu = w2 := hz
            simp only [setAll, setAt, List.setIfInBounds_toArray, List.set_cons_succ, List.set_cons_zero]
            have HIJ := Lib.hid HI.out
            clear hrun hjb e0 e2 e3 g0 g3 g4 hdl
            go_wp2
            go_roundw
            case rel => exact ⟨i + 2, j + 1, Lib.hid (by have := HIJ.out; have := HM.out; omega), by go_num, by rw [HS.out]; exact HR.out.1, HR.out.2⟩
            case measure => simp [intOf]; omega
          · have hij := HI.out
            obtain rfl : i = s.size := by omega
            obtain rfl : j = m := by omega
            have e1 : (tl s).take s.size = tl s := List.take_of_length_le (by rw [tl_length]; exact Nat.le_refl _)
            rw [e1] at hown
            have hcv := conv_text wr hown
            have HB := Lib.hid hb
            clear hown hb e1 hm hlj hij
            go_wp2
            go_ret2
            exact ⟨by rw [HE.out.1, HE.out.2]; rfl, HB.out⟩
      · have hE := decE_odd hall hev
        have HE : Hid (decE s = 9 ∧ tx (decL s) = ⟨#[]⟩) := Lib.hid ⟨hE, by rw [decL_bad (by rw [hE]; decide)]; rfl⟩
        have htm : (s.size : Int).tmod 2 = 1 := by rw [Int.tmod_eq_emod_of_nonneg (by omega)]; omega
        clear hall hev HK hE hlt
        go_wp2
        go_ret2
        exact ⟨by rw [HE.out.1, HE.out.2]; rfl, Below.refl _ _⟩

theorem rdash_any (s : ByteArray) (hs : s.size ≤ 1000) (w : World) :
    Calls Try.prog 18 #[.string s] w fun e w' => e = .returned (.string (tx (dashL (tl s)))) ∧ ∃ q, w' = w.drewN q := by
  by_cases h : tl s = []
  · obtain rfl := text_is h
    obtain ⟨h1, h2⟩ := text_none
    clear h
    go_enter Try.func18, Try.ntmps18
    go_wp2
    go_ret
    exact ⟨rfl, 0, rfl⟩
  · obtain ⟨h1, h2, h3⟩ := text_some s h
    have HD : Hid (dashL (tl s) = enc (tl s)) := Lib.hid (if_neg h)
    have C := Lib.hid (rencode_any s hs)
    clear h
    go_enter Try.func18, Try.ntmps18
    go_wp2_with fail
    refine (C.out _).mono ?_
    rintro e w1 ⟨rfl, hq⟩
    have HQ := Lib.hid hq
    clear hq
    go_wp2
    go_ret
    exact ⟨by rw [HD.out]; rfl, HQ.out⟩

theorem rundash_any (s : ByteArray) (hs : s.size ≤ 1000) (w : World) :
    Calls Try.prog 10 #[.string s] w fun e w' => e = .returned (.tuple #[.string (tx (undL s)), .int .i64 (undE s)]) ∧ Below w.heap.size w w' := by
  by_cases h : tl s = []
  · obtain rfl := text_is h
    obtain ⟨h1, h2⟩ := text_none
    clear h
    go_enter Try.func10, Try.ntmps10
    go_wp2
    go_ret2
    exact ⟨rfl, Below.refl _ _⟩
  · obtain ⟨h1, h2, h3⟩ := text_some s h
    by_cases hd : tl s = [45]
    · obtain rfl := text_is hd
      have h5 := text_dash
      clear h hd
      go_enter Try.func10, Try.ntmps10
      go_wp2
      go_ret2
      exact ⟨rfl, Below.refl _ _⟩
    · have h4 := text_not hd
      have HU : Hid (undL s = decL s ∧ undE s = decE s) := Lib.hid ⟨by unfold undL; rw [if_neg h, if_neg hd], by unfold undE; rw [if_neg h, if_neg hd]⟩
      have C := Lib.hid (rdecode_any s hs)
      clear h hd
      go_enter Try.func10, Try.ntmps10
      go_wp2_with fail
      refine (C.out _).mono ?_
      rintro e w1 ⟨rfl, hb⟩
      have HB := Lib.hid hb
      clear hb
      go_wp2
      go_ret2
      exact ⟨by rw [HU.out.1, HU.out.2]; rfl, HB.out⟩
end Go.Proofs.Yticmienihfokjaa
