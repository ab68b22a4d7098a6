/- The statement WordsWrite: for all lists a of 32-bit words and b of 64-bit words, the bytes are those of each word, one behind the other, either way round. No condition. -/
import Derived.Test.YtoknhmilhljadaaTwo
import Derived.Test.YtoknhmilhljadaaOpen
namespace Go.Proofs.Ytoknhmilhljadaa
open Go.ChangeShapes Go.WideShapes Go.ChangeAt Go.RowKit

set_option maxHeartbeats 4000000 in
set_option maxRecDepth 100000 in
theorem write_any (A B : Option Addr) (c d : Nat) (xs ys : List Nat) (w : World) (hr : Reads w w.heap.size A (u32s xs)) (hs : Reads w w.heap.size B (u64s ys)) (hx : ∀ x ∈ xs, x < 2 ^ 32) (hy : ∀ y ∈ ys, y < 2 ^ 64) (m1 : xs.length ≤ maxLen) (m2 : ys.length ≤ maxLen) :
    Calls Try.prog 3 #[.slice A xs.length c, .slice B ys.length d] w fun e w' => e = .returned (.bool true) ∧ Below w.heap.size w w' := by
  obtain ⟨i0, hi, hz0, hz1, hz2⟩ := info_parts Try.info5
  unfold maxLen at m1 m2
  have n1 : xs.length ≤ 9223372036854775807 := m1
  have n2 : ys.length ≤ 9223372036854775807 := m2
  clear m1 m2
  have Hr := Lib.hid hr
  have Hs := Lib.hid hs
  have Hx := Lib.hid hx
  have Hy := Lib.hid hy
  clear hr hs hx hy
  by_cases ha : 200 < xs.length
  · go_enter Try.func3, Try.ntmps3
    go_wp2_with (go_at_call 8; refine (awake_any _).mono ?_; rintro e w1 ⟨rfl, hb⟩)
    go_ret
    exact ⟨rfl, hb⟩
  by_cases hb2 : 200 < ys.length
  · go_enter Try.func3, Try.ntmps3
    go_wp2_with (go_at_call 8; refine (awake_any _).mono ?_; rintro e w1 ⟨rfl, hb⟩)
    go_ret
    exact ⟨rfl, hb⟩
  have l1 : xs.length ≤ 200 := by omega
  have l2 : ys.length ≤ 200 := by omega
  clear ha hb2
  go_enter Try.func3, Try.ntmps3
  go_wp2_with (go_at_call 8; refine (awake_any _).mono ?_; rintro e w1 ⟨rfl, hb1⟩)
  go_loopw [5, 6, 25] (fun u v i wr => ∃ k : Nat, k ≤ xs.length ∧ i = .int .i64 k ∧ Two w1 wr u (4 * k) (u8s ((xs.take k).flatMap (bytesOf ups 4))) v (4 * k) (u8s ((xs.take k).flatMap (bytesOf (downs 4) 4)))) (fun _ _ i _ => xs.length - (intOf i).toNat)
  case atStart => exact ⟨0, Nat.zero_le _, rfl, Two.start _⟩
  case round =>
    obtain ⟨k, hk, rfl, T⟩ := hrel
    by_cases hlt : k < xs.length
    · obtain ⟨b0, o0, rfl, _, h0⟩ := (Hr.out.below (hb1.trans (T.below.mono hb1.size))) k (by rw [u32s_length]; exact hlt)
      rw [u32_at] at h0
      have hx0 := Hx.out xs[k] (List.getElem_mem hlt)
      have e1 := flat_snoc (bytesOf ups 4) xs k hlt
      have e2 := flat_snoc (bytesOf (downs 4) 4) xs k hlt
      have E1 := Lib.hid e1
      have E2 := Lib.hid e2
      clear e1 e2
      generalize xs[k] = x at *
      generalize (xs.take k).flatMap (bytesOf ups 4) = F at *
      generalize (xs.take k).flatMap (bytesOf (downs 4) 4) = G at *
      have x2 : x ≤ 4294967295 := by omega
      go_wp2_with fail
      refine (of32_own x _ hx0).mono ?_
      rintro e w2 ⟨g2, c2, rfl, own2, hb2⟩
      have T2 := T.step hb2
      have hw2 := T2.below.size
      have o2 := T2.left
      go_wp2_with (at_builtin; refine wpList_append_own_at _ rfl (.tmp 29) (.tmp 31) 25 rfl w1.heap.size 5 i0 (.int .u8 0) 1 1 Try.underlying25 hi hz0 hz1 hz2 rfl (by decide) _ _ _ rfl o2 ⟨g2, 0, none⟩ 4 c2 (u8s (bytesOf ups 4 x)) rfl (by simp [u8s, bytesOf]) (cells_own own2) (u8s_one _) (by unfold maxLen; omega) (by omega) hw2 ?_)
      intro v3 w3 own3 hg3 _ hat3
      have T3 := T2.grow_left own3 hg3 hat3
      clear own3 hg3 hat3 T2 o2 own2 hw2 T hb2 h0
      go_wp2_with fail
      refine (of32_own x _ hx0).mono ?_
      rintro e w4 ⟨g4, c4, rfl, own4, hb4⟩
      have T4 := T3.step hb4
      clear T3 hb4
      go_wp2_with fail
      refine (turned_own 4 (by omega) x g4 c4 _ own4).mono ?_
      rintro e w5 ⟨g5, c5, rfl, own5, hb5⟩
      have T5 := T4.step hb5
      have hw5 := T5.below.size
      have o5 := T5.right
      clear own4 T4 hb5
      go_wp2_with (at_builtin; refine wpList_append_own_at _ rfl (.tmp 33) (.tmp 36) 25 rfl w1.heap.size 5 i0 (.int .u8 0) 1 1 Try.underlying25 hi hz0 hz1 hz2 rfl (by decide) _ _ _ rfl o5 ⟨g5, 0, none⟩ 4 c5 (u8s (bytesOf (downs 4) 4 x)) rfl (by simp [u8s, bytesOf]) (cells_own own5) (u8s_one _) (by unfold maxLen; omega) (by omega) hw5 ?_)
      intro v6 w6 own6 hg6 _ hat6
      have T6 := T5.grow_right own6 hg6 hat6
      clear own6 hg6 hat6 T5 o5 own5 hw5
      go_wp2_with fail
      go_roundw
      case rel => exact ⟨k + 1, by omega, by go_num, by rw [E1.out, E2.out, u8s_append, u8s_append, Nat.mul_add]; exact T6⟩
      case measure => simp [intOf]; omega
    · obtain rfl : k = xs.length := by omega
      rw [List.take_length] at T
      go_wp2_with fail
      have hb2 := hb1.trans (T.below.mono hb1.size)
      have L5 := (own_reads T.left)
      have L6 := (own_reads T.right)
      obtain ⟨A5, c5, rfl, R5⟩ := L5
      obtain ⟨A6, c6, rfl, R6⟩ := L6
      clear T hb1
      obtain ⟨wo, rfl⟩ : ∃ wo : World, wo = wr := ⟨_, rfl⟩
      go_loopw [7, 8, 41] (fun u v i wr => ∃ k : Nat, k ≤ ys.length ∧ i = .int .i64 k ∧ Two wo wr u (8 * k) (u8s ((ys.take k).flatMap (bytesOf ups 8))) v (8 * k) (u8s ((ys.take k).flatMap (bytesOf (downs 8) 8)))) (fun _ _ i _ => ys.length - (intOf i).toNat)
      case atStart => exact ⟨0, Nat.zero_le _, rfl, Two.start _⟩
      case round =>
        obtain ⟨k, hk, rfl, T⟩ := hrel
        by_cases hlt : k < ys.length
        · obtain ⟨b0, o0, rfl, _, h0⟩ := (Hs.out.below (hb2.trans (T.below.mono hb2.size))) k (by rw [u64s_length]; exact hlt)
          rw [u64_at] at h0
          have hx0 := Hy.out ys[k] (List.getElem_mem hlt)
          have e1 := flat_snoc (bytesOf ups 8) ys k hlt
          have e2 := flat_snoc (bytesOf (downs 8) 8) ys k hlt
          have E1 := Lib.hid e1
          have E2 := Lib.hid e2
          clear e1 e2
          generalize ys[k] = x at *
          generalize (ys.take k).flatMap (bytesOf ups 8) = F at *
          generalize (ys.take k).flatMap (bytesOf (downs 8) 8) = G at *
          go_wp2_with fail
          refine (of64_own x _ hx0).mono ?_
          rintro e w2 ⟨g2, c2, rfl, own2, hb2⟩
          have T2 := T.step hb2
          have hw2 := T2.below.size
          have o2 := T2.left
          go_wp2_with (at_builtin; refine wpList_append_own_at _ rfl (.tmp 45) (.tmp 47) 25 rfl wo.heap.size 5 i0 (.int .u8 0) 1 1 Try.underlying25 hi hz0 hz1 hz2 rfl (by decide) _ _ _ rfl o2 ⟨g2, 0, none⟩ 8 c2 (u8s (bytesOf ups 8 x)) rfl (by simp [u8s, bytesOf]) (cells_own own2) (u8s_one _) (by unfold maxLen; omega) (by omega) hw2 ?_)
          intro v3 w3 own3 hg3 _ hat3
          have T3 := T2.grow_left own3 hg3 hat3
          clear own3 hg3 hat3 T2 o2 own2 hw2 T hb2 h0
          go_wp2_with fail
          refine (of64_own x _ hx0).mono ?_
          rintro e w4 ⟨g4, c4, rfl, own4, hb4⟩
          have T4 := T3.step hb4
          clear T3 hb4
          go_wp2_with fail
          refine (turned_own 8 (by omega) x g4 c4 _ own4).mono ?_
          rintro e w5 ⟨g5, c5, rfl, own5, hb5⟩
          have T5 := T4.step hb5
          have hw5 := T5.below.size
          have o5 := T5.right
          clear own4 T4 hb5
          go_wp2_with (at_builtin; refine wpList_append_own_at _ rfl (.tmp 49) (.tmp 52) 25 rfl wo.heap.size 5 i0 (.int .u8 0) 1 1 Try.underlying25 hi hz0 hz1 hz2 rfl (by decide) _ _ _ rfl o5 ⟨g5, 0, none⟩ 8 c5 (u8s (bytesOf (downs 8) 8 x)) rfl (by simp [u8s, bytesOf]) (cells_own own5) (u8s_one _) (by unfold maxLen; omega) (by omega) hw5 ?_)
          intro v6 w6 own6 hg6 _ hat6
          have T6 := T5.grow_right own6 hg6 hat6
          clear own6 hg6 hat6 T5 o5 own5 hw5
          go_wp2_with fail
          go_roundw
          case rel => exact ⟨k + 1, by omega, by go_num, by rw [E1.out, E2.out, u8s_append, u8s_append, Nat.mul_add]; exact T6⟩
          case measure => simp [intOf]; omega
        · obtain rfl : k = ys.length := by omega
          rw [List.take_length] at T
          have hb3 := hb2.trans (T.below.mono hb2.size)
          have K5 : ReadsAs (xs.flatMap (bytesOf ups 4)).length (u8s (xs.flatMap (bytesOf ups 4))) (.slice A5 (4 * xs.length) c5) wr := by
            rw [flat_length]; exact ⟨A5, c5, rfl, R5.step T.below⟩
          have K6 : ReadsAs (xs.flatMap (bytesOf (downs 4) 4)).length (u8s (xs.flatMap (bytesOf (downs 4) 4))) (.slice A6 (4 * xs.length) c6) wr := by
            rw [flat_length]; exact ⟨A6, c6, rfl, R6.step T.below⟩
          obtain ⟨A7, c7, rfl, R7⟩ := own_reads T.left
          obtain ⟨A8, c8, rfl, R8⟩ := own_reads T.right
          have K7 : ReadsAs (ys.flatMap (bytesOf ups 8)).length (u8s (ys.flatMap (bytesOf ups 8))) (.slice A7 (8 * ys.length) c7) wr := by
            rw [flat_length]; exact ⟨A7, c7, rfl, R7⟩
          have K8 : ReadsAs (ys.flatMap (bytesOf (downs 8) 8)).length (u8s (ys.flatMap (bytesOf (downs 8) 8))) (.slice A8 (8 * ys.length) c8) wr := by
            rw [flat_length]; exact ⟨A8, c8, rfl, R8⟩
          have W12 : ∀ W, Below wr.heap.size wr W → Calls Try.prog 12 #[.slice A xs.length c] W fun e w' => ∃ v, e = .returned v ∧ ReadsAs (xs.flatMap (bytesOf ups 4)).length (u8s (xs.flatMap (bytesOf ups 4))) v w' ∧ Below W.heap.size W w' := fun W hW =>
            (wrote32 A c xs W ((Hr.out.step hb3).step hW) l1 Hx.out).mono fun e w' ⟨A', c', he, h1, h2⟩ => ⟨_, he, by rw [flat_length]; exact ⟨A', c', rfl, h1⟩, h2⟩
          have W13 : ∀ W, Below wr.heap.size wr W → Calls Try.prog 13 #[.slice A xs.length c] W fun e w' => ∃ v, e = .returned v ∧ ReadsAs (xs.flatMap (bytesOf (downs 4) 4)).length (u8s (xs.flatMap (bytesOf (downs 4) 4))) v w' ∧ Below W.heap.size W w' := fun W hW =>
            (wroteb32 A c xs W ((Hr.out.step hb3).step hW) l1 Hx.out).mono fun e w' ⟨A', c', he, h1, h2⟩ => ⟨_, he, by rw [flat_length]; exact ⟨A', c', rfl, h1⟩, h2⟩
          have W14 : ∀ W, Below wr.heap.size wr W → Calls Try.prog 14 #[.slice B ys.length d] W fun e w' => ∃ v, e = .returned v ∧ ReadsAs (ys.flatMap (bytesOf ups 8)).length (u8s (ys.flatMap (bytesOf ups 8))) v w' ∧ Below W.heap.size W w' := fun W hW =>
            (wrote64 B d ys W ((Hs.out.step hb3).step hW) l2 Hy.out).mono fun e w' ⟨A', c', he, h1, h2⟩ => ⟨_, he, by rw [flat_length]; exact ⟨A', c', rfl, h1⟩, h2⟩
          have W15 : ∀ W, Below wr.heap.size wr W → Calls Try.prog 15 #[.slice B ys.length d] W fun e w' => ∃ v, e = .returned v ∧ ReadsAs (ys.flatMap (bytesOf (downs 8) 8)).length (u8s (ys.flatMap (bytesOf (downs 8) 8))) v w' ∧ Below W.heap.size W w' := fun W hW =>
            (big64_any B d ys W ((Hs.out.step hb3).step hW) (by omega) Hy.out).mono fun e w' ⟨v, he, h1, h2⟩ => by
              obtain ⟨A', c', rfl, hR⟩ := own_reads h1
              exact ⟨_, he, by rw [flat_length]; exact ⟨A', c', rfl, hR⟩, h2⟩
          have Q12 := Lib.hid W12
          have Q13 := Lib.hid W13
          have Q14 := Lib.hid W14
          have Q15 := Lib.hid W15
          have J5 := Lib.hid K5
          have J6 := Lib.hid K6
          have J7 := Lib.hid K7
          have J8 := Lib.hid K8
          clear W12 W13 W14 W15 K5 K6 K7 K8 R5 R6 R7 R8 T hb2
          generalize xs.flatMap (bytesOf ups 4) = F1 at *
          generalize xs.flatMap (bytesOf (downs 4) 4) = F2 at *
          generalize ys.flatMap (bytesOf ups 8) = F3 at *
          generalize ys.flatMap (bytesOf (downs 8) 8) = F4 at *
          go_wp2_with fail
          refine wp_region_list [Is (.slice A xs.length c), ReadsAs F1.length (u8s F1), Is (.string (strOf F1)), ReadsAs F1.length (u8s F1), Is (.string (strOf F1)), Is (.bool true), Is (.bool true), Is (.slice A xs.length c), ReadsAs F2.length (u8s F2), Is (.string (strOf F2)), ReadsAs F2.length (u8s F2), Is (.string (strOf F2)), Is (.bool true), Is (.bool true), Is (.bool true), Is (.slice B ys.length d), ReadsAs F3.length (u8s F3), Is (.string (strOf F3)), ReadsAs F3.length (u8s F3), Is (.string (strOf F3)), Is (.bool true), Is (.bool true), Is (.bool true), Is (.slice B ys.length d), ReadsAs F4.length (u8s F4), Is (.string (strOf F4)), ReadsAs F4.length (u8s F4), Is (.string (strOf F4)), Is (.bool true), Is (.bool true), Is (.bool true)] (by kernel_rfl) (by kernel_rfl) ?_ ?_ (fun a w' hb _ hdf _ hd => ?_)
          · intro p hp
            simp only [List.mem_cons, List.not_mem_nil, or_false] at hp
            repeat (first | (rcases hp with rfl | hp; · first | exact stable_is _ | exact stable_reads _ _) | (subst hp; first | exact stable_is _ | exact stable_reads _ _))
          · refine ⟨?_, ?_, ?_, ?_, ?_, ?_, ?_, ?_, ?_, ?_, ?_, ?_, ?_, ?_, ?_, ?_, ?_, ?_, ?_, ?_, ?_, ?_, ?_, ?_, ?_, ?_, ?_, ?_, ?_, ?_, ?_, trivial⟩
            · intro a w C
              exact each_pos (wanted_free rfl _) (op_move (.inl rfl) (C.was 0 (by kernel_rfl)))
            · intro a w C
              refine each_pos (wanted_free rfl _) (op_call rfl (enters Try.func12 (by kernel_rfl) (by kernel_rfl)) ?_)
              have e : a.tmps.getD 55 undef = .slice A xs.length c := C.on (j := 0) (by kernel_rfl) rfl rfl
              show Calls _ _ #[a.tmps.getD 55 undef] _ _
              rw [e]
              exact Q12.out _ C.below
            · intro a w C
              exact each_pos (wanted_free rfl _) (op_conv rfl (C.on (j := 1) (by kernel_rfl) rfl rfl) rfl)
            · intro a w C
              exact each_pos (wanted_free rfl _) (op_move (.inl rfl) (C.was_as 5 (by kernel_rfl) (stable_reads _ _) J5.out))
            · intro a w C
              exact each_pos (wanted_free rfl _) (op_conv rfl (C.on (j := 3) (by kernel_rfl) rfl rfl) rfl)
            · intro a w C
              exact each_pos (wanted_free rfl _) (op_eqs rfl (C.on (j := 2) (by kernel_rfl) rfl rfl) (C.on (j := 4) (by kernel_rfl) rfl rfl) rfl)
            · intro a w C
              exact each_pos (wanted_free rfl _) (op_move (.inl rfl) (C.on (j := 5) (by kernel_rfl) rfl rfl))
            · intro a w C
              exact each_pos (wanted_on (j := 6) rfl rfl rfl (C.on (j := 6) (by kernel_rfl) rfl rfl)) (op_move (.inl rfl) (C.was 0 (by kernel_rfl)))
            · intro a w C
              refine each_pos (wanted_on (j := 6) rfl rfl rfl (C.on (j := 6) (by kernel_rfl) rfl rfl)) (op_call rfl (enters Try.func13 (by kernel_rfl) (by kernel_rfl)) ?_)
              have e : a.tmps.getD 62 undef = .slice A xs.length c := C.on (j := 7) (by kernel_rfl) rfl rfl
              show Calls _ _ #[a.tmps.getD 62 undef] _ _
              rw [e]
              exact Q13.out _ C.below
            · intro a w C
              exact each_pos (wanted_on (j := 6) rfl rfl rfl (C.on (j := 6) (by kernel_rfl) rfl rfl)) (op_conv rfl (C.on (j := 8) (by kernel_rfl) rfl rfl) rfl)
            · intro a w C
              exact each_pos (wanted_on (j := 6) rfl rfl rfl (C.on (j := 6) (by kernel_rfl) rfl rfl)) (op_move (.inl rfl) (C.was_as 6 (by kernel_rfl) (stable_reads _ _) J6.out))
            · intro a w C
              exact each_pos (wanted_on (j := 6) rfl rfl rfl (C.on (j := 6) (by kernel_rfl) rfl rfl)) (op_conv rfl (C.on (j := 10) (by kernel_rfl) rfl rfl) rfl)
            · intro a w C
              exact each_pos (wanted_on (j := 6) rfl rfl rfl (C.on (j := 6) (by kernel_rfl) rfl rfl)) (op_eqs rfl (C.on (j := 9) (by kernel_rfl) rfl rfl) (C.on (j := 11) (by kernel_rfl) rfl rfl) rfl)
            · intro a w C
              exact each_pos (wanted_free rfl _) (op_pick (k := true) rfl (C.on (j := 6) (by kernel_rfl) rfl rfl) (C.on (j := 12) (by kernel_rfl) rfl rfl))
            · intro a w C
              exact each_pos (wanted_free rfl _) (op_move (.inl rfl) (C.on (j := 13) (by kernel_rfl) rfl rfl))
            · intro a w C
              exact each_pos (wanted_on (j := 14) rfl rfl rfl (C.on (j := 14) (by kernel_rfl) rfl rfl)) (op_move (.inl rfl) (C.was 1 (by kernel_rfl)))
            · intro a w C
              refine each_pos (wanted_on (j := 14) rfl rfl rfl (C.on (j := 14) (by kernel_rfl) rfl rfl)) (op_call rfl (enters Try.func14 (by kernel_rfl) (by kernel_rfl)) ?_)
              have e : a.tmps.getD 70 undef = .slice B ys.length d := C.on (j := 15) (by kernel_rfl) rfl rfl
              show Calls _ _ #[a.tmps.getD 70 undef] _ _
              rw [e]
              exact Q14.out _ C.below
            · intro a w C
              exact each_pos (wanted_on (j := 14) rfl rfl rfl (C.on (j := 14) (by kernel_rfl) rfl rfl)) (op_conv rfl (C.on (j := 16) (by kernel_rfl) rfl rfl) rfl)
            · intro a w C
              exact each_pos (wanted_on (j := 14) rfl rfl rfl (C.on (j := 14) (by kernel_rfl) rfl rfl)) (op_move (.inl rfl) (C.was_as 7 (by kernel_rfl) (stable_reads _ _) J7.out))
            · intro a w C
              exact each_pos (wanted_on (j := 14) rfl rfl rfl (C.on (j := 14) (by kernel_rfl) rfl rfl)) (op_conv rfl (C.on (j := 18) (by kernel_rfl) rfl rfl) rfl)
            · intro a w C
              exact each_pos (wanted_on (j := 14) rfl rfl rfl (C.on (j := 14) (by kernel_rfl) rfl rfl)) (op_eqs rfl (C.on (j := 17) (by kernel_rfl) rfl rfl) (C.on (j := 19) (by kernel_rfl) rfl rfl) rfl)
            · intro a w C
              exact each_pos (wanted_free rfl _) (op_pick (k := true) rfl (C.on (j := 14) (by kernel_rfl) rfl rfl) (C.on (j := 20) (by kernel_rfl) rfl rfl))
            · intro a w C
              exact each_pos (wanted_free rfl _) (op_move (.inl rfl) (C.on (j := 21) (by kernel_rfl) rfl rfl))
            · intro a w C
              exact each_pos (wanted_on (j := 22) rfl rfl rfl (C.on (j := 22) (by kernel_rfl) rfl rfl)) (op_move (.inl rfl) (C.was 1 (by kernel_rfl)))
            · intro a w C
              refine each_pos (wanted_on (j := 22) rfl rfl rfl (C.on (j := 22) (by kernel_rfl) rfl rfl)) (op_call rfl (enters Try.func15 (by kernel_rfl) (by kernel_rfl)) ?_)
              have e : a.tmps.getD 78 undef = .slice B ys.length d := C.on (j := 23) (by kernel_rfl) rfl rfl
              show Calls _ _ #[a.tmps.getD 78 undef] _ _
              rw [e]
              exact Q15.out _ C.below
            · intro a w C
              exact each_pos (wanted_on (j := 22) rfl rfl rfl (C.on (j := 22) (by kernel_rfl) rfl rfl)) (op_conv rfl (C.on (j := 24) (by kernel_rfl) rfl rfl) rfl)
            · intro a w C
              exact each_pos (wanted_on (j := 22) rfl rfl rfl (C.on (j := 22) (by kernel_rfl) rfl rfl)) (op_move (.inl rfl) (C.was_as 8 (by kernel_rfl) (stable_reads _ _) J8.out))
            · intro a w C
              exact each_pos (wanted_on (j := 22) rfl rfl rfl (C.on (j := 22) (by kernel_rfl) rfl rfl)) (op_conv rfl (C.on (j := 26) (by kernel_rfl) rfl rfl) rfl)
            · intro a w C
              exact each_pos (wanted_on (j := 22) rfl rfl rfl (C.on (j := 22) (by kernel_rfl) rfl rfl)) (op_eqs rfl (C.on (j := 25) (by kernel_rfl) rfl rfl) (C.on (j := 27) (by kernel_rfl) rfl rfl) rfl)
            · intro a w C
              exact each_pos (wanted_free rfl _) (op_pick (k := true) rfl (C.on (j := 22) (by kernel_rfl) rfl rfl) (C.on (j := 28) (by kernel_rfl) rfl rfl))
            · intro a w C
              exact each_pos (wanted_free rfl _) (op_move (.inr rfl) (C.on (j := 29) (by kernel_rfl) rfl rfl))
          · have h30 : a.tmps.getD 4 undef = .bool true := hd 30 _ 4 rfl rfl
            have hfin := hb3.trans (hb.mono hb3.size)
            clear hd
            go_wp2_with fail
            refine bodyPost_ret (results_tmp rfl _ _ _) hdf ⟨?_, hfin⟩
            rw [h30]
end Go.Proofs.Ytoknhmilhljadaa
