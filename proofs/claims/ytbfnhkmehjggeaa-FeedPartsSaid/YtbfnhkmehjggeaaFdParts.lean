/- The law FeedParts, for every int, bool and list of texts. Condition: each text is no longer than what may come in. -/
import Derived.Test.YtbfnhkmehjggeaaFdAwake
import Derived.Test.YtbfnhkmehjggeaaReg
namespace Go.Proofs.Ytbfnhkmehjggeaa
open Go.RowKit

theorem fparts_bad (x : Int) (lz : Bool) (A : Option Addr) (m c : Nat) (hx : x < 1 ∨ 1 ≤ x ∧ 65536 < x) (w : World) : Calls Try.prog 4 #[.int .i64 x, .bool lz, .slice A m c] w fun e w' => e = .returned (.bool true) ∧ Below w.heap.size w w' := by
  rcases hx with hx | ⟨hx, hx2⟩
  all_goals
    go_enter Try.func4, Try.ntmps4
    go_wp2_with fail
    refine (awake_any w).mono ?_
    rintro e w1 ⟨rfl, b1⟩
    go_wp2
    go_ret
    exact ⟨rfl, b1⟩
theorem fparts_many (n : Nat) (lz : Bool) (A : Option Addr) (m c : Nat) (w : World) (hn : 1 ≤ n) (hn2 : n ≤ 65536) (hm : 50 < m) (hm2 : m ≤ maxLen) :
    Calls Try.prog 4 #[.int .i64 (n : Int), .bool lz, .slice A m c] w fun e w' => e = .returned (.bool true) ∧ Below w.heap.size w w' := by
  unfold maxLen at hm2
  go_enter Try.func4, Try.ntmps4
  go_wp2_with fail
  refine (awake_any w).mono ?_
  rintro e w1 ⟨rfl, b1⟩
  go_wp2
  go_ret
  exact ⟨rfl, b1⟩
theorem fparts_long (n : Nat) (lz : Bool) (A : Option Addr) (c : Nat) (ps : List ByteArray) (w : World) (hn : 1 ≤ n) (hn2 : n ≤ 65536) (hr : Reads w w.heap.size A (stv ps)) (hps : ps.length ≤ 50) (hj : 3000 < (jn ps).length) (hsz : ∀ s ∈ ps, s.size ≤ 140737488351232) :
    Calls Try.prog 4 #[.int .i64 (n : Int), .bool lz, .slice A ps.length c] w fun e w' => e = .returned (.bool true) ∧ Below w.heap.size w w' := by
  have HR := Lib.hid hr
  have HS := Lib.hid hsz
  clear hr hsz
  go_enter Try.func4, Try.ntmps4
  go_wp2_with fail
  refine (awake_any w).mono ?_
  rintro e w1 ⟨rfl, b1⟩
  go_wp2_with fail
  refine (bytes_any A c ps w1 ((HR.out.below b1).more b1.size) hps HS.out).mono ?_
  rintro e w4 ⟨rfl, rfl⟩
  go_wp2
  go_ret
  exact ⟨rfl, b1⟩

set_option maxHeartbeats 800000 in
set_option maxRecDepth 100000 in
theorem fparts_good (n : Nat) (lz : Bool) (A : Option Addr) (c : Nat) (ps : List ByteArray) (w : World) (hn : 1 ≤ n) (hn2 : n ≤ 65536) (hr : Reads w w.heap.size A (stv ps)) (hps : ps.length ≤ 50) (hj : (jn ps).length ≤ 3000) (hsz : ∀ s ∈ ps, s.size ≤ 140737488351232) :
    Calls Try.prog 4 #[.int .i64 (n : Int), .bool lz, .slice A ps.length c] w fun e w' => e = .returned (.bool true) ∧ Below w.heap.size w w' := by
  have HR := Lib.hid hr
  have HS := Lib.hid hsz
  clear hr hsz
  go_enter Try.func4, Try.ntmps4
  go_wp2_with fail
  refine (awake_any w).mono ?_
  rintro e w1 ⟨rfl, b1⟩
  go_wp2_with fail
  refine (bytes_any A c ps w1 ((HR.out.below b1).more b1.size) hps HS.out).mono ?_
  rintro e w1' ⟨rfl, rfl⟩
  go_wp2_with fail
  refine (new_good n lz hn hn2 w1).mono ?_
  rintro e w2 ⟨rfl, r2, b2⟩
  go_wp2_with fail
  refine (new_good n lz hn hn2 w2).mono ?_
  rintro e w3 ⟨rfl, r3, b3⟩
  have r2b := r2.below b3
  have l1 := b1.size
  have l2 := r2.lt
  have l3 := r3.lt
  have hnil : Held n lz [] := ⟨by simp, fun e => by simp at e; omega⟩
  have bb3 := below_step (below_step b1 b2) b3
  have P := put_any w1.heap.size n 0 lz (.slice none 0 0) (B := w.heap.size) [] A c ps w3 r2b (World.ownsRow_nil _ _ _ _) bb3.size (by simp [Value.ownBlock]) hn hn2 hnil
    (fun k hk => by
      obtain ⟨b, off, e, hb, hc⟩ := HR.out k hk
      exact ⟨b, off, e, by have := bb3.size; omega, fun hm => by have := mine_nil hm; omega, (bb3.cell (p := ⟨b, off + k, none⟩) hb).trans hc⟩) (by omega) (by omega)
  rw [List.nil_append] at P
  have P1 := Lib.hid P
  clear P r2 r2b
  go_wp2_with fail
  refine (P1.out).mono ?_
  rintro e w4 ⟨vb, rfl, hp⟩
  obtain ⟨bs, h, hc⟩ := hp.some
  obtain ⟨v4, gs, A1, c1, rfl, q⟩ := hp.known hc
  have HC := Lib.hid hc
  have hbb4 : Below w.heap.size w w4 := bb3.trans (q.kept.below bb3.size fun x hx => by have := mine_nil hx; omega)
  have l4 := q.kept.size
  have r4 := r3.keep q.kept (fun hm => by have := mine_nil hm; omega)
  have HQ := Lib.hid q
  clear hp hc P1 r3 q b1 b2 b3 bb3
  go_wp2_with fail
  refine (joined_any A c ps w4 ((HR.out.below hbb4).more hbb4.size) hps (by omega)).mono ?_
  rintro e w4' ⟨rfl, rfl⟩
  have P := put_any w2.heap.size n 0 lz (.slice none 0 0) (B := w.heap.size) [] (some ⟨w4.heap.size, 0, none⟩) 1 [tx (jn ps)] (w4.alloc (.cells #[.string (tx (jn ps))] 9)) (r4.alloc _) (World.ownsRow_nil _ _ _ _) (by have := hbb4.size; simp; omega) (by simp [Value.ownBlock]) hn hn2 hnil
    (one_part w4 _ (fun hm => by have := mine_nil hm; omega) _) (by rw [jn_one, tl_tx]; omega) (by simp)
  rw [List.nil_append, jn_one, tl_tx] at P
  have P1 := Lib.hid P
  clear P r4
  go_wp2_with fail
  refine (P1.out).mono ?_
  rintro e w5 ⟨vb, rfl, hp⟩
  obtain ⟨v5, gs2, A2, c2, rfl, q2⟩ := hp.known HC.out
  have hk : Kept (Mine w2.heap.size (.slice none 0 0)) w4 w5 := ((Kept.refl _ w4).alloc _).trans q2.kept (fun _ _ h => h)
  obtain ⟨hR1, hO1⟩ := HQ.out.later hk (fun k h => by have := mine_nil h; omega) rfl
  have hbb5 : Below w.heap.size w w5 := hbb4.trans (hk.below hbb4.size fun x hx => by have := mine_nil hx; omega)
  have rf := HQ.out.row.keep hk (fun hm => by have := mine_nil hm; omega)
  have of := own_kept HQ.out.held hk (fun k hk2 hm => by
    have := mine_nil hm
    rcases HQ.out.vat k hk2 with e | e
    · simp [Value.ownBlock] at e
    · omega)
  have hh := HC.out.held.1
  have HF : Hid (∀ W, Below w5.heap.size w5 W → Calls Try.prog 13 #[.pointer (some ⟨w1.heap.size, 0, none⟩)] W fun e w' => ∃ v, e = .returned v ∧ Owns h v w' ∧ Below W.heap.size W w') := Lib.hid fun W hW =>
    (rest_any W (rf.below hW) _ h (own_kept of (Kept.of_below (M := fun _ => False) hW) fun _ _ => id) (by omega)).mono fun e w' ⟨v, he, ho, hb⟩ => ⟨v, he, ⟨_, _, ho⟩, hb⟩
  have HG : Hid (∀ W, Below w5.heap.size w5 W → Calls Try.prog 13 #[.pointer (some ⟨w2.heap.size, 0, none⟩)] W fun e w' => ∃ v, e = .returned v ∧ Owns h v w' ∧ Below W.heap.size W w') := Lib.hid fun W hW =>
    (rest_any W (q2.row.below hW) _ h (own_kept q2.held (Kept.of_below (M := fun _ => False) hW) fun _ _ => id) (by omega)).mono fun e w' ⟨v, he, ho, hb⟩ => ⟨v, he, ⟨_, _, ho⟩, hb⟩
  have HR1 := Lib.hid (And.intro hR1 (And.intro hO1 (And.intro q2.reads q2.outs)))
  have HB5 := Lib.hid hbb5
  clear hp P1 q2 hk hR1 hO1 hbb4 hbb5 rf of HQ hnil
  generalize w1.heap.size = F at *
  generalize w2.heap.size = G at *
  obtain ⟨m, hm⟩ : ∃ m, bs.length = m := ⟨_, rfl⟩
  have HM := Lib.hid hm
  have hmb : m ≤ 3000 := by
    have q1 := congrArg List.length HC.out.whole
    rw [List.length_append, flat_len HC.out.each] at q1
    have q3 := Nat.le_mul_of_pos_right bs.length (show 0 < n by omega)
    omega
  rw [hm]
  clear hm
  go_wp2_with fail
  refine wp_region_text [Is (.slice A1 m c1), Is (.int .i64 (m : Int)), Is (.slice A2 m c2), Is (.int .i64 (m : Int)), Is (.bool false), Is (.bool false), Is (.pointer (some ⟨F, 0, none⟩)), Owns h, Is (.string (tx h)), Is (.pointer (some ⟨G, 0, none⟩)), Owns h, Is (.string (tx h)), Is (.bool false), Is (.bool false)] (by kernel_rfl) (by kernel_rfl) rfl ⟨stable_is _, stable_is _, stable_is _, stable_is _, stable_is _, stable_is _, stable_is _, stable_owns _, stable_is _, stable_is _, stable_owns _, stable_is _, stable_is _, stable_is _, trivial⟩ ⟨?_, ?_, ?_, ?_, ?_, ?_, ?_, ?_, ?_, ?_, ?_, ?_, ?_, ?_, trivial⟩ ?_
  · intro a w C
    exact part_on (wanted_free rfl _) (op_move (.inl rfl) (C.was 11 (by kernel_rfl)))
  · intro a w C
    exact part_on (wanted_free rfl _) (op_len_slice rfl Try.underlying30 (C.on (j := 0) (by kernel_rfl) rfl rfl) rfl)
  · intro a w C
    exact part_on (wanted_free rfl _) (op_move (.inl rfl) (C.was 12 (by kernel_rfl)))
  · intro a w C
    exact part_on (wanted_free rfl _) (op_len_slice rfl Try.underlying30 (C.on (j := 2) (by kernel_rfl) rfl rfl) rfl)
  · intro a w C
    exact part_on (wanted_free rfl _) (op_bin rfl (C.on (j := 1) (by kernel_rfl) rfl rfl) (C.on (j := 3) (by kernel_rfl) rfl rfl) rfl (by simp [go_sem]) rfl)
  · intro a w C
    exact part_on (wanted_free rfl _) (op_move (.inl rfl) (C.on (j := 4) (by kernel_rfl) rfl rfl))
  · intro a w C
    exact part_on (wanted_on (j := 5) rfl rfl rfl (C.on (j := 5) (by kernel_rfl) rfl rfl)) (op_move (.inl rfl) (C.was 7 (by kernel_rfl)))
  · intro a w C
    exact part_on (wanted_on (j := 5) rfl rfl rfl (C.on (j := 5) (by kernel_rfl) rfl rfl)) (op_call1 rfl (enters Try.func13 (by kernel_rfl) (by kernel_rfl)) (C.on (j := 6) (by kernel_rfl) rfl rfl) (HF.out w C.below))
  · intro a w C
    obtain ⟨B, n, ho⟩ : Owns _ _ _ := (C.on (j := 7) (by kernel_rfl) rfl rfl)
    exact part_on (wanted_on (j := 5) rfl rfl rfl (C.on (j := 5) (by kernel_rfl) rfl rfl)) (op_conv rfl rfl (conv_text w ho) rfl)
  · intro a w C
    exact part_on (wanted_on (j := 5) rfl rfl rfl (C.on (j := 5) (by kernel_rfl) rfl rfl)) (op_move (.inl rfl) (C.was 9 (by kernel_rfl)))
  · intro a w C
    exact part_on (wanted_on (j := 5) rfl rfl rfl (C.on (j := 5) (by kernel_rfl) rfl rfl)) (op_call1 rfl (enters Try.func13 (by kernel_rfl) (by kernel_rfl)) (C.on (j := 9) (by kernel_rfl) rfl rfl) (HG.out w C.below))
  · intro a w C
    obtain ⟨B, n, ho⟩ : Owns _ _ _ := (C.on (j := 10) (by kernel_rfl) rfl rfl)
    exact part_on (wanted_on (j := 5) rfl rfl rfl (C.on (j := 5) (by kernel_rfl) rfl rfl)) (op_conv rfl rfl (conv_text w ho) rfl)
  · intro a w C
    exact part_on (wanted_on (j := 5) rfl rfl rfl (C.on (j := 5) (by kernel_rfl) rfl rfl)) (op_bin rfl (C.on (j := 8) (by kernel_rfl) rfl rfl) (C.on (j := 11) (by kernel_rfl) rfl rfl) rfl (by simp [go_sem]) rfl)
  · intro a w C
    exact part_on (wanted_free rfl _) (op_pick (k := false) rfl (C.on (j := 5) (by kernel_rfl) rfl rfl) (C.on (j := 12) (by kernel_rfl) rfl rfl))
  rintro wF hbF _ rfl _ rfl _ rfl _ rfl _ rfl _ rfl _ rfl x60 hx60 _ rfl _ rfl x63 hx63 _ rfl _ rfl _ rfl
  simp only [Fin, setAt, Exit.then, List.setIfInBounds_toArray, List.set_cons_succ, List.set_cons_zero]
  clear HG hx60 hx63
  have HBF := Lib.hid hbF
  clear hbF
  go_wp2
  go_loopw [13, 69] (fun s i wr => ∃ k : Nat, k ≤ m ∧ i = .int .i64 k ∧ s = .string (tx (bs.take k).flatten) ∧ Below w5.heap.size w5 wr) (fun _ i _ => m - (intOf i).toNat)
  case atStart => exact ⟨0, Nat.zero_le _, rfl, rfl, HBF.out⟩
  case round =>
    obtain ⟨k, hk, rfl, rfl, hb⟩ := hrel
    by_cases hlt : k < m
    · have hbl : k < bs.length := by rw [HM.out]; exact hlt
      have hgl : k < gs.length := by rw [HR1.out.2.1.1]; exact hbl
      have hgl2 : k < gs2.length := by rw [HR1.out.2.2.2.1]; exact hbl
      obtain ⟨b, off, rfl, hbB, hcell⟩ := HR1.out.1 k (by rw [sls_length]; exact hgl)
      obtain ⟨b2, off2, rfl, hbB2, hcell2⟩ := HR1.out.2.2.1 k (by rw [sls_length]; exact hgl2)
      rw [sls_at] at hcell hcell2
      have hrow := HR1.out.2.1.2 k hgl hbl
      have hrow2 := HR1.out.2.2.2.2 k hgl2 hbl
      have hbn := HC.out.each _ (List.getElem_mem hbl)
      have hcv : ∀ q, (convert 35 9 (.slice (some ⟨gs[k], 0, none⟩) n n)).run Try.prog (wr.drewN q) = .ok (.string (tx bs[k])) (wr.drewN q) := fun q => conv_row (c := n) ((hrow.of_eq (hb.block _ hrow.lt)) : Row (wr.drewN q) _ _) hbn
      have hcv2 : ∀ q, (convert 35 9 (.slice (some ⟨gs2[k], 0, none⟩) n n)).run Try.prog (wr.drewN q) = .ok (.string (tx bs[k])) (wr.drewN q) := fun q => conv_row (c := n) ((hrow2.of_eq (hb.block _ hrow2.lt)) : Row (wr.drewN q) _ _) hbn
      have x1 := (hb.cell (p := ⟨b, off + k, none⟩) hbB).trans hcell
      have x2 := (hb.cell (p := ⟨b2, off2 + k, none⟩) hbB2).trans hcell2
      have hfl : (bs.take (k + 1)).flatten = (bs.take k).flatten ++ bs[k] := by
        rw [List.take_succ_eq_append_getElem hbl, List.flatten_append]; simp
      have HFL := Lib.hid hfl
      have hsz : (tx (bs.take k).flatten).size + (tx bs[k]).size ≤ 3000 := by
        have e := congrArg List.length HC.out.whole
        have e2 : bs.flatten = (bs.take (k + 1)).flatten ++ (bs.drop (k + 1)).flatten := by rw [← List.flatten_append, List.take_append_drop]
        rw [e2, hfl] at e
        simp only [List.length_append] at e
        rw [tx_size, tx_size]
        omega
      have HT := Lib.hid (tx_append (bs.take k).flatten bs[k])
      clear hcell hcell2 hrow hrow2 hbn hfl
      generalize hT1 : tx (bs.take k).flatten = T1 at *
      have HT1 := Lib.hid hT1
      generalize gs[k] = g1 at *
      generalize gs2[k] = g2 at *
      generalize bs[k] = t at *
      clear hT1
      have hbd : ∀ q, Below w5.heap.size w5 (wr.drewN q) := fun q => ⟨hb.os, hb.tape, hb.output, hb.size, hb.block⟩
      have HBD := Lib.hid hbd
      clear hb hbd
      go_wp2
      go_quiet (fail)
      go_wp2
      go_roundw
      case rel => exact ⟨k + 1, by omega, by go_num, by rw [HFL.out, HT.out], HBD.out _⟩
      case measure => simp [intOf]; omega
    · obtain rfl : k = m := by omega
      have hall : bs.take k = bs := by rw [← HM.out, List.take_length]
      rw [hall]
      clear hall
      have e1 : tx bs.flatten ++ tx h = tx (jn ps) := by rw [← tx_append, ← HC.out.whole]
      have hsz2 : (tx bs.flatten).size + (tx h).size ≤ 3000 := by
        have q1 := congrArg List.length HC.out.whole
        rw [List.length_append] at q1
        rw [tx_size, tx_size]; omega
      have E1 := Lib.hid e1
      clear e1
      have b9 : Below w.heap.size w wr := below_step HB5.out hb
      have HF9 : Hid (∀ W, Below wr.heap.size wr W → Calls Try.prog 13 #[.pointer (some ⟨F, 0, none⟩)] W fun e w' => ∃ v, e = .returned v ∧ Owns h v w' ∧ Below W.heap.size W w') := Lib.hid fun W hW => HF.out W (below_step hb hW)
      have HJ : Hid (∀ W, Below wr.heap.size wr W → Calls Try.prog 15 #[.slice A ps.length c] W fun e w' => ∃ v, e = .returned v ∧ Is (.string (tx (jn ps))) v w' ∧ Below W.heap.size W w') := Lib.hid fun W hW =>
        (joined_any A c ps W ((HR.out.below (below_step b9 hW)).more (below_step b9 hW).size) hps (by omega)).mono fun e w' ⟨he, hw⟩ => ⟨_, he, rfl, by rw [← hw]; exact Below.refl _ _⟩
      have HAdd : ∀ W : World, (binOp .add 9 (.string (tx bs.flatten)) (.string (tx h))).run Try.prog W = .ok (.string (tx bs.flatten ++ tx h)) W := fun W => by simp [go_sem]; omega
      have HEq : ∀ W : World, (binOp .eql 9 (.string (tx bs.flatten ++ tx h)) (.string (tx (jn ps)))).run Try.prog W = .ok (.bool true) W := fun W => by rw [E1.out]; simp [go_sem]
      have B9 := Lib.hid b9
      clear b9 hb HF
      generalize tx bs.flatten = S at *
      generalize hJ : tx (jn ps) = J at *
      clear hJ
      go_wp2_with fail
      refine wp_region_text [Is (.string S), Is (.pointer (some ⟨F, 0, none⟩)), Owns h, Is (.string (tx h)), Is (.string (S ++ tx h)), Is (.slice A ps.length c), Is (.string J), Is (.bool true), Is (.bool true)] (by kernel_rfl) (by kernel_rfl) rfl ⟨stable_is _, stable_is _, stable_owns _, stable_is _, stable_is _, stable_is _, stable_is _, stable_is _, stable_is _, trivial⟩ ⟨?_, ?_, ?_, ?_, ?_, ?_, ?_, ?_, ?_, trivial⟩ ?_
      · intro a w C
        exact part_on (wanted_free rfl _) (op_move (.inl rfl) (C.was 13 (by kernel_rfl)))
      · intro a w C
        exact part_on (wanted_free rfl _) (op_move (.inl rfl) (C.was 7 (by kernel_rfl)))
      · intro a w C
        exact part_on (wanted_free rfl _) (op_call1 rfl (enters Try.func13 (by kernel_rfl) (by kernel_rfl)) (C.on (j := 1) (by kernel_rfl) rfl rfl) (HF9.out w C.below))
      · intro a w C
        obtain ⟨B, n, ho⟩ : Owns _ _ _ := (C.on (j := 2) (by kernel_rfl) rfl rfl)
        exact part_on (wanted_free rfl _) (op_conv rfl rfl (conv_text w ho) rfl)
      · intro a w C
        exact part_on (wanted_free rfl _) (op_bin rfl (C.on (j := 0) (by kernel_rfl) rfl rfl) (C.on (j := 3) (by kernel_rfl) rfl rfl) rfl (HAdd w) rfl)
      · intro a w C
        exact part_on (wanted_free rfl _) (op_move (.inl rfl) (C.was 2 (by kernel_rfl)))
      · intro a w C
        exact part_on (wanted_free rfl _) (op_call1 rfl (enters Try.func15 (by kernel_rfl) (by kernel_rfl)) (C.on (j := 5) (by kernel_rfl) rfl rfl) (HJ.out w C.below))
      · intro a w C
        exact part_on (wanted_free rfl _) (op_bin rfl (C.on (j := 4) (by kernel_rfl) rfl rfl) (C.on (j := 6) (by kernel_rfl) rfl rfl) rfl (HEq w) rfl)
      · intro a w C
        exact part_on (wanted_free rfl _) (op_move (.inr rfl) (C.on (j := 7) (by kernel_rfl) rfl rfl))
      rintro wF hbF _ rfl _ rfl x102 hx102 _ rfl _ rfl _ rfl _ rfl _ rfl _ rfl
      simp only [Fin, setAt, Exit.then, List.setIfInBounds_toArray, List.set_cons_succ, List.set_cons_zero]
      go_wp2
      go_ret
      exact ⟨rfl, B9.out.trans (hbF.mono B9.out.size)⟩

theorem fparts_any (x : Int) (lz : Bool) (A : Option Addr) (c : Nat) (ps : List ByteArray) (w : World) (hr : Reads w w.heap.size A (stv ps)) (hps : ps.length ≤ maxLen) (hsz : ∀ s ∈ ps, s.size ≤ 140737488351232) :
    Calls Try.prog 4 #[.int .i64 x, .bool lz, .slice A ps.length c] w fun e w' => e = .returned (.bool true) ∧ Below w.heap.size w w' := by
  by_cases h1 : x < 1 ∨ 1 ≤ x ∧ 65536 < x
  · exact fparts_bad x lz A _ c h1 w
  · obtain ⟨n, rfl⟩ : ∃ n : Nat, x = (n : Int) := ⟨x.toNat, by omega⟩
    by_cases h2 : 50 < ps.length
    · exact fparts_many n lz A _ c w (by omega) (by omega) h2 hps
    · by_cases h3 : 3000 < (jn ps).length
      · exact fparts_long n lz A c ps w (by omega) (by omega) hr (by omega) h3 hsz
      · exact fparts_good n lz A c ps w (by omega) (by omega) hr (by omega) (by omega) hsz
end Go.Proofs.Ytbfnhkmehjggeaa
