/- With, Tag, Of of package mac by their contracts, and what a nil Mac answers. Conditions: those typed. -/
import Derived.Test.YtebocfbnamcnoaaDoorMxMac
namespace Go.Proofs.YtebocfbnamcnoaaDoor
set_option maxRecDepth 50000
open Go.RowKit Sha

theorem macfield0_run (w : World) (M : Nat) (ev : Operand → Value) (x : Operand) (o : Oper) (hop : o.op = .fieldAddr 54 x 0) (hx : ev x = .pointer (some ⟨M, 0, none⟩)) : (execOp ev o).run Tryd.prog w = .ok (.value (.pointer (some ⟨M, 0, none⟩))) w := by
  simp [execOp, hop, hx, go_sem]
theorem macfield1_run (w : World) (M : Nat) (ev : Operand → Value) (x : Operand) (o : Oper) (hop : o.op = .fieldAddr 54 x 1) (hx : ev x = .pointer (some ⟨M, 0, none⟩)) : (execOp ev o).run Tryd.prog w = .ok (.value (.pointer (some ⟨M, 1, none⟩))) w := by
  simp [execOp, hop, hx, go_sem]
theorem loadhash_run (w : World) (ad : Addr) (v : Option Addr) (ev : Operand → Value) (x : Operand) (o : Oper) (hop : o.op = .load 51 x) (hx : ev x = .pointer (some ad)) (hc : w.cell? ad = some (.pointer v)) : (execOp ev o).run Tryd.prog w = .ok (.value (.pointer v)) w := by
  simp [execOp, hop, hx, hc, go_sem]
theorem buildmac_run (w : World) (p q : Option Addr) (ev : Operand → Value) (x y : Operand) (o : Oper) (hop : o.op = .build 54 #[(0, x), (1, y)]) (hx : ev x = .pointer p) (hy : ev y = .pointer q) : (execOp ev o).run Tryd.prog w = .ok (.value (.agg #[.pointer p, .pointer q])) w := by
  simp [execOp, hop, hx, hy, go_sem]
theorem boxmac_run (w : World) (p q : Option Addr) (ev : Operand → Value) (x : Operand) (o : Oper) (hop : o.op = .box 54 x) (hx : ev x = .agg #[.pointer p, .pointer q]) : (execOp ev o).run Tryd.prog w = .ok (.value (.pointer (some ⟨w.heap.size, 0, none⟩))) (w.alloc (.cells #[.pointer p, .pointer q] 54)) := by
  simp [execOp, hop, hx, go_sem]

/-- two Hashes, one of one's own, the other as it was -/
def MaggP (N O : Nat) (Y : List UInt8) : Value → World → Prop := fun x w => ∃ H T, x = .agg #[.pointer (some ⟨H, 0, none⟩), .pointer (some ⟨O, 0, none⟩)] ∧ HashIs w N T H Y
def MptrP (N O : Nat) (Y : List UInt8) : Value → World → Prop := fun x w => ∃ M H T, x = .pointer (some ⟨M, 0, none⟩) ∧ w.heap[M]? = some (.cells #[.pointer (some ⟨H, 0, none⟩), .pointer (some ⟨O, 0, none⟩)] 54 (0, 0)) ∧ HashIs w N T H Y
theorem stable_magg (N O : Nat) (Y : List UInt8) : Stable (MaggP N O Y) := fun _ _ _ ⟨H, T, e, h⟩ hb => ⟨H, T, e, h.below hb⟩
theorem stable_mptr (N O : Nat) (Y : List UInt8) : Stable (MptrP N O Y) := fun _ _ _ ⟨M, H, T, e, h1, h⟩ hb => ⟨M, H, T, e, (hb.block M (Array.getElem?_eq_some_iff.1 h1).1).trans h1, h.below hb⟩
theorem magg_does {N O : Nat} {Y : List UInt8} {w : World} {o : Oper} {a : Act} {Q : Exit → Act → World → Prop} {x y : Operand} (ho : o.op = .build 54 #[(0, x), (1, y)]) (hx : HashP N Y (a.eval x) w) (hy : a.eval y = .pointer (some ⟨O, 0, none⟩)) : Does Tryd.prog (MaggP N O Y) o a w Q := by
  obtain ⟨H, T, e, h⟩ := hx
  exact op_value (buildmac_run _ _ _ _ _ _ _ ho e hy) ⟨H, T, rfl, h⟩
theorem mptr_does {N O : Nat} {Y : List UInt8} {w : World} {o : Oper} {a : Act} {Q : Exit → Act → World → Prop} {x : Operand} (ho : o.op = .box 54 x) (hx : MaggP N O Y (a.eval x) w) : Does Tryd.prog (MptrP N O Y) o a w Q := by
  obtain ⟨H, T, e, h⟩ := hx
  unfold Does Oper.wp
  rw [boxmac_run w _ _ _ _ _ ho e]
  have hb : Below w.heap.size w (w.alloc (.cells #[.pointer (some ⟨H, 0, none⟩), .pointer (some ⟨O, 0, none⟩)] 54)) := (Below.refl _ _).alloc (Nat.le_refl _) _
  exact ⟨_, rfl, ⟨w.heap.size, H, T, rfl, heap_alloc_last w _, h.below hb⟩, hb⟩
theorem mac_cells {w : World} {M H O : Nat} (h : w.heap[M]? = some (.cells #[.pointer (some ⟨H, 0, none⟩), .pointer (some ⟨O, 0, none⟩)] 54 (0, 0))) : w.cell? ⟨M, 0, none⟩ = some (.pointer (some ⟨H, 0, none⟩)) ∧ w.cell? ⟨M, 1, none⟩ = some (.pointer (some ⟨O, 0, none⟩)) := by
  constructor
  · rw [cell_of_row w M 0 _ _ _ h]; rfl
  · rw [cell_of_row w M 1 _ _ _ h]; rfl

set_option maxHeartbeats 1600000 in
theorem with_any (w : World) (M : Nat) (K X : List UInt8) (h : MacIs w M K X) (hk : KAt w) (A : Option Addr) (c : Nat) (ps : List ByteArray) (hr : Reads w w.heap.size A (stv ps)) (hlen : X.length + (jn ps).length ≤ 100000) (hps : ps.length ≤ 1000000) :
    Calls Tryd.prog 28 #[.pointer (some ⟨M, 0, none⟩), .slice A ps.length c] w fun e w' => ∃ M', e = .returned (.pointer (some ⟨M', 0, none⟩)) ∧ MacIs w' M' K (X ++ jn ps) ∧ Below w.heap.size w w' := by
  obtain ⟨H, O, B, T, B2, T2, h1, h2, h3⟩ := h
  obtain ⟨N, hN⟩ : ∃ N, N = w.heap.size := ⟨_, rfl⟩
  obtain ⟨I, hI⟩ : ∃ I, I = inK K ++ X := ⟨_, rfl⟩
  obtain ⟨Y, hY⟩ : ∃ Y, Y = I ++ jn ps := ⟨_, rfl⟩
  have hIl : I.length = 64 + X.length := by rw [hI, List.length_append, inK_length]
  rw [← hI] at h2
  have KP := Lib.hid fun (w1 : World) (hb : Below w.heap.size w w1) => show (w1.cell? ⟨M, 0, none⟩ = some (.pointer (some ⟨H, 0, none⟩)) ∧ w1.cell? ⟨M, 1, none⟩ = some (.pointer (some ⟨O, 0, none⟩))) ∧
      Calls Tryd.prog 42 #[.pointer (some ⟨H, 0, none⟩)] w1 fun e w' => ∃ x, e = .returned x ∧ HashP N I x w' ∧ Below w1.heap.size w1 w' from by
    refine ⟨mac_cells ((hb.block M (Array.getElem?_eq_some_iff.1 h1).1).trans h1), (clone_any2 w1 B T H I (h2.below hb)).mono ?_⟩
    rintro e w' ⟨H', rfl, g1, g2⟩
    exact ⟨_, rfl, ⟨H', w'.heap.size, rfl, g1.mono (by rw [hN]; exact hb.size) (Nat.le_refl _) (Nat.le_refl _)⟩, g2⟩
  have CADD := Lib.hid fun (w1 : World) (hb : Below w.heap.size w w1) (H' T' : Nat) (g : HashIs w1 N T' H' I) =>
      show Calls Tryd.prog 36 #[.pointer (some ⟨H', 0, none⟩), .slice A ps.length c] w1 fun e w' => ∃ x, e = .returned x ∧ HashP N Y x w' ∧ Below w.heap.size w w' from by
    refine (addhash_any w1 N T' H' I g (hk.next hb) (by rw [hN]; exact hk.1) A c ps (fun k hk => ?_) (by omega) hps).mono ?_
    · obtain ⟨b, off, e, hbb, hc⟩ := hr k hk
      exact ⟨b, off, e, Nat.lt_of_lt_of_le hbb hb.size, .inl (by rw [hN]; exact hbb), (hb.cell hbb).trans hc⟩
    · rintro e w' ⟨rfl, g1, g2⟩
      rw [← hY] at g1
      exact ⟨_, rfl, ⟨H', w'.heap.size, rfl, g1⟩, hb.trans (by rw [← hN]; exact g2)⟩
  have HO := Lib.hid fun (w1 : World) (hb : Below w.heap.size w w1) => h3.below hb
  have HY : Hid (inK K ++ (X ++ jn ps) = Y) := Lib.hid (by rw [hY, hI, List.append_assoc])
  clear h1 h2 h3 hr hlen hps hN hI hY hIl hk
  unfold MacIs
  rw [HY.out]
  clear HY
  go_enter Tryd.func28, Tryd.ntmps28
  go_wp2
  refine wp_region_sway 6 [Is (.pointer (some ⟨M, 0, none⟩)), Is (.pointer (some ⟨M, 0, none⟩)), Is (.pointer (some ⟨M, 0, none⟩)), Is (.pointer (some ⟨H, 0, none⟩)), HashP N I, Is (.slice A ps.length c)] (HashP N Y) [.pointer (some ⟨M, 0, none⟩), .pointer (some ⟨M, 0, none⟩), .pointer (some ⟨M, 1, none⟩), .pointer (some ⟨O, 0, none⟩)] [MaggP N O Y, MptrP N O Y, MptrP N O Y] (by kernel_rfl) (by kernel_rfl) (by kernel_rfl) rfl rfl (by decide) ⟨stable_is _, stable_is _, stable_is _, stable_is _, stable_hash _ _, stable_is _, trivial⟩ (stable_hash _ _) ⟨stable_magg _ _ _, stable_mptr _ _ _, stable_mptr _ _ _, trivial⟩ ⟨?h0, ?h1, ?h2, ?h3, ?h4, ?h5, trivial⟩ ?mid ⟨?f0, ?f1, ?f2, ?f3, trivial⟩ ⟨?l0, ?l1, ?l2, ?l3, ?l4, ?l5, ?l6, trivial⟩ ?fin
  case h0 =>
    intro a w C
    exact part_on (wanted_free rfl _) (op_move (.inl rfl) (C.was 0 (by kernel_rfl)))
  case h1 =>
    intro a w C
    exact part_on (wanted_free rfl _) (op_value (nil_run _ _ _ _ _ rfl (C.on (j := 0) (by kernel_rfl) rfl rfl)) rfl)
  case h2 =>
    intro a w C
    exact part_on (wanted_free rfl _) (op_value (macfield0_run _ _ _ _ _ rfl (C.on (j := 1) (by kernel_rfl) rfl rfl)) rfl)
  case h3 =>
    intro a w C
    exact part_on (wanted_free rfl _) (op_value (loadhash_run _ _ _ _ _ _ rfl (C.on (j := 2) (by kernel_rfl) rfl rfl) ((KP.out w C.below).1.1)) rfl)
  case h4 =>
    intro a w C
    exact part_on (wanted_free rfl _) (op_call1 rfl (reg_enters Tryd.func42 (by kernel_rfl) (by kernel_rfl)) (C.on (j := 3) (by kernel_rfl) rfl rfl) ((KP.out w C.below).2))
  case h5 =>
    intro a w C
    exact part_on (wanted_free rfl _) (op_move (.inl rfl) (C.was 1 (by kernel_rfl)))
  case mid =>
    intro o ho a w C
    cases ho
    refine ⟨wanted_free rfl _, ?_⟩
    obtain ⟨H', T', e7, h7⟩ : HashP N I _ _ := C.on (j := 4) (by kernel_rfl) rfl rfl
    exact turns_call2 rfl (reg_enters Tryd.func36 (by kernel_rfl) (by kernel_rfl)) e7 (C.on (j := 5) (by kernel_rfl) rfl rfl) (CADD.out w C.below H' T' h7)
  case f0 =>
    intro a w C
    exact part_on (wanted_free rfl _) (op_move (.inl rfl) (C.was 0 (by kernel_rfl)))
  case f1 =>
    intro a w C
    exact part_on (wanted_free rfl _) (op_value (nil_run _ _ _ _ _ rfl (C.on (j := 7) (by kernel_rfl) rfl rfl)) rfl)
  case f2 =>
    intro a w C
    exact part_on (wanted_free rfl _) (op_value (macfield1_run _ _ _ _ _ rfl (C.on (j := 8) (by kernel_rfl) rfl rfl)) rfl)
  case f3 =>
    intro a w C
    exact part_on (wanted_free rfl _) (op_value (loadhash_run _ _ _ _ _ _ rfl (C.on (j := 9) (by kernel_rfl) rfl rfl) ((KP.out w C.below).1.2)) rfl)
  case l0 =>
    intro a w C
    exact part_on (wanted_free rfl _) (op_move (.inl rfl) (C.was 0 (by kernel_rfl)))
  case l1 =>
    intro a w C
    exact part_on (wanted_free rfl _) (op_value (nil_run _ _ _ _ _ rfl (C.on (j := 7) (by kernel_rfl) rfl rfl)) rfl)
  case l2 =>
    intro a w C
    exact part_on (wanted_free rfl _) (op_value (macfield1_run _ _ _ _ _ rfl (C.on (j := 8) (by kernel_rfl) rfl rfl)) rfl)
  case l3 =>
    intro a w C
    exact part_on (wanted_free rfl _) (op_value (loadhash_run _ _ _ _ _ _ rfl (C.on (j := 9) (by kernel_rfl) rfl rfl) ((KP.out w C.below).1.2)) rfl)
  case l4 =>
    intro a w C
    exact part_on (wanted_free rfl _) (magg_does rfl (C.on (j := 6) (by kernel_rfl) rfl rfl) (C.on (j := 10) (by kernel_rfl) rfl rfl))
  case l5 =>
    intro a w C
    exact part_on (wanted_free rfl _) (mptr_does rfl (C.on (j := 11) (by kernel_rfl) rfl rfl))
  case l6 =>
    intro a w C
    exact part_on (wanted_free rfl _) (op_move (.inr rfl) (C.on (j := 12) (by kernel_rfl) rfl rfl))
  case fin =>
    rintro wF hbF v0 g0 v1 g1 v2 g2 v3 g3 v4 g4 v5 g5 v6 g6 _ rfl _ rfl _ rfl _ rfl v11 g11 v12 g12 v13 ⟨M', H', T', rfl, hm, hh⟩
    clear g0 g1 g2 g3 g4 g5 g6 g11 g12
    simp only [Fin, setAt, Exit.then, List.setIfInBounds_toArray, List.set_cons_succ, List.set_cons_zero]
    go_wp2
    go_ret
    exact ⟨M', rfl, ⟨H', O, _, _, _, _, hm, hh, HO.out wF hbF⟩, hbF⟩

set_option maxHeartbeats 1600000 in
theorem tag_any (w : World) (M : Nat) (K X : List UInt8) (h : MacIs w M K X) (hk : KAt w) (hlen : X.length ≤ 100000) :
    Calls Tryd.prog 29 #[.pointer (some ⟨M, 0, none⟩)] w fun e w' => e = .returned (.string (tx (tagL K X))) ∧ Below w.heap.size w w' := by
  obtain ⟨H, O, B, T, B2, T2, h1, h2, h3⟩ := h
  obtain ⟨N, hN⟩ : ∃ N, N = w.heap.size := ⟨_, rfl⟩
  obtain ⟨I, hI⟩ : ∃ I, I = inK K ++ X := ⟨_, rfl⟩
  obtain ⟨S, hS⟩ : ∃ S, S = shaL I := ⟨_, rfl⟩
  obtain ⟨Z, hZ⟩ : ∃ Z, Z = outK K := ⟨_, rfl⟩
  obtain ⟨Y, hY⟩ : ∃ Y, Y = Z ++ S := ⟨_, rfl⟩
  have hIl : I.length = 64 + X.length := by rw [hI, List.length_append, inK_length]
  have hZl : Z.length = 64 := by rw [hZ, outK_length]
  have hSl : S.length = 32 := by rw [hS, shaL_length]
  have hYl : Y.length = 96 := by rw [hY, List.length_append, hZl, hSl]
  have HT : Hid (tagL K X = shaL Y) := Lib.hid (by rw [hY, hS, hZ, hI]; rfl)
  rw [HT.out]
  rw [← hI] at h2
  rw [← hZ] at h3
  have KP := Lib.hid fun (w1 : World) (hb : Below w.heap.size w w1) => show (w1.cell? ⟨M, 0, none⟩ = some (.pointer (some ⟨H, 0, none⟩)) ∧ w1.cell? ⟨M, 1, none⟩ = some (.pointer (some ⟨O, 0, none⟩))) ∧
      (Calls Tryd.prog 42 #[.pointer (some ⟨O, 0, none⟩)] w1 fun e w' => ∃ x, e = .returned x ∧ HashP N Z x w' ∧ Below w1.heap.size w1 w') ∧
      Calls Tryd.prog 43 #[.pointer (some ⟨H, 0, none⟩)] w1 fun e w' => ∃ x, e = .returned x ∧ Is (.string (tx S)) x w' ∧ Below w1.heap.size w1 w' from by
    refine ⟨mac_cells ((hb.block M (Array.getElem?_eq_some_iff.1 h1).1).trans h1), (clone_any2 w1 B2 T2 O Z (h3.below hb)).mono ?_, (sumhash_any w1 B T H I (h2.below hb) (hk.next hb) (by omega)).mono ?_⟩
    · rintro e w' ⟨H', rfl, g1, g2⟩
      exact ⟨_, rfl, ⟨H', w'.heap.size, rfl, g1.mono (by rw [hN]; exact hb.size) (Nat.le_refl _) (Nat.le_refl _)⟩, g2⟩
    · rintro e w' ⟨rfl, g⟩
      exact ⟨_, rfl, by rw [hS]; rfl, g⟩
  have CADD := Lib.hid fun (w1 : World) (hb : Below w.heap.size w w1) (H' T' b : Nat) (g : HashIs w1 N T' H' Z) (gb : w1.heap[b]? = some (.cells #[.string (tx S)] 9 (0, 0))) =>
      show Calls Tryd.prog 36 #[.pointer (some ⟨H', 0, none⟩), .slice (some ⟨b, 0, none⟩) 1 1] w1 fun e w' => ∃ x, e = .returned x ∧ HashP N Y x w' ∧ Below w.heap.size w w' from by
    refine (addhash_any w1 N T' H' Z g (hk.next hb) (by rw [hN]; exact hk.1) (some ⟨b, 0, none⟩) 1 [tx S] (fun k hk => ?_) (by rw [jn_one, tl_tx]; omega) (by simp)).mono ?_
    · have hk0 : k = 0 := by simp [stv] at hk; omega
      subst hk0
      exact ⟨b, 0, rfl, (Array.getElem?_eq_some_iff.1 gb).1, .inr (.inr ⟨_, _, gb⟩), by rw [cell_of_row w1 b _ _ _ _ gb]; rfl⟩
    · rintro e w' ⟨rfl, g1, g2⟩
      rw [jn_one, tl_tx, ← hY] at g1
      exact ⟨_, rfl, ⟨H', w'.heap.size, rfl, g1⟩, hb.trans (by rw [← hN]; exact g2)⟩
  have CSUM := Lib.hid fun (w1 : World) (hb : Below w.heap.size w w1) (H' T' : Nat) (g : HashIs w1 N T' H' Y) =>
      show Calls Tryd.prog 43 #[.pointer (some ⟨H', 0, none⟩)] w1 fun e w' => ∃ x, e = .returned x ∧ Is (.string (tx (shaL Y))) x w' ∧ Below w1.heap.size w1 w' from by
    refine (sumhash_any w1 N T' H' Y g (hk.next hb) (by omega)).mono ?_
    rintro e w' ⟨rfl, g⟩
    exact ⟨_, rfl, rfl, g⟩
  have HN := Lib.hid hN
  clear h1 h2 h3 hlen hN hI hY hIl hk hS hZ hZl hSl hYl HT
  generalize shaL Y = D at *
  go_enter Tryd.func29, Tryd.ntmps29
  go_wp2
  refine wp_region_sway 11 [Is (.pointer (some ⟨M, 0, none⟩)), Is (.pointer (some ⟨M, 0, none⟩)), Is (.pointer (some ⟨M, 1, none⟩)), Is (.pointer (some ⟨O, 0, none⟩)), HashP N Z, Is (.pointer (some ⟨M, 0, none⟩)), Is (.pointer (some ⟨M, 0, none⟩)), Is (.pointer (some ⟨M, 0, none⟩)), Is (.pointer (some ⟨H, 0, none⟩)), Is (.string (tx S)), PartP N (tx S)] (HashP N Y) [] [Is (.string (tx D)), Is (.string (tx D))] (by kernel_rfl) (by kernel_rfl) (by kernel_rfl) rfl rfl (by decide) ⟨stable_is _, stable_is _, stable_is _, stable_is _, stable_hash _ _, stable_is _, stable_is _, stable_is _, stable_is _, stable_is _, stable_part _ _, trivial⟩ (stable_hash _ _) ⟨stable_is _, stable_is _, trivial⟩ ⟨?h0, ?h1, ?h2, ?h3, ?h4, ?h5, ?h6, ?h7, ?h8, ?h9, ?h10, trivial⟩ ?mid trivial ⟨?l0, ?l1, trivial⟩ ?fin
  case h0 =>
    intro a w C
    exact part_on (wanted_free rfl _) (op_move (.inl rfl) (C.was 0 (by kernel_rfl)))
  case h1 =>
    intro a w C
    exact part_on (wanted_free rfl _) (op_value (nil_run _ _ _ _ _ rfl (C.on (j := 0) (by kernel_rfl) rfl rfl)) rfl)
  case h2 =>
    intro a w C
    exact part_on (wanted_free rfl _) (op_value (macfield1_run _ _ _ _ _ rfl (C.on (j := 1) (by kernel_rfl) rfl rfl)) rfl)
  case h3 =>
    intro a w C
    exact part_on (wanted_free rfl _) (op_value (loadhash_run _ _ _ _ _ _ rfl (C.on (j := 2) (by kernel_rfl) rfl rfl) ((KP.out w C.below).1.2)) rfl)
  case h4 =>
    intro a w C
    exact part_on (wanted_free rfl _) (op_call1 rfl (reg_enters Tryd.func42 (by kernel_rfl) (by kernel_rfl)) (C.on (j := 3) (by kernel_rfl) rfl rfl) ((KP.out w C.below).2.1))
  case h5 =>
    intro a w C
    exact part_on (wanted_free rfl _) (op_move (.inl rfl) (C.was 0 (by kernel_rfl)))
  case h6 =>
    intro a w C
    exact part_on (wanted_free rfl _) (op_value (nil_run _ _ _ _ _ rfl (C.on (j := 5) (by kernel_rfl) rfl rfl)) rfl)
  case h7 =>
    intro a w C
    exact part_on (wanted_free rfl _) (op_value (macfield0_run _ _ _ _ _ rfl (C.on (j := 6) (by kernel_rfl) rfl rfl)) rfl)
  case h8 =>
    intro a w C
    exact part_on (wanted_free rfl _) (op_value (loadhash_run _ _ _ _ _ _ rfl (C.on (j := 7) (by kernel_rfl) rfl rfl) ((KP.out w C.below).1.1)) rfl)
  case h9 =>
    intro a w C
    exact part_on (wanted_free rfl _) (op_call1 rfl (reg_enters Tryd.func43 (by kernel_rfl) (by kernel_rfl)) (C.on (j := 8) (by kernel_rfl) rfl rfl) ((KP.out w C.below).2.2))
  case h10 =>
    intro a w C
    exact part_on (wanted_free rfl _) (slice_does (N := N) (by rw [HN.out]; exact C.below.size) rfl (C.on (j := 9) (by kernel_rfl) rfl rfl))
  case mid =>
    intro o ho a w C
    cases ho
    refine ⟨wanted_free rfl _, ?_⟩
    obtain ⟨H', T', e7, h7⟩ : HashP N Z _ _ := C.on (j := 4) (by kernel_rfl) rfl rfl
    obtain ⟨b, e14, hb14, hr14⟩ : PartP N (tx S) _ _ := C.on (j := 10) (by kernel_rfl) rfl rfl
    exact turns_call2 rfl (reg_enters Tryd.func36 (by kernel_rfl) (by kernel_rfl)) e7 e14 (CADD.out w C.below H' T' b h7 hr14)
  case l0 =>
    intro a w C
    obtain ⟨H', T', e7, h7⟩ : HashP N Y _ _ := C.on (j := 11) (by kernel_rfl) rfl rfl
    exact part_on (wanted_free rfl _) (op_call1 rfl (reg_enters Tryd.func43 (by kernel_rfl) (by kernel_rfl)) e7 (CSUM.out w C.below H' T' h7))
  case l1 =>
    intro a w C
    exact part_on (wanted_free rfl _) (op_move (.inr rfl) (C.on (j := 12) (by kernel_rfl) rfl rfl))
  case fin =>
    rintro wF hbF v0 g0 v1 g1 v2 g2 v3 g3 v4 g4 v5 g5 v6 g6 v7 g7 v8 g8 v9 g9 v10 g10 v11 g11 _ rfl _ rfl
    clear g0 g1 g2 g3 g4 g5 g6 g7 g8 g9 g10 g11
    simp only [Fin, setAt, Exit.then, List.setIfInBounds_toArray, List.set_cons_succ, List.set_cons_zero]
    go_wp2
    go_ret
    exact ⟨rfl, hbF⟩

theorem with_nil (A : Option Addr) (n c : Nat) (w : World) : Calls Tryd.prog 28 #[.pointer none, .slice A n c] w fun e w' => e = .returned (.pointer none) ∧ w = w' := by
  go_enter Tryd.func28, Tryd.ntmps28
  go_wp2
  go_ret
  exact ⟨rfl, rfl⟩
theorem tag_nil (w : World) : Calls Tryd.prog 29 #[.pointer none] w fun e w' => e = .returned (.string ⟨#[]⟩) ∧ w = w' := by
  go_enter Tryd.func29, Tryd.ntmps29
  go_wp2
  go_ret
  exact ⟨rfl, rfl⟩
theorem chain_nil (n : Int) (A : Option Addr) (m c : Nat) (w : World) : Calls Tryd.prog 19 #[.pointer none, .int .i64 n, .slice A m c] w fun e w' => e = .returned (.tuple #[.string ⟨#[]⟩, .string ⟨#[]⟩]) ∧ w = w' := by
  go_enter Tryd.func19, Tryd.ntmps19
  go_wp2
  go_ret2
  exact ⟨rfl, rfl⟩
end Go.Proofs.YtebocfbnamcnoaaDoor
