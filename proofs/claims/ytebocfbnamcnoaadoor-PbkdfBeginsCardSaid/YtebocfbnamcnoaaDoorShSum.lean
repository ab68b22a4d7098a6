/- Sum and Of of package sha by their contracts: the sum of all that came. Conditions: those typed. -/
import Derived.Test.YtebocfbnamcnoaaDoorShAdd
import Derived.Test.YtebocfbnamcnoaaDoorSmall
namespace Go.Proofs.YtebocfbnamcnoaaDoor
set_option maxRecDepth 50000
open Go.RowKit Sha

/-- the first k blocks -/
def blocksOf : Nat → List UInt8 → List (List UInt8)
  | 0, _ => []
  | k + 1, Y => Y.take 64 :: blocksOf k (Y.drop 64)
theorem blocks_cut : ∀ (k : Nat) (Y : List UInt8), Y.length = k * 64 → Cut 64 false Y (blocksOf k Y) []
  | 0, Y, h => by
    have : Y = [] := List.eq_nil_of_length_eq_zero (by omega)
    subst this
    exact Cut.nothing ⟨by simp, by simp⟩
  | k + 1, Y, h => by
    have c := blocks_cut k (Y.drop 64) (by rw [List.length_drop]; omega)
    refine ⟨?_, ?_, c.held, fun l => by cases l⟩
    · have hw := c.whole
      rw [List.append_nil] at hw ⊢
      rw [blocksOf, List.flatten_cons, ← hw, List.take_append_drop]
    · intro b hb
      rcases List.mem_cons.1 hb with rfl | hb
      · rw [List.length_take]; omega
      · exact c.each b hb
/-- the state's words as bytes -/
def outL (st : List Nat) : List UInt8 := bytesL (st.flatMap (bytesOf (downs 4) 4))
/-- the sum of these bytes -/
def shaL (X : List UInt8) : List UInt8 := outL (stOf (blocksOf ((X ++ padL X.length).length / 64) (X ++ padL X.length)))
theorem flat4_lt (st : List Nat) : ∀ x ∈ st.flatMap (bytesOf (downs 4) 4), x < 256 := by
  intro x hx
  obtain ⟨y, _, hy⟩ := List.mem_flatMap.1 hx
  exact bytesOf_lt _ _ _ x hy
theorem state_all {X l : List UInt8} {bs : List (List UInt8)} (h : Cut 64 false (X ++ padL X.length) bs l) : outL (stOf bs) = shaL X := by
  have hm : (X ++ padL X.length).length % 64 = 0 := by rw [List.length_append]; exact pad_whole _
  have c := blocks_cut ((X ++ padL X.length).length / 64) (X ++ padL X.length) (by omega)
  obtain ⟨rfl, _⟩ := cut_one h c
  rfl

/-- a list of one text that was just made -/
def PartP (N : Nat) (s : ByteArray) : Value → World → Prop := fun x w => ∃ b, x = .slice (some ⟨b, 0, none⟩) 1 1 ∧ N ≤ b ∧ w.heap[b]? = some (.cells #[.string s] 9 (0, 0))
theorem stable_part (N : Nat) (s : ByteArray) : Stable (PartP N s) := fun _ _ _ ⟨b, e, h, h2⟩ hb => ⟨b, e, h, (hb.block b (Array.getElem?_eq_some_iff.1 h2).1).trans h2⟩
theorem slice_run (w : World) (s : ByteArray) (ev : Operand → Value) (x : Operand) (o : Oper) (hop : o.op = .buildSlice 42 1 #[(0, x)]) (hx : ev x = .string s) :
    (execOp ev o).run Tryd.prog w = .ok (.value (.slice (some ⟨w.heap.size, 0, none⟩) 1 1)) (w.alloc (.cells #[.string s] 9)) := by
  simp [execOp, hop, hx, go_sem]
theorem slice_does {N : Nat} {s : ByteArray} {w : World} {o : Oper} {a : Act} {Q : Exit → Act → World → Prop} {x : Operand} (hN : N ≤ w.heap.size) (ho : o.op = .buildSlice 42 1 #[(0, x)]) (hx : a.eval x = .string s) : Does Tryd.prog (PartP N s) o a w Q := by
  unfold Does Oper.wp
  rw [slice_run w s _ _ _ ho hx]
  exact ⟨_, rfl, ⟨w.heap.size, rfl, hN, heap_alloc_last w _⟩, (Below.refl _ _).alloc (Nat.le_refl _) _⟩
theorem turns_call2 {P : Program} {p : Value → World → Prop} {o : Oper} {a : Act} {w0 w : World} {Q : Exit → Act → World → Prop} {f : FuncId} {x y : Operand} {ts : Array TypeId} {v1 v2 : Value} (ho : o.op = .call { callee := .value (.func f), args := #[x, y], argTypes := ts }) (he : ∀ (args : Array Value) (w : World), (callFunc f args).run P w = .ok (.enter f args) w)
    (hx : a.eval x = v1) (hy : a.eval y = v2) (hc : Calls P f #[v1, v2] w fun e w' => ∃ v, e = .returned v ∧ p v w' ∧ Below w0.heap.size w0 w') : Turns P p o a w0 w Q := by
  subst hx; subst hy
  unfold Turns Oper.wp
  have h : (execOp a.eval o).run P w = .ok (.enter f #[a.eval x, a.eval y]) w := by
    simp [execOp, ho, resolve, Deferred.ofValue, Act.eval, invoke, he]
  rw [h]
  refine hc.mono ?_
  rintro e w' ⟨v, rfl, h1, h2⟩
  exact ⟨v, rfl, h1, h2⟩
theorem HRow.reads {w : World} {H F : Nat} {st : List Nat} (h : HRow w H F st) : Reads w w.heap.size (some ⟨H, 1, none⟩) (u32s st) := fun k hk => by
  refine ⟨H, 1, rfl, h.lt, ?_⟩
  rw [cell_of_row w H (1 + k) _ _ _ h, Nat.add_comm 1 k]
  simp [List.getElem?_eq_getElem hk]

set_option maxHeartbeats 1600000 in
theorem sumhash_any (w : World) (B T H : Nat) (X : List UInt8) (h : HashIs w B T H X) (hk : KAt w) (hX : X.length ≤ 900000) :
    Calls Tryd.prog 43 #[.pointer (some ⟨H, 0, none⟩)] w fun e w' => e = .returned (.string (tx (shaL X))) ∧ Below w.heap.size w w' := by
  have hh := h
  obtain ⟨F, v, l, bs, h1, h2, h3, h4, h5, h6, h7, h8, h9, h10, h11⟩ := h.ex
  obtain ⟨N, hN⟩ : ∃ N, N = w.heap.size := ⟨_, rfl⟩
  obtain ⟨Y, hY⟩ : ∃ Y, Y = X ++ padL X.length := ⟨_, rfl⟩
  have hpl : (padL X.length).length ≤ 100 := by rw [padL_length]; unfold room; omega
  have KP := Lib.hid fun (w1 : World) (hb : Below w.heap.size w w1) => show w1.cell? ⟨H, 0, none⟩ = some (.pointer (some ⟨F, 0, none⟩)) ∧
      (Calls Tryd.prog 42 #[.pointer (some ⟨H, 0, none⟩)] w1 fun e w' => ∃ x, e = .returned x ∧ HashP N X x w' ∧ Below w1.heap.size w1 w') ∧
      Calls Tryd.prog 57 #[.pointer (some ⟨F, 0, none⟩)] w1 fun e w' => ∃ x, e = .returned x ∧ Is (.int .i64 (X.length : Int)) x w' ∧ Below w1.heap.size w1 w' from by
    have k1 : HRow w1 H F (stOf bs) := h1.keep (Kept.of_below (M := fun _ => False) hb) id
    refine ⟨k1.at_, (clone_any2 w1 B T H X (hh.below hb)).mono ?_, (total_any w1 (h2.below hb)).mono ?_⟩
    · rintro e w' ⟨H', rfl, g1, g2⟩
      exact ⟨_, rfl, ⟨H', w'.heap.size, rfl, g1.mono (by rw [hN]; exact hb.size) (Nat.le_refl _) (Nat.le_refl _)⟩, g2⟩
    · rintro e w' ⟨rfl, rfl⟩
      exact ⟨_, rfl, rfl, Below.refl _ _⟩
  have CPAD := Lib.hid fun (w1 : World) => show Calls Tryd.prog 56 #[.int .i64 (X.length : Int)] w1 fun e w' => ∃ x, e = .returned x ∧ Is (.string (tx (padL X.length))) x w' ∧ Below w1.heap.size w1 w' from by
    refine (pad_any X.length (by omega) w1).mono ?_
    rintro e w' ⟨rfl, g⟩
    exact ⟨_, rfl, rfl, g⟩
  have CADD := Lib.hid fun (w1 : World) (hb : Below w.heap.size w w1) (H' T' b : Nat) (g : HashIs w1 N T' H' X) (gb : w1.heap[b]? = some (.cells #[.string (tx (padL X.length))] 9 (0, 0))) =>
      show Calls Tryd.prog 36 #[.pointer (some ⟨H', 0, none⟩), .slice (some ⟨b, 0, none⟩) 1 1] w1 fun e w' => ∃ x, e = .returned x ∧ HashP N Y x w' ∧ Below w.heap.size w w' from by
    refine (addhash_any w1 N T' H' X g (hk.next hb) (by rw [hN]; exact hk.1) (some ⟨b, 0, none⟩) 1 [tx (padL X.length)] (fun k hk => ?_) (by rw [jn_one, tl_tx]; omega) (by simp)).mono ?_
    · have hk0 : k = 0 := by simp [stv] at hk; omega
      subst hk0
      exact ⟨b, 0, rfl, (Array.getElem?_eq_some_iff.1 gb).1, .inr (.inr ⟨_, _, gb⟩), by rw [cell_of_row w1 b _ _ _ _ gb]; rfl⟩
    · rintro e w' ⟨rfl, g1, g2⟩
      rw [jn_one, tl_tx, ← hY] at g1
      exact ⟨_, rfl, ⟨H', w'.heap.size, rfl, g1⟩, hb.trans (by rw [← hN]; exact g2)⟩
  have HY := Lib.hid hY
  have HN := Lib.hid hN
  clear h hh h1 h2 h3 h4 h5 h6 h7 h8 h9 h10 h11 hN hY hpl hX
  go_enter Tryd.func43, Tryd.ntmps43
  go_wp2
  refine wp_region_tail 9 [Is (.pointer (some ⟨H, 0, none⟩)), HashP N X, Is (.pointer (some ⟨H, 0, none⟩)), Is (.pointer (some ⟨H, 0, none⟩)), Is (.pointer (some ⟨H, 0, none⟩)), Is (.pointer (some ⟨F, 0, none⟩)), Is (.int .i64 (X.length : Int)), Is (.string (tx (padL X.length))), PartP N (tx (padL X.length))] [HashP N Y, HashP N Y] (by kernel_rfl) (by kernel_rfl) (by kernel_rfl) rfl rfl (by decide) ⟨stable_is _, stable_hash _ _, stable_is _, stable_is _, stable_is _, stable_is _, stable_is _, stable_is _, stable_part _ _, trivial⟩ ⟨stable_hash _ _, stable_hash _ _, trivial⟩ ⟨?h0, ?h1, ?h2, ?h3, ?h4, ?h5, ?h6, ?h7, ?h8, trivial⟩ ?mid ⟨?l0, trivial⟩ ?fin
  case h0 =>
    intro a w C
    exact part_on (wanted_free rfl _) (op_move (.inl rfl) (C.was 0 (by kernel_rfl)))
  case h1 =>
    intro a w C
    exact part_on (wanted_free rfl _) (op_call1 rfl (reg_enters Tryd.func42 (by kernel_rfl) (by kernel_rfl)) (C.on (j := 0) (by kernel_rfl) rfl rfl) ((KP.out w C.below).2.1))
  case h2 =>
    intro a w C
    exact part_on (wanted_free rfl _) (op_move (.inl rfl) (C.was 0 (by kernel_rfl)))
  case h3 =>
    intro a w C
    exact part_on (wanted_free rfl _) (op_value (nil_run _ _ _ _ _ rfl (C.on (j := 2) (by kernel_rfl) rfl rfl)) rfl)
  case h4 =>
    intro a w C
    exact part_on (wanted_free rfl _) (op_value (field0_run _ _ _ _ _ rfl (C.on (j := 3) (by kernel_rfl) rfl rfl)) rfl)
  case h5 =>
    intro a w C
    exact part_on (wanted_free rfl _) (op_value (loadptr_run _ _ F _ _ _ rfl (C.on (j := 4) (by kernel_rfl) rfl rfl) ((KP.out w C.below).1)) rfl)
  case h6 =>
    intro a w C
    exact part_on (wanted_free rfl _) (op_call1 rfl (reg_enters Tryd.func57 (by kernel_rfl) (by kernel_rfl)) (C.on (j := 5) (by kernel_rfl) rfl rfl) ((KP.out w C.below).2.2))
  case h7 =>
    intro a w C
    exact part_on (wanted_free rfl _) (op_call1 rfl (reg_enters Tryd.func56 (by kernel_rfl) (by kernel_rfl)) (C.on (j := 6) (by kernel_rfl) rfl rfl) ((CPAD.out w)))
  case h8 =>
    intro a w C
    exact part_on (wanted_free rfl _) (slice_does (N := N) (by rw [HN.out]; exact C.below.size) rfl (C.on (j := 7) (by kernel_rfl) rfl rfl))
  case mid =>
    intro o ho a w C
    cases ho
    refine ⟨wanted_free rfl _, ?_⟩
    obtain ⟨H', T', e7, h7⟩ : HashP N X _ _ := C.on (j := 1) (by kernel_rfl) rfl rfl
    obtain ⟨b, e14, hb14, hr14⟩ : PartP N (tx (padL X.length)) _ _ := C.on (j := 8) (by kernel_rfl) rfl rfl
    exact turns_call2 rfl (reg_enters Tryd.func36 (by kernel_rfl) (by kernel_rfl)) e7 e14 (CADD.out w C.below H' T' b h7 hr14)
  case l0 =>
    intro a w C
    exact part_on (wanted_free rfl _) (op_move (.inr rfl) (C.on (j := 9) (by kernel_rfl) rfl rfl))
  case fin =>
    rintro wF hbF v6 g6 v7 g7 v8 g8 v9 g9 v10 g10 v11 g11 v12 g12 v13 g13 v14 g14 v15 g15 v3 ⟨H', T', rfl, hh⟩
    clear g6 g7 g8 g9 g10 g11 g12 g13 g14 g15
    simp only [Fin, setAt, Exit.then, List.setIfInBounds_toArray, List.set_cons_succ, List.set_cons_zero]
    obtain ⟨F', v', l', bs', k1, k2, k3, k4, k5⟩ := hh.ex
    have CB := Lib.hid (big32_any (some ⟨H', 1, none⟩) 8 (stOf bs') wF k1.reads (by rw [(stOf_ok bs').1]; omega) (fun x hx => (stOf_ok bs').2 x hx))
    rw [(stOf_ok bs').1] at CB
    have HE := Lib.hid (state_all (HY.out ▸ k4))
    have HBF := Lib.hid hbF
    clear k1 k2 k3 k4 k5 hh hbF
    go_wp2_with fail
    refine CB.out.mono ?_
    rintro e w2 ⟨v, rfl, hown, hb⟩
    have e1 : u8s ((stOf bs').flatMap (bytesOf (downs 4) 4)) = cs (outL (stOf bs')) := (cs_bytesL _ (flat4_lt _)).symm
    rw [e1, HE.out] at hown
    have hcv := conv_text w2 hown
    have HB := Lib.hid hb
    clear hown hb e1
    go_wp2
    go_ret
    exact ⟨rfl, below_step HBF.out HB.out⟩
end Go.Proofs.YtebocfbnamcnoaaDoor
