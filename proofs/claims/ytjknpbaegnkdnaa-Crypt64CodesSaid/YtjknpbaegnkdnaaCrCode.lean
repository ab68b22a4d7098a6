/- New, Join and Part of package crypt64 by their contracts. Conditions: those typed. -/
import Derived.Test.YtjknpbaegnkdnaaCrPure
import Derived.Test.YtjknpbaegnkdnaaReg
import Derived.StillTailTactics
import Derived.OwnWalk
namespace Go.Proofs.Ytjknpbaegnkdnaa
set_option maxRecDepth 50000
open Go.RowKit Sx

/-- a code at block d, its coder at block b -/
structure CrRow (w : World) (d b : Nat) : Prop where
  row : RowAt w d 40 #[.pointer (some ⟨b, 0, none⟩)]
  cod : Cdr w b (tl cryptS)
theorem CrRow.below {w w' : World} {d b : Nat} (h : CrRow w d b) (hb : Below w.heap.size w w') : CrRow w' d b := ⟨h.row.below hb h.row.lt, h.cod.below hb h.cod.lt⟩
theorem CrRow.cells {w : World} {d b : Nat} (h : CrRow w d b) : w.cell? ⟨d, 0, none⟩ = some (.pointer (some ⟨b, 0, none⟩)) := h.row.cell 0

theorem cnew_any (w : World) : Calls Try.prog 6 #[] w fun e w' => (∃ d b, e = .returned (.pointer (some ⟨d, 0, none⟩)) ∧ CrRow w' d b) ∧ Below w.heap.size w w' := by
  have CN := Lib.hid (new_good cryptS crypt_good)
  go_enter Try.func6, Try.ntmps6
  go_wp2_with fail
  refine (CN.out w).mono ?_
  rintro e w1 ⟨rfl, hC, hb⟩
  have HC := Lib.hid hC
  have B1 := Lib.hid hb
  clear hC hb
  go_wp2
  go_ret
  exact ⟨⟨_, _, rfl, RowAt.new _ _ _, HC.out.alloc _⟩, B1.out.alloc B1.out.size _⟩

theorem cjoin_nil (s t : ByteArray) (w : World) : Calls Try.prog 7 #[.pointer none, .string s, .string t] w fun e w' => e = .returned (.tuple #[.string ⟨#[]⟩, .int .i64 11]) ∧ w' = w := by
  go_enter Try.func7, Try.ntmps7
  go_wp2
  go_ret2
  exact ⟨rfl, rfl⟩
theorem cpart_nil (s : ByteArray) (w : World) : Calls Try.prog 9 #[.pointer none, .string s] w fun e w' => e = .returned (.tuple #[.string ⟨#[]⟩, .string ⟨#[]⟩, .int .i64 11]) ∧ w' = w := by
  go_enter Try.func9, Try.ntmps9
  go_wp2
  go_ret3
  exact ⟨rfl, rfl⟩

/-- a list of one text -/
def OneT (s : ByteArray) : Value → World → Prop := fun x w => ∃ A, x = .slice A 1 1 ∧ Reads w w.heap.size A (stv [s])
theorem stable_onet (s : ByteArray) : Stable (OneT s) := fun _ _ _ ⟨A, e, h⟩ hb => ⟨A, e, (h.below hb).more hb.size⟩
theorem onet_run {w : World} {s : ByteArray} {ev : Operand → Value} {x : Operand} {o : Oper} (hop : o.op = .buildSlice 50 1 #[(0, x)]) (hx : ev x = .string s) : (execOp ev o).run Try.prog w = .ok (.value (.slice (some ⟨w.heap.size, 0, none⟩) 1 1)) (w.alloc (.cells #[.string s] 9)) := by
  simp [execOp, hop, hx, go_sem]
theorem onet_does {s : ByteArray} {w : World} {o : Oper} {a : Act} {Q : Exit → Act → World → Prop} {x : Operand} (ho : o.op = .buildSlice 50 1 #[(0, x)]) (hx : a.eval x = .string s) : Does Try.prog (OneT s) o a w Q := by
  unfold Does Oper.wp
  rw [onet_run ho hx]
  exact ⟨_, rfl, ⟨_, rfl, one_text w s⟩, (Below.refl _ _).alloc (Nat.le_refl _) _⟩
theorem crnil_run {w : World} {d : Nat} {ev : Operand → Value} {x : Operand} {o : Oper} (hop : o.op = .nilCheck x) (hx : ev x = .pointer (some ⟨d, 0, none⟩)) : (execOp ev o).run Try.prog w = .ok (.value (.pointer (some ⟨d, 0, none⟩))) w := by
  simp [execOp, hop, hx, go_sem]
theorem crfield_run {w : World} {d : Nat} {ev : Operand → Value} {x : Operand} {o : Oper} (hop : o.op = .fieldAddr 40 x 0) (hx : ev x = .pointer (some ⟨d, 0, none⟩)) : (execOp ev o).run Try.prog w = .ok (.value (.pointer (some ⟨d, 0, none⟩))) w := by
  simp [execOp, hop, hx, go_sem]
theorem crload_run {w : World} {d : Nat} {v : Value} {ev : Operand → Value} {x : Operand} {o : Oper} (hop : o.op = .load 36 x) (hx : ev x = .pointer (some ⟨d, 0, none⟩)) (hc : w.cell? ⟨d, 0, none⟩ = some v) : (execOp ev o).run Try.prog w = .ok (.value v) w := by
  simp [execOp, hop, hx, hc, go_sem]

/-- how long a salt and a sum are: three ways -/
theorem jn_way (s t : ByteArray) : s.size ≠ 16 ∨ s.size = 16 ∧ t.size ≠ 23 ∨ s.size = 16 ∧ t.size = 23 := by omega

set_option maxHeartbeats 1600000 in
theorem cjoin_any (d b : Nat) (s t : ByteArray) (w : World) (hC : CrRow w d b) :
    Calls Try.prog 7 #[.pointer (some ⟨d, 0, none⟩), .string s, .string t] w fun e w' => e = .returned (.tuple #[.string (jnL s t), .int .i64 (jnE s t)]) ∧ Below w.heap.size w w' := by
  by_cases hb : s.size = 16 ∧ t.size = 23
  case neg =>
    obtain ⟨hE, hL⟩ := jn_bad hb
    have HE := Lib.hid hE
    have HL := Lib.hid hL
    have hh : ((s.size : Int) == 16) = false ∧ ((s.size : Int) != 16) = true ∨ ((s.size : Int) == 16) = true ∧ ((s.size : Int) != 16) = false ∧ ((t.size : Int) == 23) = false ∧ ((t.size : Int) != 23) = true := by simp; omega
    clear hE hL hb hC
    rcases hh with ⟨d0, d1⟩ | ⟨d0, d1, d2, d3⟩
    all_goals
      go_enter Try.func7, Try.ntmps7
      go_wp2
      go_ret2
      exact ⟨by rw [HE.out, HL.out]; rfl, Below.refl _ _⟩
  obtain ⟨hE, hL⟩ := jn_good hb.1 hb.2
  have HE := Lib.hid hE
  have HL := Lib.hid hL
  have HC := Lib.hid hC
  have d0 : ((s.size : Int) == 16) = true := by simp; omega
  have d1 : ((s.size : Int) != 16) = false := by simp; omega
  have d2 : ((t.size : Int) == 23) = true := by simp; omega
  have d3 : ((t.size : Int) != 23) = false := by simp; omega
  have z1 : (tx (enc (tl cryptS) (tl s))).size = 22 := by rw [tx_size, enc_length, tl_length, hb.1]; rfl
  have z2 : (tx (enc (tl cryptS) (tl t))).size = 31 := by rw [tx_size, enc_length, tl_length, hb.2]; rfl
  have C1 : Hid (∀ (A : Option Addr) (w : World), Cdr w b (tl cryptS) → Reads w w.heap.size A (stv [s]) → Calls Try.prog 12 #[.pointer (some ⟨b, 0, none⟩), .slice A 1 1] w fun e w' => ∃ v, e = .returned v ∧ Is (.string (tx (enc (tl cryptS) (tl s)))) v w' ∧ Below w.heap.size w w') := Lib.hid fun A w hC hr => by
    refine (encode_any b (tl cryptS) A 1 [s] (by simp) w hC hr (by rw [jn_one, tl_length]; omega)).mono ?_
    rintro e w' ⟨rfl, hb⟩
    exact ⟨_, rfl, by rw [jn_one]; rfl, hb⟩
  have C2 : Hid (∀ (A : Option Addr) (w : World), Cdr w b (tl cryptS) → Reads w w.heap.size A (stv [t]) → Calls Try.prog 12 #[.pointer (some ⟨b, 0, none⟩), .slice A 1 1] w fun e w' => ∃ v, e = .returned v ∧ Is (.string (tx (enc (tl cryptS) (tl t)))) v w' ∧ Below w.heap.size w w') := Lib.hid fun A w hC hr => by
    refine (encode_any b (tl cryptS) A 1 [t] (by simp) w hC hr (by rw [jn_one, tl_length]; omega)).mono ?_
    rintro e w' ⟨rfl, hb⟩
    exact ⟨_, rfl, by rw [jn_one]; rfl, hb⟩
  have HA : Hid (∀ w : World, (binOp .add 9 (.string (tx (enc (tl cryptS) (tl s)))) (.string (tx (enc (tl cryptS) (tl t))))).run Try.prog w = .ok (.string (tx (enc (tl cryptS) (tl s)) ++ tx (enc (tl cryptS) (tl t)))) w) := Lib.hid fun w => by simp [go_sem]; omega
  clear hE hL z1 z2 hC
  generalize tx (enc (tl cryptS) (tl s)) = E1 at *
  generalize tx (enc (tl cryptS) (tl t)) = E2 at *
  go_enter Try.func7, Try.ntmps7
  go_wp2_with fail
  refine wp_region_text [Is (.pointer (some ⟨d, 0, none⟩)), Is (.pointer (some ⟨d, 0, none⟩)), Is (.pointer (some ⟨d, 0, none⟩)), Is (.pointer (some ⟨b, 0, none⟩)), Is (.string s), OneT s, Is (.string E1), Is (.pointer (some ⟨d, 0, none⟩)), Is (.pointer (some ⟨d, 0, none⟩)), Is (.pointer (some ⟨d, 0, none⟩)), Is (.pointer (some ⟨b, 0, none⟩)), Is (.string t), OneT t, Is (.string E2), Is (.string (E1 ++ E2)), Is (.string (E1 ++ E2)), Is (.int .i64 0)] (by kernel_rfl) (by kernel_rfl) rfl ⟨stable_is _, stable_is _, stable_is _, stable_is _, stable_is _, stable_onet _, stable_is _, stable_is _, stable_is _, stable_is _, stable_is _, stable_is _, stable_onet _, stable_is _, stable_is _, stable_is _, stable_is _, trivial⟩ ⟨?_, ?_, ?_, ?_, ?_, ?_, ?_, ?_, ?_, ?_, ?_, ?_, ?_, ?_, ?_, ?_, ?_, trivial⟩ ?_
  · intro a w C
    exact part_on (wanted_free rfl _) (op_move (.inl rfl) (C.was 0 (by kernel_rfl)))
  · intro a w C
    exact part_on (wanted_free rfl _) (op_value (crnil_run rfl (C.on (j := 0) (by kernel_rfl) rfl rfl)) rfl)
  · intro a w C
    exact part_on (wanted_free rfl _) (op_value (crfield_run rfl (C.on (j := 1) (by kernel_rfl) rfl rfl)) rfl)
  · intro a w C
    exact part_on (wanted_free rfl _) (op_value (crload_run rfl (C.on (j := 2) (by kernel_rfl) rfl rfl) ((HC.out.below C.below).cells)) rfl)
  · intro a w C
    exact part_on (wanted_free rfl _) (op_move (.inl rfl) (C.was 1 (by kernel_rfl)))
  · intro a w C
    exact part_on (wanted_free rfl _) (onet_does rfl (C.on (j := 4) (by kernel_rfl) rfl rfl))
  · intro a w C
    obtain ⟨A, e0, h0⟩ : OneT s _ _ := (C.on (j := 5) (by kernel_rfl) rfl rfl)
    exact part_on (wanted_free rfl _) (op_call2 rfl (reg_enters Try.func12 (by kernel_rfl) (by kernel_rfl)) (C.on (j := 3) (by kernel_rfl) rfl rfl) e0 (C1.out A w (HC.out.below C.below).cod h0))
  · intro a w C
    exact part_on (wanted_free rfl _) (op_move (.inl rfl) (C.was 0 (by kernel_rfl)))
  · intro a w C
    exact part_on (wanted_free rfl _) (op_value (crnil_run rfl (C.on (j := 7) (by kernel_rfl) rfl rfl)) rfl)
  · intro a w C
    exact part_on (wanted_free rfl _) (op_value (crfield_run rfl (C.on (j := 8) (by kernel_rfl) rfl rfl)) rfl)
  · intro a w C
    exact part_on (wanted_free rfl _) (op_value (crload_run rfl (C.on (j := 9) (by kernel_rfl) rfl rfl) ((HC.out.below C.below).cells)) rfl)
  · intro a w C
    exact part_on (wanted_free rfl _) (op_move (.inl rfl) (C.was 2 (by kernel_rfl)))
  · intro a w C
    exact part_on (wanted_free rfl _) (onet_does rfl (C.on (j := 11) (by kernel_rfl) rfl rfl))
  · intro a w C
    obtain ⟨A, e0, h0⟩ : OneT t _ _ := (C.on (j := 12) (by kernel_rfl) rfl rfl)
    exact part_on (wanted_free rfl _) (op_call2 rfl (reg_enters Try.func12 (by kernel_rfl) (by kernel_rfl)) (C.on (j := 10) (by kernel_rfl) rfl rfl) e0 (C2.out A w (HC.out.below C.below).cod h0))
  · intro a w C
    exact part_on (wanted_free rfl _) (op_bin rfl (C.on (j := 6) (by kernel_rfl) rfl rfl) (C.on (j := 13) (by kernel_rfl) rfl rfl) rfl (HA.out w) rfl)
  · intro a w C
    exact part_on (wanted_free rfl _) (op_move (.inr rfl) (C.on (j := 14) (by kernel_rfl) rfl rfl))
  · intro a w C
    exact part_on (wanted_free rfl _) (op_move (.inr rfl) rfl)
  rintro wF hbF _ rfl _ rfl _ rfl _ rfl _ rfl x23 hx23 _ rfl _ rfl _ rfl _ rfl _ rfl _ rfl x30 hx30 _ rfl _ rfl _ rfl _ rfl
  simp only [Fin, setAt, Exit.then, List.setIfInBounds_toArray, List.set_cons_succ, List.set_cons_zero]
  go_wp2
  go_ret2
  exact ⟨by rw [HE.out, HL.out]; rfl, hbF⟩
end Go.Proofs.Ytjknpbaegnkdnaa
