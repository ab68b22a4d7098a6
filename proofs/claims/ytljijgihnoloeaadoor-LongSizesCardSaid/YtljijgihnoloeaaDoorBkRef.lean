/- The document's Round and Quarter by their contracts. Conditions: those typed. -/
import Derived.Test.YtljijgihnoloeaaDoorBkWords
import Derived.Deep.QuietTactic
namespace Go.Proofs.YtljijgihnoloeaaDoor
set_option maxRecDepth 50000
open Go.RowKit Rot Bl

theorem rotl_round (x s L H : Nat) (hs : s ≤ 64) (hL : 2 ^ (64 - s) = L) (hH : 2 ^ s = H) (hx : x < 18446744073709551616) : x / L + x % L * H = rotl 64 x s ∧ x % L * H < 18446744073709551616 := by
  subst hL; subst hH
  refine ⟨by rw [rotl_split 64 x s hs hx, Nat.add_comm], ?_⟩
  have h := Nat.mod_lt x (show 0 < 2 ^ (64 - s) from Nat.two_pow_pos _)
  calc x % 2 ^ (64 - s) * 2 ^ s < 2 ^ (64 - s) * 2 ^ s := Nat.mul_lt_mul_of_pos_right h (Nat.two_pow_pos _)
    _ = 18446744073709551616 := by rw [← Nat.pow_add, show 64 - s + s = 64 by omega]
set_option maxHeartbeats 800000 in
theorem round_any (x s L H : Nat) (hs : s ≤ 64) (hL : 2 ^ (64 - s) = L) (hH : 2 ^ s = H) (hx : x < 18446744073709551616) (w : World) :
    Calls Tryd.prog 50 #[.int .u64 (x : Int), .int .u64 (L : Int), .int .u64 (H : Int)] w fun e w' => e = .returned (.int .u64 (rotl 64 x s : Nat)) ∧ Below w.heap.size w w' := by
  obtain ⟨h1, h2⟩ := rotl_round x s L H hs hL hH hx
  have hr := rotl_lt64 x s hs hx
  have hL0 : 0 < L := by rw [← hL]; exact Nat.two_pow_pos _
  have q1 : (x : Int) / (L : Int) = ((x / L : Nat) : Int) := by simp
  have q2 : (x : Int).tmod (L : Int) = ((x % L : Nat) : Int) := by simp [Int.tmod_eq_emod_of_nonneg]
  have q2' : (x : Int) % (L : Int) = ((x % L : Nat) : Int) := by simp
  have q3 : IntKind.u64.wrap (((x % L : Nat) : Int) * (H : Int)) = ((x % L * H : Nat) : Int) := by
    rw [← u64_in _ h2]; simp
  have q0 := u64_in (x / L) (Nat.lt_of_le_of_lt (Nat.div_le_self _ _) hx)
  have q4 : IntKind.u64.wrap (((x / L : Nat) : Int) + ((x % L * H : Nat) : Int)) = ((rotl 64 x s : Nat) : Int) := by
    rw [wadd, ← h1]; unfold Bl.add; rw [h1, Nat.mod_eq_of_lt hr]
  generalize x % L * H = p at *
  generalize x % L = r at *
  generalize x / L = q at *
  generalize rotl 64 x s = v at *
  clear h1 h2 hr hL hH hs
  have hne : ¬ (L : Int) = 0 := by omega
  go_enter Tryd.func50, Tryd.ntmps50
  go_wp2
  go_quiet (fail)
  go_wp2
  go_ret
  exact ⟨rfl, below_drewN (Below.refl _ w) nq⟩

theorem round_a (x : Nat) (hx : x < 18446744073709551616) (w : World) : Calls Tryd.prog 50 #[.int .u64 (x : Int), .int .u64 4294967296, .int .u64 4294967296] w fun e w' => e = .returned (.int .u64 (rotl 64 x 32 : Nat)) ∧ Below w.heap.size w w' := by
  have h := round_any x 32 4294967296 4294967296 (by decide) (by decide) (by decide) hx w
  exact h
theorem round_b (x : Nat) (hx : x < 18446744073709551616) (w : World) : Calls Tryd.prog 50 #[.int .u64 (x : Int), .int .u64 16777216, .int .u64 1099511627776] w fun e w' => e = .returned (.int .u64 (rotl 64 x 40 : Nat)) ∧ Below w.heap.size w w' := by
  have h := round_any x 40 16777216 1099511627776 (by decide) (by decide) (by decide) hx w
  exact h
theorem round_c (x : Nat) (hx : x < 18446744073709551616) (w : World) : Calls Tryd.prog 50 #[.int .u64 (x : Int), .int .u64 65536, .int .u64 281474976710656] w fun e w' => e = .returned (.int .u64 (rotl 64 x 48 : Nat)) ∧ Below w.heap.size w w' := by
  have h := round_any x 48 65536 281474976710656 (by decide) (by decide) (by decide) hx w
  exact h
theorem round_d (x : Nat) (hx : x < 18446744073709551616) (w : World) : Calls Tryd.prog 50 #[.int .u64 (x : Int), .int .u64 9223372036854775808, .int .u64 2] w fun e w' => e = .returned (.int .u64 (rotl 64 x 1 : Nat)) ∧ Below w.heap.size w w' := by
  have h := round_any x 1 9223372036854775808 2 (by decide) (by decide) (by decide) hx w
  exact h
theorem wq4 (a b c d : Nat) : (wq [a, b, c, d]).size = 4 := rfl
/-- four words in a row -/
def Four (w : World) (B : Nat) (a b c d : Nat) : Prop := RowAt w B 84 (wq [a, b, c, d])
theorem Four.facts {w : World} {B a b c d : Nat} (h : Four w B a b c d) : (w.cell? ⟨B, 0, none⟩ = some (.int .u64 (a : Int)) ∧ w.cell? ⟨B, 1, none⟩ = some (.int .u64 (b : Int)) ∧ w.cell? ⟨B, 2, none⟩ = some (.int .u64 (c : Int)) ∧ w.cell? ⟨B, 3, none⟩ = some (.int .u64 (d : Int))) ∧
    w.frozen? ⟨B, 0, none⟩ = false ∧ w.frozen? ⟨B, 1, none⟩ = false ∧ w.frozen? ⟨B, 2, none⟩ = false ∧ w.frozen? ⟨B, 3, none⟩ = false :=
  ⟨⟨(RowAt.cell h 0).trans rfl, (RowAt.cell h 1).trans rfl, (RowAt.cell h 2).trans rfl, (RowAt.cell h 3).trans rfl⟩, RowAt.frozen h 0, RowAt.frozen h 1, RowAt.frozen h 2, RowAt.frozen h 3⟩
theorem Four.s0 {w : World} {B a b c d : Nat} (h : Four w B a b c d) (x : Nat) : Four (w.setCell ⟨B, 0, none⟩ (.int .u64 (x : Int))) B x b c d := RowAt.setCell h 0 _
theorem Four.s1 {w : World} {B a b c d : Nat} (h : Four w B a b c d) (x : Nat) : Four (w.setCell ⟨B, 1, none⟩ (.int .u64 (x : Int))) B a x c d := RowAt.setCell h 1 _
theorem Four.s2 {w : World} {B a b c d : Nat} (h : Four w B a b c d) (x : Nat) : Four (w.setCell ⟨B, 2, none⟩ (.int .u64 (x : Int))) B a b x d := RowAt.setCell h 2 _
theorem Four.s3 {w : World} {B a b c d : Nat} (h : Four w B a b c d) (x : Nat) : Four (w.setCell ⟨B, 3, none⟩ (.int .u64 (x : Int))) B a b c x := RowAt.setCell h 3 _
theorem Four.below {w w' : World} {B T a b c d : Nat} (h : Four w B a b c d) (hb : Below T w w') (hB : B < T) : Four w' B a b c d := RowAt.below h hb hB
theorem Four.other {w : World} {B a b c d : Nat} (h : Four w B a b c d) (p : Addr) (hp : p.block ≠ B) (v : Value) : Four (w.setCell p v) B a b c d := RowAt.setOther h p hp v

set_option maxHeartbeats 1600000 in
theorem rquarter_any (q : Q) (hq : q.ok) (x y : Nat) (w : World) :
    Calls Tryd.prog 39 #[.agg (wq [q.a, q.b, q.c, q.d]), .int .u64 (x : Int), .int .u64 (y : Int)] w fun e w' =>
      e = .returned (.agg (wq [(quarter q x y).a, (quarter q x y).b, (quarter q x y).c, (quarter q x y).d])) ∧ Below w.heap.size w w' := by
  obtain ⟨a, b, c, d⟩ := q
  obtain ⟨ha, hb, hc, hd⟩ := hq
  simp only at ha hb hc hd
  have e1 := wadd a b
  have e2 := wadd (add a b) x
  have es : ∀ a b x : Nat, add (add a b) x = add a (add b x) := fun a b x => by unfold Bl.add; omega
  rw [es] at e2
  have l2 := Bl.add_lt a (add b x)
  have E : Hid ((quarter ⟨a, b, c, d⟩ x y) = half (half ⟨a, b, c, d⟩ x 32 40) y 48 1) := Lib.hid rfl
  have E1 : Hid (half ⟨a, b, c, d⟩ x 32 40 = ⟨add a (add b x), rotl 64 (b ^^^ add c (rotl 64 (d ^^^ add a (add b x)) 32)) 40, add c (rotl 64 (d ^^^ add a (add b x)) 32), rotl 64 (d ^^^ add a (add b x)) 32⟩) := Lib.hid rfl
  generalize add a (add b x) = a1 at *
  generalize add a b = s1 at *
  have e3 := xor64 d a1 hd l2
  have l3 := xor_lt64 d a1 hd l2
  generalize d ^^^ a1 = z1 at *
  have R1 := Lib.hid fun w => round_a z1 l3 w
  have l4 := rotl_lt64 z1 32 (by decide) l3
  generalize rotl 64 z1 32 = d1 at *
  have e5 := wadd c d1
  have l5 := Bl.add_lt c d1
  generalize add c d1 = c1 at *
  have e6 := xor64 b c1 hb l5
  have l6 := xor_lt64 b c1 hb l5
  generalize b ^^^ c1 = z2 at *
  have R2 := Lib.hid fun w => round_b z2 l6 w
  have l7 := rotl_lt64 z2 40 (by decide) l6
  generalize rotl 64 z2 40 = b1 at *
  rw [E1.out] at E
  clear E1
  have F1 : Hid (half ⟨a1, b1, c1, d1⟩ y 48 1 = ⟨add a1 (add b1 y), rotl 64 (b1 ^^^ add c1 (rotl 64 (d1 ^^^ add a1 (add b1 y)) 48)) 1, add c1 (rotl 64 (d1 ^^^ add a1 (add b1 y)) 48), rotl 64 (d1 ^^^ add a1 (add b1 y)) 48⟩) := Lib.hid rfl
  have f1 := wadd a1 b1
  have f2 := wadd (add a1 b1) y
  rw [es] at f2
  have m2 := Bl.add_lt a1 (add b1 y)
  generalize add a1 (add b1 y) = a2 at *
  generalize add a1 b1 = s2 at *
  have f3 := xor64 d1 a2 l4 m2
  have m3 := xor_lt64 d1 a2 l4 m2
  generalize d1 ^^^ a2 = z3 at *
  have R3 := Lib.hid fun w => round_c z3 m3 w
  generalize rotl 64 z3 48 = d2 at *
  have f5 := wadd c1 d2
  have m5 := Bl.add_lt c1 d2
  generalize add c1 d2 = c2 at *
  have f6 := xor64 b1 c2 l7 m5
  have m6 := xor_lt64 b1 c2 l7 m5
  generalize b1 ^^^ c2 = z4 at *
  have R4 := Lib.hid fun w => round_d z4 m6 w
  generalize rotl 64 z4 1 = b2 at *
  rw [F1.out] at E
  clear F1
  rw [E.out]
  clear E ha hb hc hd l2 l3 l4 l5 l6 l7 m2 m3 m5 m6 es
  simp only [wq, u64s, List.map_cons, List.map_nil]
  have A0 : Four ((w.alloc (.cells (wq [a1, b, c, d]) 84)).alloc (.cells (wq [0, 0, 0, 0]) 84)) w.heap.size a1 b c d := (RowAt.new w _ _).alloc _
  have Z0 : Four ((w.alloc (.cells (wq [a1, b, c, d]) 84)).alloc (.cells (wq [0, 0, 0, 0]) 84)) (w.heap.size + 1) 0 0 0 0 := by
    have h := RowAt.new (w.alloc (.cells (wq [a1, b, c, d]) 84)) 84 (wq [0, 0, 0, 0])
    rw [World.size_alloc] at h; exact h
  have B0 : Below w.heap.size w ((w.alloc (.cells (wq [a1, b, c, d]) 84)).alloc (.cells (wq [0, 0, 0, 0]) 84)) := ((Below.refl _ w).alloc (Nat.le_refl _) _).alloc (by simp) _
  have HA0 := Lib.hid A0
  have HZ0 := Lib.hid Z0
  have HB0 := Lib.hid B0
  clear A0 Z0 B0
  go_enter Tryd.func39, Tryd.ntmps39
  go_wp2_with fail
  refine (R1.out _).mono ?_; rintro e w1 ⟨rfl, hb⟩
  have A1 := HA0.out.below hb (by simp <;> omega)
  have Z1 := HZ0.out.below hb (by simp <;> omega)
  have B1 := HB0.out.trans (hb.mono (by simp <;> omega))
  have S1 : w.heap.size + 2 ≤ w1.heap.size := by have := hb.size; simp at this; omega
  obtain ⟨⟨c0, c1', c2', c3⟩, f0, f1', f2', f3'⟩ := A1.facts
  have HA1 := Lib.hid A1
  have HZ1 := Lib.hid Z1
  have HB1 := Lib.hid B1
  clear A1 Z1 B1 hb HA0 HZ0 HB0
  go_wp2_with fail
  refine (R2.out _).mono ?_; rintro e w2 ⟨rfl, hb⟩
  have A2 := ((HA1.out.s3 d1).s2 c1).below hb (by simp <;> omega)
  have Z2 := ((HZ1.out.other _ (by simp) _).other _ (by simp) _).below hb (by simp <;> omega)
  have B2 := ((HB1.out.setCell (by simp) _).setCell (by simp) _).trans (hb.mono (by simp <;> omega))
  have S2 : w.heap.size + 2 ≤ w2.heap.size := by have := hb.size; simp at this; omega
  obtain ⟨⟨c0, c1', c2', c3⟩, f0, f1', f2', f3'⟩ := A2.facts
  have HA2 := Lib.hid A2
  have HZ2 := Lib.hid Z2
  have HB2 := Lib.hid B2
  clear A2 Z2 B2 hb
  go_wp2_with fail
  refine (R3.out _).mono ?_; rintro e w3 ⟨rfl, hb⟩
  have A3 := ((HA2.out.s1 b1).s0 a2).below hb (by simp <;> omega)
  have Z3 := ((HZ2.out.other _ (by simp) _).other _ (by simp) _).below hb (by simp <;> omega)
  have B3 := ((HB2.out.setCell (by simp) _).setCell (by simp) _).trans (hb.mono (by simp <;> omega))
  have S3 : w.heap.size + 2 ≤ w3.heap.size := by have := hb.size; simp at this; omega
  obtain ⟨⟨c0, c1', c2', c3⟩, f0, f1', f2', f3'⟩ := A3.facts
  have HA3 := Lib.hid A3
  have HZ3 := Lib.hid Z3
  have HB3 := Lib.hid B3
  clear A3 Z3 B3 hb
  go_wp2_with fail
  refine (R4.out _).mono ?_; rintro e w4 ⟨rfl, hb⟩
  have A4 := ((HA3.out.s3 d2).s2 c2).below hb (by simp <;> omega)
  have Z4 := ((HZ3.out.other _ (by simp) _).other _ (by simp) _).below hb (by simp <;> omega)
  have B4 := ((HB3.out.setCell (by simp) _).setCell (by simp) _).trans (hb.mono (by simp <;> omega))
  have S4 : w.heap.size + 2 ≤ w4.heap.size := by have := hb.size; simp at this; omega
  obtain ⟨⟨c0, c1', c2', c3⟩, f0, f1', f2', f3'⟩ := A4.facts
  have HA4 := Lib.hid A4
  have HZ4 := Lib.hid Z4
  have HB4 := Lib.hid B4
  clear A4 Z4 B4 hb
  clear c0 c1' c2' c3 f0 f1' f2' f3'
  obtain ⟨⟨c0, c1', c2', c3⟩, f0, f1', f2', f3'⟩ := HA4.out.facts
  have RA := Lib.hid (HA4.out.s1 b2)
  have RZ := Lib.hid (HZ4.out.other ⟨w.heap.size, 1, none⟩ (by simp) (.int .u64 (b2 : Int)))
  go_wp2_with (first
    | refine wpList_load_row rfl 84 (.tmp 3) rfl w.heap.size rfl 84 (wq [a2, b2, c2, d2]) (0, 0) _ RA.out Tryd.underlying84 rfl (by rw [wq4]; exact q_size4) ?_
    | refine wpList_store_row rfl 84 (.tmp 6) (.tmp 63) rfl (w.heap.size + 1) (wq [a2, b2, c2, d2]) rfl rfl 84 _ RZ.out (by rw [wq4]; exact q_size4) (by rw [wq4, wq4]) (wq_one _) ?_)
  have hR := RowAt.setRow RZ.out (wq [a2, b2, c2, d2])
  refine bodyPost_ret (v := .agg (wq [a2, b2, c2, d2])) (results_cell_row rfl _ _ (w.heap.size + 1) 84 (wq [a2, b2, c2, d2]) (0, 0) _ rfl hR Tryd.underlying84 rfl (by rw [wq4]; exact q_size4)) rfl ⟨rfl, ?_⟩
  exact below_setRow (HB4.out.setCell (by simp) _) (by omega) _
end Go.Proofs.YtljijgihnoloeaaDoor
