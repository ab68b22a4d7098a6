/- Rows of words of 64 bits and of ints as they lie in memory; product and Quarter of package blend, and the document's. Conditions: those typed. -/
import Derived.Test.YtnbdmkgldjhcaaaDoorBb
import Derived.Test.YtnbdmkgldjhcaaaDoorTurn
namespace Go.Proofs.YtnbdmkgldjhcaaaDoor
set_option maxRecDepth 50000
open Go.RowKit Rot Bn

def iq (l : List Nat) : Array Value := (l.map fun x : Nat => Value.int .i64 (x : Int)).toArray
theorem iq_size (l : List Nat) : (iq l).size = l.length := by simp [iq]
theorem iq_at (l : List Nat) (i : Nat) (h : i < l.length) : (iq l)[i]? = some (.int .i64 (l.getD i 0 : Nat)) := by
  simp [iq, List.getD_eq_getElem?_getD, List.getElem?_eq_getElem h]
theorem iq_set (l : List Nat) (i x : Nat) : (iq l).setIfInBounds i (.int .i64 (x : Int)) = iq (l.set i x) := by
  simp [iq, List.map_set]
theorem iq_one (l : List Nat) : (iq l).all (·.oneCell') = true := by
  simp [iq, Value.oneCell']
theorem q_size16 : (Tryd.prog.info? 76).map (·.size) = some 16 := by kernel_rfl
theorem q_size4 : (Tryd.prog.info? 80).map (·.size) = some 4 := by kernel_rfl
theorem q_int4 : (Tryd.prog.info? 79).map (·.size) = some 4 := by kernel_rfl
theorem q_u64 : (Tryd.prog.info? 34).map (·.size) = some 1 := by kernel_rfl

theorem right_q (n s : Nat) (h : ((-(n : Int)) % 64).toNat = s) (x : Nat) (hx : x < 18446744073709551616) (w : World) : Calls Tryd.prog 42 #[.int .u64 (x : Int), .int .i64 (n : Int)] w fun e w' => e = .returned (.int .u64 (rotl 64 x s : Nat)) ∧ w = w' := by
  rw [← h]; exact right64_any x n hx w

theorem wadd (a b : Nat) : IntKind.u64.wrap ((a : Int) + (b : Int)) = (((a + b) % 18446744073709551616 : Nat) : Int) := by
  rw [IntKind.wrap_u64]; omega
theorem wmul (a b : Nat) : IntKind.u64.wrap ((a : Int) * (b : Int)) = (((a * b) % 18446744073709551616 : Nat) : Int) := by
  rw [IntKind.wrap_u64, ← Int.natCast_mul]; omega
theorem u64_in (a : Nat) (h : a < 18446744073709551616) : IntKind.u64.wrap (a : Int) = (a : Int) := by
  rw [IntKind.wrap_u64]; omega
theorem xor64 (a b : Nat) (ha : a < 18446744073709551616) (hb : b < 18446744073709551616) : bits .xor .u64 (a : Int) (b : Int) = ((a ^^^ b : Nat) : Int) := u64_xor_nat a b ha hb
/-- a product step by step -/
theorem prod_steps (a b : Nat) (ha : a < 18446744073709551616) (hb : b < 18446744073709551616) : ∃ r t m s p : Nat, (bits .and .u64 (a : Int) 4294967295 = (r : Int) ∧ bits .and .u64 (b : Int) 4294967295 = (t : Int)) ∧
    ((a : Int).tmod 4294967296 = (r : Int) ∧ (b : Int).tmod 4294967296 = (t : Int) ∧ (a : Int) % 4294967296 = (r : Int) ∧ (b : Int) % 4294967296 = (t : Int)) ∧ IntKind.u64.wrap ((2 : Int) * (r : Int)) = (m : Int) ∧ IntKind.u64.wrap ((m : Int) * (t : Int)) = (p : Int) ∧ IntKind.u64.wrap ((a : Int) + (b : Int)) = (s : Int) ∧ IntKind.u64.wrap ((s : Int) + (p : Int)) = ((prd a b : Nat) : Int) ∧ IntKind.u64.wrap (r : Int) = (r : Int) ∧ IntKind.u64.wrap (t : Int) = (t : Int) := by
  have e1 : ∀ x : Nat, x &&& 4294967295 = x % 4294967296 := fun x => Nat.and_two_pow_sub_one_eq_mod x 32
  refine ⟨a % 4294967296, b % 4294967296, 2 * (a % 4294967296), (a + b) % 18446744073709551616, (2 * (a % 4294967296)) * (b % 4294967296) % 18446744073709551616, ⟨?_, ?_⟩, ⟨?_, ?_, ?_, ?_⟩, ?_, wmul _ _, wadd _ _, ?_, ?_, ?_⟩
  · have h := u64_and_nat a 4294967295 ha (by decide)
    rw [e1] at h; exact h
  · have h := u64_and_nat b 4294967295 hb (by decide)
    rw [e1] at h; exact h
  · rw [Int.tmod_eq_emod_of_nonneg (by omega)]; omega
  · rw [Int.tmod_eq_emod_of_nonneg (by omega)]; omega
  · omega
  · omega
  · rw [IntKind.wrap_u64]; omega
  · rw [wadd]
    unfold prd
    generalize 2 * (a % 4294967296) * (b % 4294967296) = z
    omega
  · exact u64_in _ (by omega)
  · exact u64_in _ (by omega)

theorem prod_any (a b : Nat) (ha : a < 18446744073709551616) (hb : b < 18446744073709551616) (w : World) : Calls Tryd.prog 41 #[.int .u64 (a : Int), .int .u64 (b : Int)] w fun e w' => e = .returned (.int .u64 (prd a b : Nat)) ∧ w = w' := by
  obtain ⟨r, t, m, s, p, ⟨h1, h2⟩, _, h4, h5, h6, h7, h8, h9⟩ := prod_steps a b ha hb
  generalize prd a b = v at *
  clear ha hb
  go_enter Tryd.func41, Tryd.ntmps41
  go_wp2
  go_ret
  exact ⟨rfl, rfl⟩
theorem rprod_any (a b : Nat) (ha : a < 18446744073709551616) (hb : b < 18446744073709551616) (w : World) : Calls Tryd.prog 39 #[.int .u64 (a : Int), .int .u64 (b : Int)] w fun e w' => e = .returned (.int .u64 (prd a b : Nat)) ∧ w = w' := by
  obtain ⟨r, t, m, s, p, _, ⟨h1, h2, h3, h3'⟩, h4, h5, h6, h7, h8, h9⟩ := prod_steps a b ha hb
  generalize prd a b = v at *
  clear ha hb
  go_enter Tryd.func39, Tryd.ntmps39
  go_wp2
  go_ret
  exact ⟨rfl, rfl⟩

theorem rotl_round (x s L H : Nat) (hs : s ≤ 64) (hL : 2 ^ (64 - s) = L) (hH : 2 ^ s = H) (hx : x < 18446744073709551616) : x / L + x % L * H = rotl 64 x s ∧ x % L * H < 18446744073709551616 := by
  subst hL; subst hH
  refine ⟨by rw [rotl_split 64 x s hs hx, Nat.add_comm], ?_⟩
  have h := Nat.mod_lt x (show 0 < 2 ^ (64 - s) from Nat.two_pow_pos _)
  calc x % 2 ^ (64 - s) * 2 ^ s < 2 ^ (64 - s) * 2 ^ s := Nat.mul_lt_mul_of_pos_right h (Nat.two_pow_pos _)
    _ = 18446744073709551616 := by rw [← Nat.pow_add, show 64 - s + s = 64 by omega]
set_option maxHeartbeats 800000 in
theorem round_any (x s L H : Nat) (hs : s ≤ 64) (hL : 2 ^ (64 - s) = L) (hH : 2 ^ s = H) (hx : x < 18446744073709551616) (w : World) :
    Calls Tryd.prog 40 #[.int .u64 (x : Int), .int .u64 (L : Int), .int .u64 (H : Int)] w fun e w' => e = .returned (.int .u64 (rotl 64 x s : Nat)) ∧ Below w.heap.size w w' := by
  obtain ⟨h1, h2⟩ := rotl_round x s L H hs hL hH hx
  have hr := rotl_lt64 x s hs hx
  have hL0 : 0 < L := by rw [← hL]; exact Nat.two_pow_pos _
  have q1 : (x : Int) / (L : Int) = ((x / L : Nat) : Int) := by simp
  have q2 : (x : Int).tmod (L : Int) = ((x % L : Nat) : Int) := by simp [Int.tmod_eq_emod_of_nonneg]
  have q2' : (x : Int) % (L : Int) = ((x % L : Nat) : Int) := by simp
  have q3 : IntKind.u64.wrap (((x % L : Nat) : Int) * (H : Int)) = ((x % L * H : Nat) : Int) := by
    rw [← u64_in _ h2]; simp
  have q0 := u64_in (x / L) (Nat.lt_of_le_of_lt (Nat.div_le_self _ _) hx)
  have q4 : IntKind.u64.wrap (((x / L : Nat) : Int) + ((x % L * H : Nat) : Int)) = ((rotl 64 x s : Nat) : Int) := by
    rw [wadd, ← h1]; rw [h1, Nat.mod_eq_of_lt hr]
  generalize x % L * H = p at *
  generalize x % L = r at *
  generalize x / L = q at *
  generalize rotl 64 x s = v at *
  clear h1 h2 hr hL hH hs
  have hne : ¬ (L : Int) = 0 := by omega
  go_enter Tryd.func40, Tryd.ntmps40
  go_wp2
  go_quiet (fail)
  go_wp2
  go_ret
  exact ⟨rfl, below_drewN (Below.refl _ w) nq⟩
theorem round_a (x : Nat) (hx : x < 18446744073709551616) (w : World) : Calls Tryd.prog 40 #[.int .u64 (x : Int), .int .u64 4294967296, .int .u64 4294967296] w fun e w' => e = .returned (.int .u64 (rotl 64 x 32 : Nat)) ∧ Below w.heap.size w w' := by
  have h := round_any x 32 4294967296 4294967296 (by decide) (by decide) (by decide) hx w
  exact h
theorem round_b (x : Nat) (hx : x < 18446744073709551616) (w : World) : Calls Tryd.prog 40 #[.int .u64 (x : Int), .int .u64 16777216, .int .u64 1099511627776] w fun e w' => e = .returned (.int .u64 (rotl 64 x 40 : Nat)) ∧ Below w.heap.size w w' := by
  have h := round_any x 40 16777216 1099511627776 (by decide) (by decide) (by decide) hx w
  exact h
theorem round_c (x : Nat) (hx : x < 18446744073709551616) (w : World) : Calls Tryd.prog 40 #[.int .u64 (x : Int), .int .u64 65536, .int .u64 281474976710656] w fun e w' => e = .returned (.int .u64 (rotl 64 x 48 : Nat)) ∧ Below w.heap.size w w' := by
  have h := round_any x 48 65536 281474976710656 (by decide) (by decide) (by decide) hx w
  exact h
theorem round_d (x : Nat) (hx : x < 18446744073709551616) (w : World) : Calls Tryd.prog 40 #[.int .u64 (x : Int), .int .u64 9223372036854775808, .int .u64 2] w fun e w' => e = .returned (.int .u64 (rotl 64 x 1 : Nat)) ∧ Below w.heap.size w w' := by
  have h := round_any x 1 9223372036854775808 2 (by decide) (by decide) (by decide) hx w
  exact h

/-- the names of all steps of a quarter -/
theorem quarter_steps (q : Q) (hq : q.ok) : ∃ a1 z1 d1 c1 z2 b1 a2 z3 d2 c2 z4 b2 : Nat, quarter q = ⟨a2, b2, c2, d2⟩ ∧
    (a1 = prd q.a q.b ∧ q.d ^^^ a1 = z1 ∧ d1 = rotl 64 z1 32 ∧ c1 = prd q.c d1 ∧ q.b ^^^ c1 = z2 ∧ b1 = rotl 64 z2 40) ∧ (a2 = prd a1 b1 ∧ d1 ^^^ a2 = z3 ∧ d2 = rotl 64 z3 48 ∧ c2 = prd c1 d2 ∧ b1 ^^^ c2 = z4 ∧ b2 = rotl 64 z4 1) ∧
    (a1 < 18446744073709551616 ∧ z1 < 18446744073709551616 ∧ d1 < 18446744073709551616 ∧ c1 < 18446744073709551616 ∧ z2 < 18446744073709551616 ∧ b1 < 18446744073709551616) ∧ (a2 < 18446744073709551616 ∧ z3 < 18446744073709551616 ∧ d2 < 18446744073709551616 ∧ c2 < 18446744073709551616 ∧ z4 < 18446744073709551616 ∧ b2 < 18446744073709551616) := by
  obtain ⟨a, b, c, d⟩ := q
  obtain ⟨ha, hb, hc, hd⟩ := hq
  simp only at ha hb hc hd
  have k1 := prd_lt a b
  have k2 := xor_lt64 d _ hd k1
  have k3 := rotl_lt64 _ 32 (by decide) k2
  have k4 := prd_lt c (rotl 64 (d ^^^ prd a b) 32)
  have k5 := xor_lt64 b _ hb k4
  have k6 := rotl_lt64 _ 40 (by decide) k5
  refine ⟨prd a b, _, _, _, _, _, _, _, _, _, _, _, rfl, ⟨rfl, rfl, rfl, rfl, rfl, rfl⟩, ⟨rfl, rfl, rfl, rfl, rfl, rfl⟩, ⟨k1, k2, k3, k4, k5, k6⟩, ⟨prd_lt _ _, ?_, ?_, prd_lt _ _, ?_, ?_⟩⟩
  · exact xor_lt64 _ _ k3 (prd_lt _ _)
  · exact rotl_lt64 _ _ (by decide) (xor_lt64 _ _ k3 (prd_lt _ _))
  · exact xor_lt64 _ _ k6 (prd_lt _ _)
  · exact rotl_lt64 _ _ (by decide) (xor_lt64 _ _ k6 (prd_lt _ _))

set_option maxHeartbeats 1600000 in
theorem quarter_any (q : Q) (hq : q.ok) (w : World) :
    Calls Tryd.prog 38 #[.int .u64 (q.a : Int), .int .u64 (q.b : Int), .int .u64 (q.c : Int), .int .u64 (q.d : Int)] w fun e w' =>
      e = .returned (.tuple #[.int .u64 ((quarter q).a : Int), .int .u64 ((quarter q).b : Int), .int .u64 ((quarter q).c : Int), .int .u64 ((quarter q).d : Int)]) ∧ w = w' := by
  obtain ⟨a1, z1, d1, c1, z2, b1, a2, z3, d2, c2, z4, b2, E, ⟨p1, p2, p3, p4, p5, p6⟩, ⟨p7, p8, p9, pa, pb, pc⟩, ⟨l1, l2, l3, l4, l5, l6⟩, ⟨l7, l8, l9, la, lb, lc⟩⟩ := quarter_steps q hq
  rw [E]
  clear E
  obtain ⟨a, b, c, d⟩ := q
  obtain ⟨ha, hb, hc, hd⟩ := hq
  simp only at ha hb hc hd p1 p2 p4 p5
  have A1 := Lib.hid fun w => prod_any a b ha hb w
  have x1 := xor64 d a1 hd l1
  have R1 := Lib.hid fun w => right_q 32 32 rfl z1 l2 w
  have A2 := Lib.hid fun w => prod_any c d1 hc l3 w
  have x2 := xor64 b c1 hb l4
  have R2 := Lib.hid fun w => right_q 24 40 rfl z2 l5 w
  have A3 := Lib.hid fun w => prod_any a1 b1 l1 l6 w
  have x3 := xor64 d1 a2 l3 l7
  have R3 := Lib.hid fun w => right_q 16 48 rfl z3 l8 w
  have A4 := Lib.hid fun w => prod_any c1 d2 l4 l9 w
  have x4 := xor64 b1 c2 l6 la
  have R4 := Lib.hid fun w => right_q 63 1 rfl z4 lb w
  rw [p2] at x1; rw [p5] at x2; rw [p8] at x3; rw [pb] at x4
  rw [← p1] at A1; rw [← p3] at R1; rw [← p4] at A2; rw [← p6] at R2; rw [← p7] at A3; rw [← p9] at R3; rw [← pa] at A4; rw [← pc] at R4
  clear p1 p2 p3 p4 p5 p6 p7 p8 p9 pa pb pc l1 l2 l3 l4 l5 l6 l7 l8 l9 la lb lc ha hb hc hd
  go_enter Tryd.func38, Tryd.ntmps38
  go_wp2_with fail
  refine (A1.out _).mono ?_; rintro e w' ⟨rfl, rfl⟩
  go_wp2_with fail
  refine (R1.out _).mono ?_; rintro e w' ⟨rfl, rfl⟩
  go_wp2_with fail
  refine (A2.out _).mono ?_; rintro e w' ⟨rfl, rfl⟩
  go_wp2_with fail
  refine (R2.out _).mono ?_; rintro e w' ⟨rfl, rfl⟩
  go_wp2_with fail
  refine (A3.out _).mono ?_; rintro e w' ⟨rfl, rfl⟩
  go_wp2_with fail
  refine (R3.out _).mono ?_; rintro e w' ⟨rfl, rfl⟩
  go_wp2_with fail
  refine (A4.out _).mono ?_; rintro e w' ⟨rfl, rfl⟩
  go_wp2_with fail
  refine (R4.out _).mono ?_; rintro e w' ⟨rfl, rfl⟩
  go_wp2
  simp [bodyPost, results, Tryd.results38, go_sem]
end Go.Proofs.YtnbdmkgldjhcaaaDoor
