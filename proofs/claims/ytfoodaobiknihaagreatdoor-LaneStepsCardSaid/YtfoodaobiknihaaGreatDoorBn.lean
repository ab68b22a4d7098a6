/- Argon2's mixing as plain mathematics, and by its contracts. Conditions: those typed. -/
import Derived.Test.YtfoodaobiknihaaGreatDoorKi
import Derived.Test.YtfoodaobiknihaaGreatDoorBm
import Derived.KernelRfl
import Derived.Test.YtfoodaobiknihaaGreatDoorGen
import Derived.Deep.QuietTactic
namespace Go.Proofs.YtfoodaobiknihaaGreatDoor.Bn
set_option maxRecDepth 50000
open Rot Bb
def prd (a b : Nat) : Nat := (a + b + 2 * (a % 4294967296) * (b % 4294967296)) % 18446744073709551616
theorem prd_lt (a b : Nat) : prd a b < 18446744073709551616 := Nat.mod_lt _ (by decide)
structure Q where
  a : Nat
  b : Nat
  c : Nat
  d : Nat
def Q.list (q : Q) : List Nat := [q.a, q.b, q.c, q.d]
def half (q : Q) (r s : Nat) : Q :=
  let a := prd q.a q.b
  let d := rotl 64 (q.d ^^^ a) r
  let c := prd q.c d
  ⟨a, rotl 64 (q.b ^^^ c) s, c, d⟩
def quarter (q : Q) : Q := half (half q 32 40) 48 1
def Q.ok (q : Q) : Prop := q.a < 18446744073709551616 ∧ q.b < 18446744073709551616 ∧ q.c < 18446744073709551616 ∧ q.d < 18446744073709551616
theorem xor_lt64 (a b : Nat) (ha : a < 18446744073709551616) (hb : b < 18446744073709551616) : a ^^^ b < 18446744073709551616 := Nat.xor_lt_two_pow (n := 64) ha hb
theorem rotl_lt64 (x s : Nat) (hs : s ≤ 64) (hx : x < 18446744073709551616) : rotl 64 x s < 18446744073709551616 := rotl_lt 64 x s hs hx
theorem half_ok {q : Q} (h : q.ok) (r s : Nat) (hr : r ≤ 64) (hs : s ≤ 64) : (half q r s).ok :=
  ⟨prd_lt _ _, rotl_lt64 _ _ hs (xor_lt64 _ _ h.2.1 (prd_lt _ _)), prd_lt _ _, rotl_lt64 _ _ hr (xor_lt64 _ _ h.2.2.2 (prd_lt _ _))⟩
theorem quarter_ok {q : Q} (h : q.ok) : (quarter q).ok := half_ok (half_ok h _ _ (by decide) (by decide)) _ _ (by decide) (by decide)
def okw (l : List Nat) : Prop := ∀ x ∈ l, x < 18446744073709551616
theorem okw.at_ {l : List Nat} (h : okw l) (i : Nat) : l.getD i 0 < 18446744073709551616 := by
  rw [List.getD_eq_getElem?_getD]
  by_cases hi : i < l.length
  · rw [List.getElem?_eq_getElem hi]; exact h _ (List.getElem_mem hi)
  · rw [List.getElem?_eq_none (by omega)]; decide
theorem okw.set {l : List Nat} (h : okw l) (i x : Nat) (hx : x < 18446744073709551616) : okw (l.set i x) := fun y hy => by
  rcases List.mem_or_eq_of_mem_set hy with hy | rfl
  · exact h y hy
  · exact hx
def qq : List Nat := [0, 4, 8, 12, 1, 5, 9, 13, 2, 6, 10, 14, 3, 7, 11, 15, 0, 5, 10, 15, 1, 6, 11, 12, 2, 7, 8, 13, 3, 4, 9, 14]
def pt (i k : Nat) : Nat := qq.getD (i * 4 + k) 0
theorem pt_lt (i k : Nat) (hi : i < 8) (hk : k < 4) : pt i k < 16 := by
  have h : ∀ i, i < 8 → ∀ k, k < 4 → pt i k < 16 := by decide
  exact h i hi k hk
theorem pt_is (i k : Nat) (hi : i < 8) (hk : k < 4) : (i < 4 → pt i k = 4 * k + i % 4) ∧ (4 ≤ i → pt i k = 4 * k + (i + k) % 4) := by
  have h : ∀ i, i < 8 → ∀ k, k < 4 → (i < 4 → pt i k = 4 * k + i % 4) ∧ (4 ≤ i → pt i k = 4 * k + (i + k) % 4) := by decide
  exact h i hi k hk
def take4 (v : List Nat) (i : Nat) : Q := ⟨v.getD (pt i 0) 0, v.getD (pt i 1) 0, v.getD (pt i 2) 0, v.getD (pt i 3) 0⟩
def put4 (v : List Nat) (i : Nat) (q : Q) : List Nat := (((v.set (pt i 0) q.a).set (pt i 1) q.b).set (pt i 2) q.c).set (pt i 3) q.d
def qTo (v : List Nat) : Nat → List Nat
  | 0 => v
  | k + 1 => put4 (qTo v k) k (quarter (take4 (qTo v k) k))
def perm (v : List Nat) : List Nat := qTo v 8
theorem put4_length (v : List Nat) (i : Nat) (q : Q) : (put4 v i q).length = v.length := by simp [put4]
theorem put4_ok {v : List Nat} (h : okw v) (i : Nat) {q : Q} (hq : q.ok) : okw (put4 v i q) :=
  (((h.set _ _ hq.1).set _ _ hq.2.1).set _ _ hq.2.2.1).set _ _ hq.2.2.2
theorem take4_ok {v : List Nat} (h : okw v) (i : Nat) : (take4 v i).ok := ⟨h.at_ _, h.at_ _, h.at_ _, h.at_ _⟩
theorem qTo_length (v : List Nat) : ∀ k, (qTo v k).length = v.length
  | 0 => rfl
  | k + 1 => by rw [qTo, put4_length, qTo_length v k]
theorem qTo_ok {v : List Nat} (h : okw v) : ∀ k, okw (qTo v k)
  | 0 => h
  | k + 1 => put4_ok (qTo_ok h k) _ (quarter_ok (take4_ok (qTo_ok h k) _))
theorem perm_length (v : List Nat) : (perm v).length = v.length := qTo_length v 8
theorem perm_ok {v : List Nat} (h : okw v) : okw (perm v) := qTo_ok h 8
def ats (t i k : Nat) : Nat := if t = 0 then i * 16 + k / 2 * 2 + k % 2 else i * 2 + k / 2 * 16 + k % 2
theorem ats_lt (t i k : Nat) (hi : i < 8) (hk : k < 16) : ats t i k < 128 := by unfold ats; split <;> omega
def takL (b : List Nat) (t i : Nat) : Nat → List Nat
  | 0 => List.replicate 16 0
  | k + 1 => (takL b t i k).set k (b.getD (ats t i k) 0)
def putL (b v : List Nat) (t i : Nat) : Nat → List Nat
  | 0 => b
  | k + 1 => (putL b v t i k).set (ats t i k) (v.getD k 0)
def line (b : List Nat) (t i : Nat) : List Nat := putL b (perm (takL b t i 16)) t i 16
def linTo (b : List Nat) (t : Nat) : Nat → List Nat
  | 0 => b
  | i + 1 => line (linTo b t i) t i
def sides (b : List Nat) : Nat → List Nat
  | 0 => b
  | t + 1 => linTo (sides b t) t 8
def whole (b : List Nat) : List Nat := sides b 2
theorem takL_length (b : List Nat) (t i : Nat) : ∀ k, (takL b t i k).length = 16
  | 0 => by simp [takL]
  | k + 1 => by rw [takL, List.length_set, takL_length b t i k]
theorem takL_ok {b : List Nat} (h : okw b) (t i : Nat) : ∀ k, okw (takL b t i k)
  | 0 => fun x hx => by rw [List.eq_of_mem_replicate hx]; decide
  | k + 1 => (takL_ok h t i k).set _ _ (h.at_ _)
theorem putL_length (b v : List Nat) (t i : Nat) : ∀ k, (putL b v t i k).length = b.length
  | 0 => rfl
  | k + 1 => by rw [putL, List.length_set, putL_length b v t i k]
theorem putL_ok {b v : List Nat} (h : okw b) (hv : okw v) (t i : Nat) : ∀ k, okw (putL b v t i k)
  | 0 => h
  | k + 1 => (putL_ok h hv t i k).set _ _ (hv.at_ _)
theorem line_length (b : List Nat) (t i : Nat) : (line b t i).length = b.length := putL_length _ _ _ _ _
theorem line_ok {b : List Nat} (h : okw b) (t i : Nat) : okw (line b t i) := putL_ok h (perm_ok (takL_ok h t i 16)) t i 16
theorem linTo_length (b : List Nat) (t : Nat) : ∀ i, (linTo b t i).length = b.length
  | 0 => rfl
  | i + 1 => by rw [linTo, line_length, linTo_length b t i]
theorem linTo_ok {b : List Nat} (h : okw b) (t : Nat) : ∀ i, okw (linTo b t i)
  | 0 => h
  | i + 1 => line_ok (linTo_ok h t i) t i
theorem sides_length (b : List Nat) : ∀ t, (sides b t).length = b.length
  | 0 => rfl
  | t + 1 => by rw [sides, linTo_length, sides_length b t]
theorem sides_ok {b : List Nat} (h : okw b) : ∀ t, okw (sides b t)
  | 0 => h
  | t + 1 => linTo_ok (sides_ok h t) t 8
theorem sides_okb {b : List Nat} (h : okb b) (t : Nat) : okb (sides b t) := ⟨by rw [sides_length]; exact h.1, sides_ok h.2 t⟩
theorem linTo_okb {b : List Nat} (h : okb b) (t i : Nat) : okb (linTo b t i) := ⟨by rw [linTo_length]; exact h.1, linTo_ok h.2 t i⟩
theorem whole_ok {b : List Nat} (h : okb b) : okb (whole b) := sides_okb h 2
def mix (x y : List Nat) : List Nat := xB [whole (xB [x, y]), xB [x, y]]
theorem two_ok {x y : List Nat} (hx : okb x) (hy : okb y) : ∀ b ∈ [x, y], okb b := fun b hb => by
  simp only [List.mem_cons, List.not_mem_nil, or_false] at hb
  rcases hb with rfl | rfl
  · exact hx
  · exact hy
theorem xB_swap (x y : List Nat) : xB [x, y] = xB [y, x] := tb_congr _ _ fun k _ => by simp [xw, Nat.xor_comm]
theorem mix_ok {x y : List Nat} (hx : okb x) (hy : okb y) : okb (mix x y) := by
  have h := xB_ok _ (two_ok hx hy)
  exact xB_ok _ (two_ok (whole_ok h) h)
theorem mix_ref (x y : List Nat) : mix x y = xB [xB [x, y], whole (xB [x, y])] := xB_swap _ _
end Go.Proofs.YtfoodaobiknihaaGreatDoor.Bn
namespace Go.Proofs.YtfoodaobiknihaaGreatDoor
set_option maxRecDepth 50000
open Go.RowKit Rot Bn
def iqN (l : List Nat) : Array Value := (l.map fun x : Nat => Value.int .i64 (x : Int)).toArray
theorem iq_sizeN (l : List Nat) : (iqN l).size = l.length := by simp [iqN]
theorem iq_atN (l : List Nat) (i : Nat) (h : i < l.length) : (iqN l)[i]? = some (.int .i64 (l.getD i 0 : Nat)) := by
  simp [iqN, List.getD_eq_getElem?_getD, List.getElem?_eq_getElem h]
theorem iq_setN (l : List Nat) (i x : Nat) : (iqN l).setIfInBounds i (.int .i64 (x : Int)) = iqN (l.set i x) := by
  simp [iqN, List.map_set]
theorem iq_oneN (l : List Nat) : (iqN l).all (·.oneCell') = true := by
  simp [iqN, Value.oneCell']
theorem q_size16N : (Tryz.prog.info? 185).map (·.size) = some 16 := by kernel_rfl
theorem q_size4N : (Tryz.prog.info? 190).map (·.size) = some 4 := by kernel_rfl
theorem q_int4N : (Tryz.prog.info? 188).map (·.size) = some 4 := by kernel_rfl
theorem q_u64N : (Tryz.prog.info? 52).map (·.size) = some 1 := by kernel_rfl
theorem right_qN (n s : Nat) (h : ((-(n : Int)) % 64).toNat = s) (x : Nat) (hx : x < 18446744073709551616) (w : World) : Calls Tryz.prog 139 #[.int .u64 (x : Int), .int .i64 (n : Int)] w fun e w' => e = .returned (.int .u64 (rotl 64 x s : Nat)) ∧ w = w' := by
  rw [← h]; exact right64_any x n hx w
theorem wadd (a b : Nat) : IntKind.u64.wrap ((a : Int) + (b : Int)) = (((a + b) % 18446744073709551616 : Nat) : Int) := by
  rw [IntKind.wrap_u64]; omega
theorem wmul (a b : Nat) : IntKind.u64.wrap ((a : Int) * (b : Int)) = (((a * b) % 18446744073709551616 : Nat) : Int) := by
  rw [IntKind.wrap_u64, ← Int.natCast_mul]; omega
theorem u64_in (a : Nat) (h : a < 18446744073709551616) : IntKind.u64.wrap (a : Int) = (a : Int) := by
  rw [IntKind.wrap_u64]; omega
theorem xor64 (a b : Nat) (ha : a < 18446744073709551616) (hb : b < 18446744073709551616) : bits .xor .u64 (a : Int) (b : Int) = ((a ^^^ b : Nat) : Int) := u64_xor_nat a b ha hb
theorem prod_steps (a b : Nat) (ha : a < 18446744073709551616) (hb : b < 18446744073709551616) : ∃ r t m s p : Nat, (bits .and .u64 (a : Int) 4294967295 = (r : Int) ∧ bits .and .u64 (b : Int) 4294967295 = (t : Int)) ∧
    ((a : Int).tmod 4294967296 = (r : Int) ∧ (b : Int).tmod 4294967296 = (t : Int) ∧ (a : Int) % 4294967296 = (r : Int) ∧ (b : Int) % 4294967296 = (t : Int)) ∧ IntKind.u64.wrap ((2 : Int) * (r : Int)) = (m : Int) ∧ IntKind.u64.wrap ((m : Int) * (t : Int)) = (p : Int) ∧ IntKind.u64.wrap ((a : Int) + (b : Int)) = (s : Int) ∧ IntKind.u64.wrap ((s : Int) + (p : Int)) = ((prd a b : Nat) : Int) ∧ IntKind.u64.wrap (r : Int) = (r : Int) ∧ IntKind.u64.wrap (t : Int) = (t : Int) := by
  have e1 : ∀ x : Nat, x &&& 4294967295 = x % 4294967296 := fun x => Nat.and_two_pow_sub_one_eq_mod x 32
  refine ⟨a % 4294967296, b % 4294967296, 2 * (a % 4294967296), (a + b) % 18446744073709551616, (2 * (a % 4294967296)) * (b % 4294967296) % 18446744073709551616, ⟨?_, ?_⟩, ⟨?_, ?_, ?_, ?_⟩, ?_, wmul _ _, wadd _ _, ?_, ?_, ?_⟩
  · have h := u64_and_nat a 4294967295 ha (by decide)
    rw [e1] at h; exact h
  · have h := u64_and_nat b 4294967295 hb (by decide)
    rw [e1] at h; exact h
  · rw [Int.tmod_eq_emod_of_nonneg (by omega)]; omega
  · rw [Int.tmod_eq_emod_of_nonneg (by omega)]; omega
  · omega
  · omega
  · rw [IntKind.wrap_u64]; omega
  · rw [wadd]
    unfold prd
    generalize 2 * (a % 4294967296) * (b % 4294967296) = z
    omega
  · exact u64_in _ (by omega)
  · exact u64_in _ (by omega)
theorem prod_any (a b : Nat) (ha : a < 18446744073709551616) (hb : b < 18446744073709551616) (w : World) : Calls Tryz.prog 140 #[.int .u64 (a : Int), .int .u64 (b : Int)] w fun e w' => e = .returned (.int .u64 (prd a b : Nat)) ∧ w = w' := by
  obtain ⟨r, t, m, s, p, ⟨h1, h2⟩, _, h4, h5, h6, h7, h8, h9⟩ := prod_steps a b ha hb
  generalize prd a b = v at *
  clear ha hb
  go_enter Tryz.func140, Tryz.ntmps140
  go_wp2
  go_ret
  exact ⟨rfl, rfl⟩
theorem rprod_any (a b : Nat) (ha : a < 18446744073709551616) (hb : b < 18446744073709551616) (w : World) : Calls Tryz.prog 127 #[.int .u64 (a : Int), .int .u64 (b : Int)] w fun e w' => e = .returned (.int .u64 (prd a b : Nat)) ∧ w = w' := by
  obtain ⟨r, t, m, s, p, _, ⟨h1, h2, h3, h3'⟩, h4, h5, h6, h7, h8, h9⟩ := prod_steps a b ha hb
  generalize prd a b = v at *
  clear ha hb
  go_enter Tryz.func127, Tryz.ntmps127
  go_wp2
  go_ret
  exact ⟨rfl, rfl⟩
theorem rotl_roundN (x s L H : Nat) (hs : s ≤ 64) (hL : 2 ^ (64 - s) = L) (hH : 2 ^ s = H) (hx : x < 18446744073709551616) : x / L + x % L * H = rotl 64 x s ∧ x % L * H < 18446744073709551616 := by
  subst hL; subst hH
  refine ⟨by rw [rotl_split 64 x s hs hx, Nat.add_comm], ?_⟩
  have h := Nat.mod_lt x (show 0 < 2 ^ (64 - s) from Nat.two_pow_pos _)
  calc x % 2 ^ (64 - s) * 2 ^ s < 2 ^ (64 - s) * 2 ^ s := Nat.mul_lt_mul_of_pos_right h (Nat.two_pow_pos _)
    _ = 18446744073709551616 := by rw [← Nat.pow_add, show 64 - s + s = 64 by omega]
set_option maxHeartbeats 800000 in
theorem round_anyN (x s L H : Nat) (hs : s ≤ 64) (hL : 2 ^ (64 - s) = L) (hH : 2 ^ s = H) (hx : x < 18446744073709551616) (w : World) :
    Calls Tryz.prog 114 #[.int .u64 (x : Int), .int .u64 (L : Int), .int .u64 (H : Int)] w fun e w' => e = .returned (.int .u64 (rotl 64 x s : Nat)) ∧ Below w.heap.size w w' := by
  obtain ⟨h1, h2⟩ := rotl_roundN x s L H hs hL hH hx
  have hr := rotl_lt64 x s hs hx
  have hL0 : 0 < L := by rw [← hL]; exact Nat.two_pow_pos _
  have q1 : (x : Int) / (L : Int) = ((x / L : Nat) : Int) := by simp
  have q2 : (x : Int).tmod (L : Int) = ((x % L : Nat) : Int) := by simp [Int.tmod_eq_emod_of_nonneg]
  have q2' : (x : Int) % (L : Int) = ((x % L : Nat) : Int) := by simp
  have q3 : IntKind.u64.wrap (((x % L : Nat) : Int) * (H : Int)) = ((x % L * H : Nat) : Int) := by
    rw [← u64_in _ h2]; simp
  have q0 := u64_in (x / L) (Nat.lt_of_le_of_lt (Nat.div_le_self _ _) hx)
  have q4 : IntKind.u64.wrap (((x / L : Nat) : Int) + ((x % L * H : Nat) : Int)) = ((rotl 64 x s : Nat) : Int) := by
    rw [wadd, ← h1]; rw [h1, Nat.mod_eq_of_lt hr]
  generalize x % L * H = p at *
  generalize x % L = r at *
  generalize x / L = q at *
  generalize rotl 64 x s = v at *
  clear h1 h2 hr hL hH hs
  have hne : ¬ (L : Int) = 0 := by omega
  go_enter Tryz.func114, Tryz.ntmps114
  go_wp2
  go_quiet (fail)
  go_wp2
  go_ret
  exact ⟨rfl, below_drewN (Below.refl _ w) nq⟩
theorem round_aN (x : Nat) (hx : x < 18446744073709551616) (w : World) : Calls Tryz.prog 114 #[.int .u64 (x : Int), .int .u64 4294967296, .int .u64 4294967296] w fun e w' => e = .returned (.int .u64 (rotl 64 x 32 : Nat)) ∧ Below w.heap.size w w' := by
  have h := round_anyN x 32 4294967296 4294967296 (by decide) (by decide) (by decide) hx w
  exact h
theorem round_bN (x : Nat) (hx : x < 18446744073709551616) (w : World) : Calls Tryz.prog 114 #[.int .u64 (x : Int), .int .u64 16777216, .int .u64 1099511627776] w fun e w' => e = .returned (.int .u64 (rotl 64 x 40 : Nat)) ∧ Below w.heap.size w w' := by
  have h := round_anyN x 40 16777216 1099511627776 (by decide) (by decide) (by decide) hx w
  exact h
theorem round_cN (x : Nat) (hx : x < 18446744073709551616) (w : World) : Calls Tryz.prog 114 #[.int .u64 (x : Int), .int .u64 65536, .int .u64 281474976710656] w fun e w' => e = .returned (.int .u64 (rotl 64 x 48 : Nat)) ∧ Below w.heap.size w w' := by
  have h := round_anyN x 48 65536 281474976710656 (by decide) (by decide) (by decide) hx w
  exact h
theorem round_dN (x : Nat) (hx : x < 18446744073709551616) (w : World) : Calls Tryz.prog 114 #[.int .u64 (x : Int), .int .u64 9223372036854775808, .int .u64 2] w fun e w' => e = .returned (.int .u64 (rotl 64 x 1 : Nat)) ∧ Below w.heap.size w w' := by
  have h := round_anyN x 1 9223372036854775808 2 (by decide) (by decide) (by decide) hx w
  exact h
theorem quarter_steps (q : Q) (hq : q.ok) : ∃ a1 z1 d1 c1 z2 b1 a2 z3 d2 c2 z4 b2 : Nat, quarter q = ⟨a2, b2, c2, d2⟩ ∧
    (a1 = prd q.a q.b ∧ q.d ^^^ a1 = z1 ∧ d1 = rotl 64 z1 32 ∧ c1 = prd q.c d1 ∧ q.b ^^^ c1 = z2 ∧ b1 = rotl 64 z2 40) ∧ (a2 = prd a1 b1 ∧ d1 ^^^ a2 = z3 ∧ d2 = rotl 64 z3 48 ∧ c2 = prd c1 d2 ∧ b1 ^^^ c2 = z4 ∧ b2 = rotl 64 z4 1) ∧
    (a1 < 18446744073709551616 ∧ z1 < 18446744073709551616 ∧ d1 < 18446744073709551616 ∧ c1 < 18446744073709551616 ∧ z2 < 18446744073709551616 ∧ b1 < 18446744073709551616) ∧ (a2 < 18446744073709551616 ∧ z3 < 18446744073709551616 ∧ d2 < 18446744073709551616 ∧ c2 < 18446744073709551616 ∧ z4 < 18446744073709551616 ∧ b2 < 18446744073709551616) := by
  obtain ⟨a, b, c, d⟩ := q
  obtain ⟨ha, hb, hc, hd⟩ := hq
  simp only at ha hb hc hd
  have k1 := prd_lt a b
  have k2 := xor_lt64 d _ hd k1
  have k3 := rotl_lt64 _ 32 (by decide) k2
  have k4 := prd_lt c (rotl 64 (d ^^^ prd a b) 32)
  have k5 := xor_lt64 b _ hb k4
  have k6 := rotl_lt64 _ 40 (by decide) k5
  refine ⟨prd a b, _, _, _, _, _, _, _, _, _, _, _, rfl, ⟨rfl, rfl, rfl, rfl, rfl, rfl⟩, ⟨rfl, rfl, rfl, rfl, rfl, rfl⟩, ⟨k1, k2, k3, k4, k5, k6⟩, ⟨prd_lt _ _, ?_, ?_, prd_lt _ _, ?_, ?_⟩⟩
  · exact xor_lt64 _ _ k3 (prd_lt _ _)
  · exact rotl_lt64 _ _ (by decide) (xor_lt64 _ _ k3 (prd_lt _ _))
  · exact xor_lt64 _ _ k6 (prd_lt _ _)
  · exact rotl_lt64 _ _ (by decide) (xor_lt64 _ _ k6 (prd_lt _ _))
set_option maxHeartbeats 1600000 in
theorem quarter_anyN (q : Q) (hq : q.ok) (w : World) :
    Calls Tryz.prog 137 #[.int .u64 (q.a : Int), .int .u64 (q.b : Int), .int .u64 (q.c : Int), .int .u64 (q.d : Int)] w fun e w' =>
      e = .returned (.tuple #[.int .u64 ((quarter q).a : Int), .int .u64 ((quarter q).b : Int), .int .u64 ((quarter q).c : Int), .int .u64 ((quarter q).d : Int)]) ∧ w = w' := by
  obtain ⟨a1, z1, d1, c1, z2, b1, a2, z3, d2, c2, z4, b2, E, ⟨p1, p2, p3, p4, p5, p6⟩, ⟨p7, p8, p9, pa, pb, pc⟩, ⟨l1, l2, l3, l4, l5, l6⟩, ⟨l7, l8, l9, la, lb, lc⟩⟩ := quarter_steps q hq
  rw [E]
  clear E
  obtain ⟨a, b, c, d⟩ := q
  obtain ⟨ha, hb, hc, hd⟩ := hq
  simp only at ha hb hc hd p1 p2 p4 p5
  have A1 := Lib.hid fun w => prod_any a b ha hb w
  have x1 := xor64 d a1 hd l1
  have R1 := Lib.hid fun w => right_qN 32 32 rfl z1 l2 w
  have A2 := Lib.hid fun w => prod_any c d1 hc l3 w
  have x2 := xor64 b c1 hb l4
  have R2 := Lib.hid fun w => right_qN 24 40 rfl z2 l5 w
  have A3 := Lib.hid fun w => prod_any a1 b1 l1 l6 w
  have x3 := xor64 d1 a2 l3 l7
  have R3 := Lib.hid fun w => right_qN 16 48 rfl z3 l8 w
  have A4 := Lib.hid fun w => prod_any c1 d2 l4 l9 w
  have x4 := xor64 b1 c2 l6 la
  have R4 := Lib.hid fun w => right_qN 63 1 rfl z4 lb w
  rw [p2] at x1; rw [p5] at x2; rw [p8] at x3; rw [pb] at x4
  rw [← p1] at A1; rw [← p3] at R1; rw [← p4] at A2; rw [← p6] at R2; rw [← p7] at A3; rw [← p9] at R3; rw [← pa] at A4; rw [← pc] at R4
  clear p1 p2 p3 p4 p5 p6 p7 p8 p9 pa pb pc l1 l2 l3 l4 l5 l6 l7 l8 l9 la lb lc ha hb hc hd
  go_enter Tryz.func137, Tryz.ntmps137
  go_wp2_with fail
  refine (A1.out _).mono ?_; rintro e w' ⟨rfl, rfl⟩
  go_wp2_with fail
  refine (R1.out _).mono ?_; rintro e w' ⟨rfl, rfl⟩
  go_wp2_with fail
  refine (A2.out _).mono ?_; rintro e w' ⟨rfl, rfl⟩
  go_wp2_with fail
  refine (R2.out _).mono ?_; rintro e w' ⟨rfl, rfl⟩
  go_wp2_with fail
  refine (A3.out _).mono ?_; rintro e w' ⟨rfl, rfl⟩
  go_wp2_with fail
  refine (R3.out _).mono ?_; rintro e w' ⟨rfl, rfl⟩
  go_wp2_with fail
  refine (A4.out _).mono ?_; rintro e w' ⟨rfl, rfl⟩
  go_wp2_with fail
  refine (R4.out _).mono ?_; rintro e w' ⟨rfl, rfl⟩
  go_wp2
  simp [bodyPost, results, Tryz.results137, go_sem]
open Go.RowKit Rot Bn
theorem wq4N (a b c d : Nat) : (wq [a, b, c, d]).size = 4 := rfl
def FourN (w : World) (B : Nat) (a b c d : Nat) : Prop := RowAt w B 190 (wq [a, b, c, d])
theorem FourN.facts {w : World} {B a b c d : Nat} (h : FourN w B a b c d) : (w.cell? ⟨B, 0, none⟩ = some (.int .u64 (a : Int)) ∧ w.cell? ⟨B, 1, none⟩ = some (.int .u64 (b : Int)) ∧ w.cell? ⟨B, 2, none⟩ = some (.int .u64 (c : Int)) ∧ w.cell? ⟨B, 3, none⟩ = some (.int .u64 (d : Int))) ∧
    w.frozen? ⟨B, 0, none⟩ = false ∧ w.frozen? ⟨B, 1, none⟩ = false ∧ w.frozen? ⟨B, 2, none⟩ = false ∧ w.frozen? ⟨B, 3, none⟩ = false :=
  ⟨⟨(RowAt.cell h 0).trans rfl, (RowAt.cell h 1).trans rfl, (RowAt.cell h 2).trans rfl, (RowAt.cell h 3).trans rfl⟩, RowAt.frozen h 0, RowAt.frozen h 1, RowAt.frozen h 2, RowAt.frozen h 3⟩
theorem FourN.s0 {w : World} {B a b c d : Nat} (h : FourN w B a b c d) (x : Nat) : FourN (w.setCell ⟨B, 0, none⟩ (.int .u64 (x : Int))) B x b c d := RowAt.setCell h 0 _
theorem FourN.s1 {w : World} {B a b c d : Nat} (h : FourN w B a b c d) (x : Nat) : FourN (w.setCell ⟨B, 1, none⟩ (.int .u64 (x : Int))) B a x c d := RowAt.setCell h 1 _
theorem FourN.s2 {w : World} {B a b c d : Nat} (h : FourN w B a b c d) (x : Nat) : FourN (w.setCell ⟨B, 2, none⟩ (.int .u64 (x : Int))) B a b x d := RowAt.setCell h 2 _
theorem FourN.s3 {w : World} {B a b c d : Nat} (h : FourN w B a b c d) (x : Nat) : FourN (w.setCell ⟨B, 3, none⟩ (.int .u64 (x : Int))) B a b c x := RowAt.setCell h 3 _
structure F4 (w w' : World) (a b c d : Nat) : Prop where
  v : FourN w' w.heap.size a b c d
  z : FourN w' (w.heap.size + 1) 0 0 0 0
  b : Below w.heap.size w w'
section
variable {w w' w2 : World} {a b c d : Nat}
theorem F4.new (w : World) (a b c d : Nat) : F4 w ((w.alloc (.cells (wq [a, b, c, d]) 190)).alloc (.cells (wq [0, 0, 0, 0]) 190)) a b c d := by
  refine ⟨(RowAt.new w _ _).alloc _, ?_, ((Below.refl _ w).alloc (Nat.le_refl _) _).alloc (by simp) _⟩
  have h := RowAt.new (w.alloc (.cells (wq [a, b, c, d]) 190)) 190 (wq [0, 0, 0, 0])
  rw [World.size_alloc] at h; exact h
theorem F4.s0 (h : F4 w w' a b c d) (x : Nat) : F4 w (w'.setCell ⟨w.heap.size, 0, none⟩ (.int .u64 (x : Int))) x b c d := ⟨h.v.s0 x, RowAt.setOther h.z _ (by simp) _, h.b.setCell (by simp) _⟩
theorem F4.s1 (h : F4 w w' a b c d) (x : Nat) : F4 w (w'.setCell ⟨w.heap.size, 1, none⟩ (.int .u64 (x : Int))) a x c d := ⟨h.v.s1 x, RowAt.setOther h.z _ (by simp) _, h.b.setCell (by simp) _⟩
theorem F4.s2 (h : F4 w w' a b c d) (x : Nat) : F4 w (w'.setCell ⟨w.heap.size, 2, none⟩ (.int .u64 (x : Int))) a b x d := ⟨h.v.s2 x, RowAt.setOther h.z _ (by simp) _, h.b.setCell (by simp) _⟩
theorem F4.s3 (h : F4 w w' a b c d) (x : Nat) : F4 w (w'.setCell ⟨w.heap.size, 3, none⟩ (.int .u64 (x : Int))) a b c x := ⟨h.v.s3 x, RowAt.setOther h.z _ (by simp) _, h.b.setCell (by simp) _⟩
theorem F4.step (h : F4 w w' a b c d) (hb : Below w'.heap.size w' w2) : F4 w w2 a b c d :=
  ⟨RowAt.below h.v hb (RowAt.lt h.v), RowAt.below h.z hb (RowAt.lt h.z), h.b.trans (hb.mono h.b.size)⟩
end
set_option maxHeartbeats 1600000 in
theorem rquarter_anyN (q : Q) (hq : q.ok) (w : World) :
    Calls Tryz.prog 115 #[.agg (wq q.list)] w fun e w' => e = .returned (.agg (wq (quarter q).list)) ∧ Below w.heap.size w w' := by
  obtain ⟨a1, z1, d1, c1, z2, b1, a2, z3, d2, c2, z4, b2, E, ⟨p1, p2, p3, p4, p5, p6⟩, ⟨p7, p8, p9, pa, pb, pc⟩, ⟨l1, l2, l3, l4, l5, l6⟩, ⟨l7, l8, l9, la, lb, lc⟩⟩ := quarter_steps q hq
  rw [E]
  clear E
  obtain ⟨a, b, c, d⟩ := q
  obtain ⟨ha, hb, hc, hd⟩ := hq
  simp only [Q.list] at ha hb hc hd p1 p2 p4 p5 ⊢
  have A1 := Lib.hid fun w => rprod_any a b ha hb w
  have x1 := xor64 d a1 hd l1
  have R1 := Lib.hid fun w => round_aN z1 l2 w
  have A2 := Lib.hid fun w => rprod_any c d1 hc l3 w
  have x2 := xor64 b c1 hb l4
  have R2 := Lib.hid fun w => round_bN z2 l5 w
  have A3 := Lib.hid fun w => rprod_any a1 b1 l1 l6 w
  have x3 := xor64 d1 a2 l3 l7
  have R3 := Lib.hid fun w => round_cN z3 l8 w
  have A4 := Lib.hid fun w => rprod_any c1 d2 l4 l9 w
  have x4 := xor64 b1 c2 l6 la
  have R4 := Lib.hid fun w => round_dN z4 lb w
  rw [p2] at x1; rw [p5] at x2; rw [p8] at x3; rw [pb] at x4
  rw [← p1] at A1; rw [← p3] at R1; rw [← p4] at A2; rw [← p6] at R2; rw [← p7] at A3; rw [← p9] at R3; rw [← pa] at A4; rw [← pc] at R4
  clear p1 p2 p3 p4 p5 p6 p7 p8 p9 pa pb pc l1 l2 l3 l4 l5 l6 l7 l8 l9 la lb lc ha hb hc hd
  have H0 := Lib.hid (F4.new w a b c d)
  simp only [wq, u64s, List.map_cons, List.map_nil]
  go_enter Tryz.func115, Tryz.ntmps115
  go_wp2_with fail
  generalize hW0 : World.alloc _ _ = w0
  have H1 : Hid (F4 w w0 a b c d) := Lib.hid (by subst hW0; exact H0.out)
  clear hW0 H0
  refine (A1.out _).mono ?_; rintro e w' ⟨rfl, rfl⟩
  have H2 := Lib.hid (H1.out.s0 a1)
  obtain ⟨⟨c0, c1', c2', c3⟩, f0, f1', f2', f3'⟩ := H1.out.v.facts
  clear H1 A1
  go_wp2_with fail
  generalize hW : World.setCell _ _ _ = w1
  have H1 : Hid (F4 w w1 a1 b c d) := Lib.hid (by subst hW; exact H2.out)
  clear hW H2
  clear c0 c1' c2' c3 f0 f1' f2' f3'
  refine (R1.out _).mono ?_; rintro e v2 ⟨rfl, hb⟩
  have H2 := Lib.hid ((H1.out.step hb).s3 d1)
  obtain ⟨⟨c0, c1', c2', c3⟩, f0, f1', f2', f3'⟩ := (H1.out.step hb).v.facts
  clear hb
  clear H1 R1
  go_wp2_with fail
  generalize hW : World.setCell _ _ _ = w2
  have H1 : Hid (F4 w w2 a1 b c d1) := Lib.hid (by subst hW; exact H2.out)
  clear hW H2
  clear c0 c1' c2' c3 f0 f1' f2' f3'
  refine (A2.out _).mono ?_; rintro e w' ⟨rfl, rfl⟩
  have H2 := Lib.hid (H1.out.s2 c1)
  obtain ⟨⟨c0, c1', c2', c3⟩, f0, f1', f2', f3'⟩ := H1.out.v.facts
  clear H1 A2
  go_wp2_with fail
  generalize hW : World.setCell _ _ _ = w3
  have H1 : Hid (F4 w w3 a1 b c1 d1) := Lib.hid (by subst hW; exact H2.out)
  clear hW H2
  clear c0 c1' c2' c3 f0 f1' f2' f3'
  refine (R2.out _).mono ?_; rintro e v4 ⟨rfl, hb⟩
  have H2 := Lib.hid ((H1.out.step hb).s1 b1)
  obtain ⟨⟨c0, c1', c2', c3⟩, f0, f1', f2', f3'⟩ := (H1.out.step hb).v.facts
  clear hb
  clear H1 R2
  go_wp2_with fail
  generalize hW : World.setCell _ _ _ = w4
  have H1 : Hid (F4 w w4 a1 b1 c1 d1) := Lib.hid (by subst hW; exact H2.out)
  clear hW H2
  clear c0 c1' c2' c3 f0 f1' f2' f3'
  refine (A3.out _).mono ?_; rintro e w' ⟨rfl, rfl⟩
  have H2 := Lib.hid (H1.out.s0 a2)
  obtain ⟨⟨c0, c1', c2', c3⟩, f0, f1', f2', f3'⟩ := H1.out.v.facts
  clear H1 A3
  go_wp2_with fail
  generalize hW : World.setCell _ _ _ = w5
  have H1 : Hid (F4 w w5 a2 b1 c1 d1) := Lib.hid (by subst hW; exact H2.out)
  clear hW H2
  clear c0 c1' c2' c3 f0 f1' f2' f3'
  refine (R3.out _).mono ?_; rintro e v6 ⟨rfl, hb⟩
  have H2 := Lib.hid ((H1.out.step hb).s3 d2)
  obtain ⟨⟨c0, c1', c2', c3⟩, f0, f1', f2', f3'⟩ := (H1.out.step hb).v.facts
  clear hb
  clear H1 R3
  go_wp2_with fail
  generalize hW : World.setCell _ _ _ = w6
  have H1 : Hid (F4 w w6 a2 b1 c1 d2) := Lib.hid (by subst hW; exact H2.out)
  clear hW H2
  clear c0 c1' c2' c3 f0 f1' f2' f3'
  refine (A4.out _).mono ?_; rintro e w' ⟨rfl, rfl⟩
  have H2 := Lib.hid (H1.out.s2 c2)
  obtain ⟨⟨c0, c1', c2', c3⟩, f0, f1', f2', f3'⟩ := H1.out.v.facts
  clear H1 A4
  go_wp2_with fail
  generalize hW : World.setCell _ _ _ = w7
  have H1 : Hid (F4 w w7 a2 b1 c2 d2) := Lib.hid (by subst hW; exact H2.out)
  clear hW H2
  clear c0 c1' c2' c3 f0 f1' f2' f3'
  refine (R4.out _).mono ?_; rintro e v8 ⟨rfl, hb⟩
  have H2 := Lib.hid ((H1.out.step hb).s1 b2)
  obtain ⟨⟨c0, c1', c2', c3⟩, f0, f1', f2', f3'⟩ := (H1.out.step hb).v.facts
  clear hb
  clear H1 R4
  have RA := Lib.hid H2.out.v
  have RZ := Lib.hid H2.out.z
  have HB := Lib.hid H2.out.b
  clear H2
  go_wp2_with (first
    | refine wpList_load_row rfl 190 (.tmp 1) rfl w.heap.size rfl 190 (wq [a2, b2, c2, d2]) (0, 0) _ RA.out Tryz.underlying190 rfl (by rw [wq4N]; exact q_size4N) ?_
    | refine wpList_store_row rfl 190 (.tmp 2) (.tmp 55) rfl (w.heap.size + 1) (wq [a2, b2, c2, d2]) rfl rfl 190 _ RZ.out (by rw [wq4N]; exact q_size4N) (by rw [wq4N, wq4N]) (wq_one _) ?_)
  have hR := RowAt.setRow RZ.out (wq [a2, b2, c2, d2])
  refine bodyPost_ret (v := .agg (wq [a2, b2, c2, d2])) (results_cell_row rfl _ _ (w.heap.size + 1) 190 (wq [a2, b2, c2, d2]) (0, 0) _ rfl hR Tryz.underlying190 rfl (by rw [wq4N]; exact q_size4N)) rfl ⟨rfl, ?_⟩
  exact below_setRow HB.out (by omega) _
open Go.RowKit Rot Bn
section
variable {w : World} {ev : Operand → Value} {x y : Operand} {o : Oper} {B i : Nat}
theorem ix16_runN (hop : o.op = .indexAddr 185 x y) (hx : ev x = .pointer (some ⟨B, 0, none⟩)) (hy : ev y = .int .i64 (i : Int)) (hi : i < 16) : (execOp ev o).run Tryz.prog w = .ok (.value (.pointer (some ⟨B, i, none⟩))) w := by
  have h1 : (i : Int) < 16 := by omega
  simp [execOp, hop, hx, hy, go_sem, h1]
theorem ld_runN {v : Value} (hop : o.op = .load 52 x) (hx : ev x = .pointer (some ⟨B, i, none⟩)) (hc : w.cell? ⟨B, i, none⟩ = some v) : (execOp ev o).run Tryz.prog w = .ok (.value v) w := by
  simp [execOp, hop, hx, hc, go_sem]
theorem ex_runN {cs : Array Value} {v : Value} (hop : o.op = .extract x i) (hx : ev x = .tuple cs) (hc : cs[i]? = some v) : (execOp ev o).run Tryz.prog w = .ok (.value v) w := by
  simp [execOp, hop, hx, hc, go_sem]
theorem st_runN {v : Value} {z : Int} (hop : o.op = .store 52 x y) (hx : ev x = .pointer (some ⟨B, i, none⟩)) (hy : ev y = .int .u64 z) (hc : w.cell? ⟨B, i, none⟩ = some v) (hf : w.frozen? ⟨B, i, none⟩ = false) : (execOp ev o).run Tryz.prog w = .ok .skip (w.setCell ⟨B, i, none⟩ (.int .u64 z)) := by
  simp [execOp, hop, hx, hy, hc, hf, go_sem]
end
section
variable {P : Program} {o : Oper} {a : Act} {w : World} {Q : Exit → Act → World → Prop}
theorem op_call4N {p : Value → World → Prop} {f : FuncId} {x1 x2 x3 x4 : Operand} {ts : Array TypeId} {v1 v2 v3 v4 : Value} (ho : o.op = .call { callee := .value (.func f), args := #[x1, x2, x3, x4], argTypes := ts }) (he : ∀ (args : Array Value) (w : World), (callFunc f args).run P w = .ok (.enter f args) w)
    (h1 : a.eval x1 = v1) (h2 : a.eval x2 = v2) (h3 : a.eval x3 = v3) (h4 : a.eval x4 = v4) (hc : Calls P f #[v1, v2, v3, v4] w fun e w' => ∃ v, e = .returned v ∧ p v w' ∧ Below w.heap.size w w') : Does P p o a w Q := by
  subst h1; subst h2; subst h3; subst h4
  exact op_call ho he hc
theorem st_doesN {W' : World → Prop} {x y : Operand} {B i : Nat} {v : Value} {z : Int} (hop : o.op = .store 52 x y) (hx : a.eval x = .pointer (some ⟨B, i, none⟩)) (hy : a.eval y = .int .u64 z) (hc : w.cell? ⟨B, i, none⟩ = some v) (hf : w.frozen? ⟨B, i, none⟩ = false)
    (h : W' (w.setCell ⟨B, i, none⟩ (.int .u64 z))) : o.wp Tryz.prog a w (fun a' w' => a' = a.put o.dst undef ∧ W' w') Q := by
  unfold Oper.wp
  rw [st_runN hop hx hy hc hf]
  exact ⟨rfl, h⟩
end
def QAtN (w : World) : Prop := 2 < w.heap.size ∧ ∀ i, i < 32 → w.cell? ⟨2, i, none⟩ = some (.int .i64 (qq.getD i 0 : Nat))
theorem QAtN.below {w w' : World} {B : Nat} (h : QAtN w) (hb : Below B w w') (hB : 2 < B) : QAtN w' :=
  ⟨Nat.lt_of_lt_of_le h.1 hb.size, fun i hi => (hb.cell (p := ⟨2, i, none⟩) hB).trans (h.2 i hi)⟩
theorem QAtN.next {w w' : World} (h : QAtN w) (hb : Below w.heap.size w w') : QAtN w' := h.below hb h.1
theorem size_32 : (Tryz.prog.info? 227).map (·.size) = some 32 := by kernel_rfl
theorem tab_loadN {w : World} (h : QAtN w) : (loadVar 227 ⟨2, 0, none⟩).run Tryz.prog w = .ok (.agg (iqN qq)) w := by
  have hl : (loadCells ⟨2, 0, none⟩ (qq.map fun x : Nat => Value.int .i64 (x : Int)).length).run Tryz.prog w = .ok (qq.map fun x : Nat => Value.int .i64 (x : Int)).toArray w :=
    run_loadCells_list (P := Tryz.prog) w ⟨2, 0, none⟩ _ (fun j v hv => by
      have hadd : (⟨2, 0, none⟩ : Addr).add j = ⟨2, j, none⟩ := by unfold Addr.add; split <;> simp_all
      have hj : j < 32 := by
        have := (List.getElem?_eq_some_iff.1 hv).1
        rw [List.length_map] at this
        exact this
      rw [hadd, h.2 j hj]
      rw [List.getElem?_map, List.getElem?_eq_getElem (show j < qq.length from hj)] at hv
      rw [List.getD_eq_getElem?_getD, List.getElem?_eq_getElem (show j < qq.length from hj)]
      exact hv)
  rw [List.length_map, show qq.length = 32 from rfl] at hl
  have hz := size_32
  cases hq : Tryz.prog.info? 227 with
  | none => rw [hq] at hz; simp at hz
  | some i =>
    have hsz : i.size = 32 := by rw [hq] at hz; simpa using hz
    simp [loadVar, Sem.run_bind, sizeOf, typeInfo, hq, hsz, hl, iqN]
theorem qq_partN (i : Nat) (hi : i < 8) : (iqN qq).extract (i * 4) (i * 4 + 4) = iqN [pt i 0, pt i 1, pt i 2, pt i 3] := by
  have h : ∀ i, i < 8 → (qq.drop (i * 4)).take 4 = [pt i 0, pt i 1, pt i 2, pt i 3] := by decide
  rw [← h i hi]
  simp [iqN, List.map_take, List.map_drop]
theorem tab_indexN (w : World) (i : Nat) (hi : i < 8) : (Instr.index 227 (.agg (iqN qq)) (.int .i64 (i : Int))).run Tryz.prog w = .ok (.agg (iqN [pt i 0, pt i 1, pt i 2, pt i 3])) w := by
  have hz := q_int4N
  cases hq : Tryz.prog.info? 188 with
  | none => rw [hq] at hz; simp at hz
  | some q =>
    have hsz : q.size = 4 := by rw [hq] at hz; simpa using hz
    simp [Instr.index, run_underlying Tryz.underlying227, asIntOf, hi, go_sem, sizeOf, typeInfo, hq, hsz, qq_partN i hi]
structure Dx (w wr : World) (v : List Nat) : Prop where
  rv : RowAt wr w.heap.size 185 (wq v)
  rz : RowAt wr (w.heap.size + 1) 185 (wq (List.replicate 16 0))
  below : Below w.heap.size w wr
section
variable {w wr wr' : World} {v : List Nat}
theorem Dx.new (w : World) (v : List Nat) : Dx w ((w.alloc (.cells (wq v) 185)).alloc (.cells (wq (List.replicate 16 0)) 185)) v := by
  refine ⟨(RowAt.new w _ _).alloc _, ?_, ((Below.refl _ w).alloc (Nat.le_refl _) _).alloc (by simp) _⟩
  have h := RowAt.new (w.alloc (.cells (wq v) 185)) 185 (wq (List.replicate 16 0))
  rw [World.size_alloc] at h; exact h
theorem Dx.lt (h : Dx w wr v) : w.heap.size + 2 ≤ wr.heap.size := h.rz.lt
theorem Dx.step (h : Dx w wr v) (hb : Below wr.heap.size wr wr') : Dx w wr' v :=
  ⟨h.rv.below hb h.rv.lt, h.rz.below hb h.rz.lt, h.below.trans (hb.mono h.below.size)⟩
theorem Dx.set (h : Dx w wr v) (i x : Nat) : Dx w (wr.setCell ⟨w.heap.size, i, none⟩ (.int .u64 (x : Int))) (v.set i x) :=
  ⟨by rw [← wq_set]; exact h.rv.setCell i _, h.rz.setOther _ (by simp) _, h.below.setCell (by simp) _⟩
end
open Go.RowKit Rot Bn
set_option maxHeartbeats 3200000 in
theorem permute_any (x : List Nat) (hx : x.length = 16) (ho : okw x) (w : World) (hk : QAtN w) :
    Calls Tryz.prog 130 #[.agg (wq x)] w fun e w' => e = .returned (.agg (wq (perm x))) ∧ Below w.heap.size w w' := by
  have HL := Lib.hid hx
  have HO := Lib.hid ho
  have HQ := Lib.hid (hk.next (Dx.new w x).below)
  have HD := Lib.hid (Dx.new w x)
  clear hx ho hk
  go_enter Tryz.func130, Tryz.ntmps130
  go_wp2_with (refine wpList_load_of rfl 227 (.global 2) rfl ⟨2, 0, none⟩ _ rfl (tab_loadN HQ.out) ?_)
  generalize hW0 : World.alloc _ _ = w0
  have HX0 : Hid (Dx w w0 x) := Lib.hid (by subst hW0; exact HD.out)
  clear hW0 HQ HD
  go_loopw [10] (fun v10 wr => ∃ i : Nat, i ≤ 8 ∧ v10 = .int .i64 (i : Int) ∧ Dx w wr (qTo x i)) (fun v10 _ => 8 - (intOf v10).toNat)
  case atStart => exact ⟨0, by omega, rfl, HX0.out⟩
  case round =>
    clear HX0
    obtain ⟨i, hi, rfl, X⟩ := hrel
    have HX := Lib.hid X
    have hsz5 := X.lt
    clear X
    by_cases h8 : i < 8
    · have hdt : decide ((i : Int) < 8) = true := by simp; omega
      have hix := tab_indexN wr i h8
      have hp0 := pt_lt i 0 h8 (by decide)
      have hp1 := pt_lt i 1 h8 (by decide)
      have hp2 := pt_lt i 2 h8 (by decide)
      have hp3 := pt_lt i 3 h8 (by decide)
      have hvi : (qTo x i).length = 16 := by rw [qTo_length]; exact HL.out
      have hok := take4_ok (qTo_ok HO.out i) i
      have HN : Hid (qTo x (i + 1) = put4 (qTo x i) i (quarter (take4 (qTo x i) i))) := Lib.hid (by rw [qTo])
      have HPT : Hid (∀ q : Q, put4 (qTo x i) i q = ((((qTo x i).set (pt i 0) q.a).set (pt i 1) q.b).set (pt i 2) q.c).set (pt i 3) q.d) := Lib.hid fun _ => rfl
      have HTK : Hid (take4 (qTo x i) i = ⟨(qTo x i).getD (pt i 0) 0, (qTo x i).getD (pt i 1) 0, (qTo x i).getD (pt i 2) 0, (qTo x i).getD (pt i 3) 0⟩) := Lib.hid rfl
      generalize qTo x i = vi at *
      have CQ := Lib.hid fun w => quarter_anyN (take4 vi i) hok w
      generalize hqd : quarter (take4 vi i) = q at *
      rw [HTK.out] at CQ
      rw [HPT.out] at HN
      clear hqd HPT HTK hok
      obtain ⟨qa, qb, qc, qd⟩ := q
      simp only at CQ HN
      have hw0 := wq_at vi (pt i 0) (by omega)
      have hw1 := wq_at vi (pt i 1) (by omega)
      have hw2 := wq_at vi (pt i 2) (by omega)
      have hw3 := wq_at vi (pt i 3) (by omega)
      generalize pt i 0 = pa at *
      generalize pt i 1 = pb at *
      generalize pt i 2 = pc at *
      generalize pt i 3 = pd at *
      generalize vi.getD pa 0 = va at *
      generalize vi.getD pb 0 = vb at *
      generalize vi.getD pc 0 = vc at *
      generalize vi.getD pd 0 = vd at *
      obtain ⟨B, hB⟩ : ∃ B, B = w.heap.size := ⟨_, rfl⟩
      obtain ⟨W, hWd⟩ : ∃ W : Nat → World → Prop, W = fun k w' => Dx w w' ([vi, (vi.set pa qa), ((vi.set pa qa).set pb qb), (((vi.set pa qa).set pb qb).set pc qc), ((((vi.set pa qa).set pb qb).set pc qc).set pd qd)].getD k []) := ⟨_, rfl⟩
      have HWS : Hid (∀ k w w', W k w → Below w.heap.size w w' → W k w') := Lib.hid fun k w w' h hb => by subst hWd; exact h.step hb
      have HF0 : Hid (∀ w', W 0 w' → w'.cell? ⟨B, pa, none⟩ = some (.int .u64 (va : Int)) ∧ w'.cell? ⟨B, pb, none⟩ = some (.int .u64 (vb : Int)) ∧ w'.cell? ⟨B, pc, none⟩ = some (.int .u64 (vc : Int)) ∧ w'.cell? ⟨B, pd, none⟩ = some (.int .u64 (vd : Int))) := Lib.hid fun w' h => by
        subst hWd; subst hB
        exact ⟨(h.rv.cell pa).trans hw0, (h.rv.cell pb).trans hw1, (h.rv.cell pc).trans hw2, (h.rv.cell pd).trans hw3⟩
      have turn : ∀ (k p x : Nat) (u u' : List Nat), u.length = 16 → p < 16 → u' = u.set p x → [vi, (vi.set pa qa), ((vi.set pa qa).set pb qb), (((vi.set pa qa).set pb qb).set pc qc), ((((vi.set pa qa).set pb qb).set pc qc).set pd qd)].getD k [] = u →
          [vi, (vi.set pa qa), ((vi.set pa qa).set pb qb), (((vi.set pa qa).set pb qb).set pc qc), ((((vi.set pa qa).set pb qb).set pc qc).set pd qd)].getD (k + 1) [] = u' → ∀ w', W k w' → (∃ v, w'.cell? ⟨B, p, none⟩ = some v) ∧ w'.frozen? ⟨B, p, none⟩ = false ∧ W (k + 1) (w'.setCell ⟨B, p, none⟩ (.int .u64 (x : Int))) := fun k p x u u' hu hp e0 e1 e2 w' h1 => by
        subst hWd; subst hB
        simp only at h1 ⊢
        rw [e1] at h1
        refine ⟨⟨_, (h1.rv.cell p).trans (wq_at u p (by omega))⟩, h1.rv.frozen p, ?_⟩
        rw [e2, e0]
        exact h1.set p x
      have HT0 := Lib.hid (turn 0 pa qa _ _ hvi hp0 rfl rfl rfl)
      have HT1 := Lib.hid (turn 1 pb qb _ _ (by simpa using hvi) hp1 rfl rfl rfl)
      have HT2 := Lib.hid (turn 2 pc qc _ _ (by simpa using hvi) hp2 rfl rfl rfl)
      have HT3 := Lib.hid (turn 3 pd qd _ _ (by simpa using hvi) hp3 rfl rfl rfl)
      have HZ0 : Hid (∀ w', Dx w w' vi → W 0 w') := Lib.hid fun w' h1 => by subst hWd; exact h1
      have HZ4 : Hid (∀ w', W 4 w' → Dx w w' ((((vi.set pa qa).set pb qb).set pc qc).set pd qd)) := Lib.hid fun w' h => by subst hWd; exact h
      clear turn hWd hw0 hw1 hw2 hw3 hvi
      rw [← hB]
      clear hB
      go_wp2_with (refine wpList_store_row rfl 188 (.tmp 4) (.tmp 12) rfl wr.heap.size (iqN [pa, pb, pc, pd]) rfl rfl 188 _ (RowAt.new _ _ _) (by rw [iq_sizeN]; exact q_int4N) rfl (iq_oneN _) ?_)
      obtain ⟨B4, hB4⟩ : ∃ k, k = wr.heap.size := ⟨_, rfl⟩
      rw [← hB4]
      generalize hWc : World.setRow _ _ _ = wc
      have hbc : Below wr.heap.size wr wc := by
        subst hWc
        exact below_setRow ((Below.refl _ wr).alloc (Nat.le_refl _) _) (by omega) _
      have RQ : RowAt wc B4 188 (iqN [pa, pb, pc, pd]) := by
        subst hWc; subst hB4
        exact (RowAt.new wr _ _).setRow _
      have hWc0 := HZ0.out wc (HX.out.step hbc)
      have k0 : wc.cell? ⟨B4, 0, none⟩ = some (.int .i64 (pa : Int)) := (RQ.cell 0).trans rfl
      have k1 : wc.cell? ⟨B4, 1, none⟩ = some (.int .i64 (pb : Int)) := (RQ.cell 1).trans rfl
      have k2 : wc.cell? ⟨B4, 2, none⟩ = some (.int .i64 (pc : Int)) := (RQ.cell 2).trans rfl
      have k3 : wc.cell? ⟨B4, 3, none⟩ = some (.int .i64 (pd : Int)) := (RQ.cell 3).trans rfl
      have HW0 := Lib.hid hWc0
      clear hWc hbc RQ hWc0 HX HZ0 hB4
      simp only [Act.put]
      go_quiet (fail)
      have HW1 := Lib.hid (HWS.out 0 wc (wc.drewN nq) HW0.out (below_drewN (Below.refl _ _) nq))
      clear k0 k1 k2 k3 HW0
      go_wp2
      refine wp_region_seq [23, 25, 27, 29] [.int .i64 (pa : Int), .int .i64 (pb : Int), .int .i64 (pc : Int), .int .i64 (pd : Int), .int .i64 (pa : Int), .pointer (some ⟨B, pa, none⟩), .int .u64 (va : Int), .int .i64 (pb : Int), .pointer (some ⟨B, pb, none⟩), .int .u64 (vb : Int), .int .i64 (pc : Int), .pointer (some ⟨B, pc, none⟩), .int .u64 (vc : Int), .int .i64 (pd : Int), .pointer (some ⟨B, pd, none⟩), .int .u64 (vd : Int), .tuple #[.int .u64 (qa : Int), .int .u64 (qb : Int), .int .u64 (qc : Int), .int .u64 (qd : Int)], .tuple #[.int .u64 (qa : Int), .int .u64 (qb : Int), .int .u64 (qc : Int), .int .u64 (qd : Int)], .int .u64 (qa : Int), .int .u64 (qb : Int), .int .u64 (qc : Int), .int .u64 (qd : Int), .pointer (some ⟨B, pa, none⟩), undef, .pointer (some ⟨B, pb, none⟩), undef, .pointer (some ⟨B, pc, none⟩), undef, .pointer (some ⟨B, pd, none⟩), undef] W (by kernel_rfl) (by kernel_rfl) rfl (HWS.out 0 _ _ HW1.out (Below.refl _ _).drew) ⟨?_, ?_, ?_, ?_, ?_, ?_, ?_, ?_, ?_, ?_, ?_, ?_, ?_, ?_, ?_, ?_, ?_, ?_, ?_, ?_, ?_, ?_, ?_, ?_, ?_, ?_, ?_, ?_, ?_, ?_, trivial⟩ ?_
      · exact seq_head (by kernel_rfl) (HWS.out 0) fun a w C hW => op_move (.inl rfl) (C.was 5 (by kernel_rfl))
      · exact seq_float (by kernel_rfl) HWS.out fun a w C => op_move (.inl rfl) (C.was 6 (by kernel_rfl))
      · exact seq_float (by kernel_rfl) HWS.out fun a w C => op_move (.inl rfl) (C.was 7 (by kernel_rfl))
      · exact seq_float (by kernel_rfl) HWS.out fun a w C => op_move (.inl rfl) (C.was 8 (by kernel_rfl))
      · exact seq_head (by kernel_rfl) (HWS.out 0) fun a w C hW => op_move (.inl rfl) (C.was 5 (by kernel_rfl))
      · exact seq_head (by kernel_rfl) (HWS.out 0) fun a w C hW => op_value (ix16_runN rfl (C.was 1 (by kernel_rfl)) (C.on (j := 4) (by kernel_rfl) rfl rfl) hp0) rfl
      · exact seq_head (by kernel_rfl) (HWS.out 0) fun a w C hW => op_value (ld_runN rfl (C.on (j := 5) (by kernel_rfl) rfl rfl) (HF0.out _ hW).1) rfl
      · exact seq_head (by kernel_rfl) (HWS.out 0) fun a w C hW => op_move (.inl rfl) (C.was 6 (by kernel_rfl))
      · exact seq_head (by kernel_rfl) (HWS.out 0) fun a w C hW => op_value (ix16_runN rfl (C.was 1 (by kernel_rfl)) (C.on (j := 7) (by kernel_rfl) rfl rfl) hp1) rfl
      · exact seq_head (by kernel_rfl) (HWS.out 0) fun a w C hW => op_value (ld_runN rfl (C.on (j := 8) (by kernel_rfl) rfl rfl) (HF0.out _ hW).2.1) rfl
      · exact seq_head (by kernel_rfl) (HWS.out 0) fun a w C hW => op_move (.inl rfl) (C.was 7 (by kernel_rfl))
      · exact seq_head (by kernel_rfl) (HWS.out 0) fun a w C hW => op_value (ix16_runN rfl (C.was 1 (by kernel_rfl)) (C.on (j := 10) (by kernel_rfl) rfl rfl) hp2) rfl
      · exact seq_head (by kernel_rfl) (HWS.out 0) fun a w C hW => op_value (ld_runN rfl (C.on (j := 11) (by kernel_rfl) rfl rfl) (HF0.out _ hW).2.2.1) rfl
      · exact seq_head (by kernel_rfl) (HWS.out 0) fun a w C hW => op_move (.inl rfl) (C.was 8 (by kernel_rfl))
      · exact seq_head (by kernel_rfl) (HWS.out 0) fun a w C hW => op_value (ix16_runN rfl (C.was 1 (by kernel_rfl)) (C.on (j := 13) (by kernel_rfl) rfl rfl) hp3) rfl
      · exact seq_head (by kernel_rfl) (HWS.out 0) fun a w C hW => op_value (ld_runN rfl (C.on (j := 14) (by kernel_rfl) rfl rfl) (HF0.out _ hW).2.2.2) rfl
      · exact seq_head (by kernel_rfl) (HWS.out 0) fun a w C hW => op_call4N rfl (reg_enters Tryz.func137 (by kernel_rfl) (by kernel_rfl)) (C.on (j := 6) (by kernel_rfl) rfl rfl) (C.on (j := 9) (by kernel_rfl) rfl rfl) (C.on (j := 12) (by kernel_rfl) rfl rfl) (C.on (j := 15) (by kernel_rfl) rfl rfl) ((CQ.out w).mono fun e w2 h => by obtain ⟨rfl, rfl⟩ := h; exact ⟨_, rfl, rfl, Below.refl _ _⟩)
      · exact seq_head (by kernel_rfl) (HWS.out 0) fun a w C hW => op_move (.inl rfl) (C.on (j := 16) (by kernel_rfl) rfl rfl)
      · exact seq_head (by kernel_rfl) (HWS.out 0) fun a w C hW => op_value (ex_runN rfl (C.on (j := 17) (by kernel_rfl) rfl rfl) rfl) rfl
      · exact seq_float (by kernel_rfl) HWS.out fun a w C => op_value (ex_runN rfl (C.on (j := 17) (by kernel_rfl) rfl rfl) rfl) rfl
      · exact seq_float (by kernel_rfl) HWS.out fun a w C => op_value (ex_runN rfl (C.on (j := 17) (by kernel_rfl) rfl rfl) rfl) rfl
      · exact seq_float (by kernel_rfl) HWS.out fun a w C => op_value (ex_runN rfl (C.on (j := 17) (by kernel_rfl) rfl rfl) rfl) rfl
      · exact seq_head (by kernel_rfl) (HWS.out 0) fun a w C hW => op_value (ix16_runN rfl (C.was 1 (by kernel_rfl)) (C.on (j := 0) (by kernel_rfl) rfl rfl) hp0) rfl
      · exact seq_turn 0 (by kernel_rfl) fun a w C hW => by
            obtain ⟨⟨u, hu⟩, hf, hn⟩ := HT0.out w hW
            exact st_doesN rfl (C.on (j := 22) (by kernel_rfl) rfl rfl) (C.on (j := 18) (by kernel_rfl) rfl rfl) hu hf hn
      · exact seq_float (by kernel_rfl) HWS.out fun a w C => op_value (ix16_runN rfl (C.was 1 (by kernel_rfl)) (C.on (j := 1) (by kernel_rfl) rfl rfl) hp1) rfl
      · exact seq_turn 1 (by kernel_rfl) fun a w C hW => by
            obtain ⟨⟨u, hu⟩, hf, hn⟩ := HT1.out w hW
            exact st_doesN rfl (C.on (j := 24) (by kernel_rfl) rfl rfl) (C.on (j := 19) (by kernel_rfl) rfl rfl) hu hf hn
      · exact seq_float (by kernel_rfl) HWS.out fun a w C => op_value (ix16_runN rfl (C.was 1 (by kernel_rfl)) (C.on (j := 2) (by kernel_rfl) rfl rfl) hp2) rfl
      · exact seq_turn 2 (by kernel_rfl) fun a w C hW => by
            obtain ⟨⟨u, hu⟩, hf, hn⟩ := HT2.out w hW
            exact st_doesN rfl (C.on (j := 26) (by kernel_rfl) rfl rfl) (C.on (j := 20) (by kernel_rfl) rfl rfl) hu hf hn
      · exact seq_float (by kernel_rfl) HWS.out fun a w C => op_value (ix16_runN rfl (C.was 1 (by kernel_rfl)) (C.on (j := 3) (by kernel_rfl) rfl rfl) hp3) rfl
      · exact seq_turn 3 (by kernel_rfl) fun a w C hW => by
            obtain ⟨⟨u, hu⟩, hf, hn⟩ := HT3.out w hW
            exact st_doesN rfl (C.on (j := 28) (by kernel_rfl) rfl rfl) (C.on (j := 21) (by kernel_rfl) rfl rfl) hu hf hn
      intro wz hz
      have HZ1 := Lib.hid (HZ4.out wz hz)
      clear hz HF0 HT0 HT1 HT2 HT3 HWS HW1 HZ4 CQ
      simp only [setAll, setAt, List.setIfInBounds_toArray, List.set_cons_succ, List.set_cons_zero]
      go_wp2
      go_roundw
      case rel => exact ⟨i + 1, by omega, by go_num, by rw [HN.out]; exact HZ1.out⟩
      case measure => simp [intOf]; omega
    · obtain rfl : i = 8 := by omega
      have hdt : decide (((8 : Nat) : Int) < 8) = false := by simp
      have hl : (wq (perm x)).size = 16 := by rw [wq_size, perm_length]; exact HL.out
      have HLL := Lib.hid hl
      have hX8 : Dx w wr (perm x) := HX.out
      have RV := Lib.hid hX8.rv
      have RZ := Lib.hid hX8.rz
      have HB := Lib.hid hX8.below
      clear hl hX8 HX hsz5
      go_wp2_with (first
        | refine wpList_load_row rfl 185 (.tmp 1) rfl w.heap.size rfl 185 (wq (perm x)) (0, 0) _ RV.out Tryz.underlying185 rfl (by rw [HLL.out]; exact q_size16N) ?_
        | refine wpList_store_row rfl 185 (.tmp 2) (.tmp 48) rfl (w.heap.size + 1) (wq (perm x)) rfl rfl 185 _ RZ.out (by rw [HLL.out]; exact q_size16N) (by rw [HLL.out]; rfl) (wq_one _) ?_)
      have hR := RowAt.setRow RZ.out (wq (perm x))
      refine bodyPost_ret (v := .agg (wq (perm x))) (results_cell_row rfl _ _ (w.heap.size + 1) 185 (wq (perm x)) (0, 0) _ rfl hR Tryz.underlying185 rfl (by rw [HLL.out]; exact q_size16N)) rfl ⟨rfl, ?_⟩
      exact below_setRow HB.out (by omega) _
end Go.Proofs.YtfoodaobiknihaaGreatDoor
