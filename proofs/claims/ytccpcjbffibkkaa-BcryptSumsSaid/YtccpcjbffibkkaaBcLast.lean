/- bcrypt's example, cost 5: the words that come behind its rounds. Pure. Made by mk_bclast.py. -/
import Derived.Test.YtccpcjbffibkkaaBcRa
import Derived.Test.YtccpcjbffibkkaaBcRb
import Derived.Test.YtccpcjbffibkkaaPi
namespace Go.Proofs.Ytccpcjbffibkkaa.Ci
set_option maxRecDepth 50000
open Pi16

/-- the words of pi, cut out of its digits -/
def gP (j : Nat) : Nat := Nat.mod (Nat.shiftRight wl (Nat.sub 33756 (Nat.mul 32 j))) 4294967296
theorem cut_more (x k : Nat) : x % 16 ^ (k + 1) = 16 * (x / 16 % 16 ^ k) + x % 16 := by
  rw [Nat.pow_succ, Nat.mul_comm (16 ^ k) 16, Nat.mod_mul]; omega
theorem wordTo_cut (i : Nat) (hi : i < 1042) : ∀ k, k < 8 → wordTo i (k + 1) = wl / 16 ^ (8446 - (8 * i + k)) % 16 ^ (k + 1)
  | 0, _ => by show 16 * 0 + piD (8 * i + 0) = _; unfold piD; simp
  | k + 1, h => by
    show 16 * wordTo i (k + 1) + piD (8 * i + (k + 1)) = _
    rw [wordTo_cut i hi k (by omega), cut_more _ (k + 1), Nat.div_div_eq_div_mul, show 8446 - (8 * i + k) = 8446 - (8 * i + (k + 1)) + 1 by omega, Nat.pow_succ]
    rfl
theorem gP_word (j : Nat) (h : j < 1042) : gP j = wordN j := by
  have e := wordTo_cut j h 7 (by omega)
  show wl >>> (33756 - 32 * j) % 4294967296 = wordTo j 8
  rw [e, Nat.shiftRight_eq_div_pow, show 33756 - 32 * j = 4 * (8446 - (8 * j + 7)) by omega, Nat.pow_mul]
def okP (j : Nat) : Bool := Nat.beq (rt tP j) (gP j)
theorem okP_all : (all2 okP 10 0 && all2 okP 4 1024 && all2 okP 1 1040) = true := by kernel_rfl
theorem is_pi : Hld tP wordN := fun j hj => by
  rw [← gP_word j hj]
  have a := okP_all
  simp only [Bool.and_eq_true] at a
  obtain ⟨⟨a1, a2⟩, a3⟩ := a
  refine Nat.eq_of_beq_eq_true ?_
  rcases (show j < 1024 ∨ (1024 ≤ j ∧ j < 1040) ∨ (1040 ≤ j ∧ j < 1042) by omega) with c | c | c
  · have := all2_at okP 10 0 a1 j c
    rwa [Nat.zero_add] at this
  · have := all2_at okP 4 1024 a2 (j - 1024) (show j - 1024 < 16 by omega)
    rwa [show 1024 + (j - 1024) = j by omega] at this
  · have := all2_at okP 1 1040 a3 (j - 1040) (show j - 1040 < 2 by omega)
    rwa [show 1040 + (j - 1040) = j by omega] at this

/-- the example's salt, and its password with a byte 0 behind it -/
def saltX : ByteArray := ⟨#[16, 65, 4, 16, 65, 4, 16, 65, 4, 16, 65, 4, 16, 65, 4, 16]⟩
def keyX : ByteArray := ⟨#[85, 42, 85, 0]⟩
theorem wdTo_round (s : ByteArray) (i : Nat) (h : s.size = 16) : ∀ k, wdTo s i k = wdTo s (i % 4) k
  | 0 => rfl
  | k + 1 => by rw [wdTo, wdTo, wdTo_round s i h k, h, show (4 * i + k) % 16 = (4 * (i % 4) + k) % 16 by omega]
theorem wdTo_key (s : ByteArray) (i : Nat) (h : s.size = 4) : ∀ k, wdTo s i k = wdTo s 0 k
  | 0 => rfl
  | k + 1 => by rw [wdTo, wdTo, wdTo_key s i h k, h, show (4 * i + k) % 4 = (4 * 0 + k) % 4 by omega]
def okW (s : ByteArray) (f : Nat → Nat) (n : Nat) : Bool := (List.range n).all fun i => Nat.beq (wd s i) (f i)
theorem okW_at {s : ByteArray} {f : Nat → Nat} {n : Nat} (h : okW s f n = true) (i : Nat) (hi : i < n) : wd s i = f i :=
  Nat.eq_of_beq_eq_true (List.all_eq_true.mp h i (List.mem_range.mpr hi))
theorem salt_words : okW saltX (fun i => rd s4 (i % 4)) 4 = true := by kernel_rfl
theorem salt_key : okW saltX (rt sN) 18 = true := by kernel_rfl
theorem key_key : okW keyX (rt kN) 18 = true := by kernel_rfl
theorem salt_is (i : Nat) : wd saltX i = rd s4 (i % 4) := by
  have e := okW_at salt_words (i % 4) (by omega)
  simp only [Nat.mod_mod] at e
  rw [← e]
  exact wdTo_round saltX i rfl 4
theorem k_lt : kN < 2 ^ 640 := lt_of_bits kN 640 (by kernel_rfl)
theorem s_lt : sN < 2 ^ 640 := lt_of_bits sN 640 (by kernel_rfl)

def gX (n : Nat) : Nat → Nat := ekTo (exB wordN saltX keyX) saltX keyX n
theorem gX_ok (n : Nat) : Ok (gX n) := ekTo_ok (exB_ok (fun i _ => wordN_lt i) _ _) _ _ n
theorem two_more {T : Nat} {n : Nat} {k : Nat → Bool} (h : Hld T (gX n)) (e : twoK kN sN k T = true) : ∃ T', Hld T' (gX (n + 1)) ∧ k T' = true :=
  is_two saltX keyX sN kN s_lt (okW_at salt_key) k_lt (okW_at key_key) _ (exB_ok (fun i _ => wordN_lt i) _ _) n k T h e
theorem is_0 : Hld t0 (gX 0) := by
  obtain ⟨T, h, e⟩ := is_ex saltX keyX s4 kN salt_is k_lt (okW_at key_key) wordN (fun i _ => wordN_lt i) _ tP is_pi run_first
  rw [← Nat.eq_of_beq_eq_true e]; exact h
theorem four_more {T U : Nat} {n : Nat} (h : Hld T (gX n)) (e : (fun T => twoK kN sN (fun T => twoK kN sN (fun T => Nat.beq T U) T) T) T = true) : Hld U (gX (n + 2)) := by
  obtain ⟨T1, h1, e1⟩ := two_more h e
  obtain ⟨T2, h2, e2⟩ := two_more h1 e1
  rw [← Nat.eq_of_beq_eq_true e2]; exact h2
theorem is_1 : Hld t1 (gX 2) := four_more is_0 run0
theorem is_2 : Hld t2 (gX 4) := four_more is_1 run1
theorem is_3 : Hld t3 (gX 6) := four_more is_2 run2
theorem is_4 : Hld t4 (gX 8) := four_more is_3 run3
theorem is_5 : Hld t5 (gX 10) := four_more is_4 run4
theorem is_6 : Hld t6 (gX 12) := four_more is_5 run5
theorem is_7 : Hld t7 (gX 14) := four_more is_6 run6
theorem is_8 : Hld t8 (gX 16) := four_more is_7 run7
theorem is_9 : Hld t9 (gX 18) := four_more is_8 run8
theorem is_10 : Hld t10 (gX 20) := four_more is_9 run9
theorem is_11 : Hld t11 (gX 22) := four_more is_10 run10
theorem is_12 : Hld t12 (gX 24) := four_more is_11 run11
theorem is_13 : Hld t13 (gX 26) := four_more is_12 run12
theorem is_14 : Hld t14 (gX 28) := four_more is_13 run13
theorem is_15 : Hld t15 (gX 30) := four_more is_14 run14
theorem is_16 : Hld t16 (gX 32) := four_more is_15 run15
theorem seal_0 : sealK t16 (fun x y => Nat.beq x 464949571 && Nat.beq y 4188590852) 64 1332899944 1700884034 = true := by kernel_rfl
theorem sealed_0 : enTo (gX 32) 1332899944 1700884034 64 = (464949571, 4188590852) := is_sealed is_16 (gX_ok 32) 1332899944 1700884034 (by decide) (by decide) 64 464949571 4188590852 seal_0
theorem seal_1 : sealK t16 (fun x y => Nat.beq x 3369221529 && Nat.beq y 2869205623) 64 1701343084 1684370003 = true := by kernel_rfl
theorem sealed_1 : enTo (gX 32) 1701343084 1684370003 64 = (3369221529, 2869205623) := is_sealed is_16 (gX_ok 32) 1701343084 1684370003 (by decide) (by decide) 64 3369221529 2869205623 seal_1
theorem seal_2 : sealK t16 (fun x y => Nat.beq x 2794335436 && Nat.beq y 1950484155) 64 1668446532 1869963892 = true := by kernel_rfl
theorem sealed_2 : enTo (gX 32) 1668446532 1869963892 64 = (2794335436, 1950484155) := is_sealed is_16 (gX_ok 32) 1668446532 1869963892 (by decide) (by decide) 64 2794335436 1950484155 seal_2
end Go.Proofs.Ytccpcjbffibkkaa.Ci
