/- Turning bits, as plain mathematics: what stands below 2^b, turned to the left by s places, and what Go's shifts make of it. No condition but those typed. -/
import Derived.WalkKit
namespace Go.Proofs.YtpampgkhjcfeaaaDoor.Rot
set_option maxRecDepth 50000

/-- x, b bits wide, turned to the left by s places -/
def rotl (b x s : Nat) : Nat := x * 2 ^ s % 2 ^ b + x / 2 ^ (b - s)

theorem rotl_parts (b q r s : Nat) (hs : s ≤ b) (hr : r < 2 ^ (b - s)) (_ : q < 2 ^ s) : rotl b (q * 2 ^ (b - s) + r) s = r * 2 ^ s + q := by
  have hb : 2 ^ b = 2 ^ (b - s) * 2 ^ s := by rw [← Nat.pow_add, Nat.sub_add_cancel hs]
  have hp : 0 < 2 ^ (b - s) := Nat.two_pow_pos _
  have e1 : (q * 2 ^ (b - s) + r) / 2 ^ (b - s) = q := by
    rw [Nat.add_comm, Nat.add_mul_div_right _ _ hp, Nat.div_eq_of_lt hr, Nat.zero_add]
  have hlt : r * 2 ^ s < 2 ^ b := by rw [hb]; exact Nat.mul_lt_mul_of_pos_right hr (Nat.two_pow_pos _)
  have e2 : (q * 2 ^ (b - s) + r) * 2 ^ s % 2 ^ b = r * 2 ^ s := by
    have h1 : (q * 2 ^ (b - s) + r) * 2 ^ s = r * 2 ^ s + 2 ^ b * q := by
      rw [Nat.add_mul, Nat.mul_assoc, ← hb, Nat.mul_comm q, Nat.add_comm]
    rw [h1, Nat.add_mul_mod_self_left, Nat.mod_eq_of_lt hlt]
  unfold rotl
  rw [e1, e2]

theorem div_lt (b x s : Nat) (hs : s ≤ b) (hx : x < 2 ^ b) : x / 2 ^ (b - s) < 2 ^ s := by
  apply Nat.div_lt_of_lt_mul
  rw [← Nat.pow_add, Nat.sub_add_cancel hs]
  exact hx

theorem rotl_split (b x s : Nat) (hs : s ≤ b) (hx : x < 2 ^ b) : rotl b x s = x % 2 ^ (b - s) * 2 ^ s + x / 2 ^ (b - s) := by
  have h := rotl_parts b (x / 2 ^ (b - s)) (x % 2 ^ (b - s)) s hs (Nat.mod_lt _ (Nat.two_pow_pos _)) (div_lt b x s hs hx)
  rw [show x / 2 ^ (b - s) * 2 ^ (b - s) + x % 2 ^ (b - s) = x from by rw [Nat.mul_comm]; exact Nat.div_add_mod _ _] at h
  exact h

theorem rotl_lt (b x s : Nat) (hs : s ≤ b) (hx : x < 2 ^ b) : rotl b x s < 2 ^ b := by
  rw [rotl_split b x s hs hx]
  have h1 := div_lt b x s hs hx
  have h2 : x % 2 ^ (b - s) < 2 ^ (b - s) := Nat.mod_lt _ (Nat.two_pow_pos _)
  have hb : 2 ^ b = 2 ^ (b - s) * 2 ^ s := by rw [← Nat.pow_add, Nat.sub_add_cancel hs]
  have h3 : (x % 2 ^ (b - s) + 1) * 2 ^ s ≤ 2 ^ (b - s) * 2 ^ s := Nat.mul_le_mul_right _ h2
  rw [Nat.add_mul, ← hb] at h3
  omega

theorem rotl_zero (b x : Nat) (hx : x < 2 ^ b) : rotl b x 0 = x := by
  rw [rotl_split b x 0 (Nat.zero_le _) hx]
  simp [Nat.mod_eq_of_lt hx, Nat.div_eq_of_lt hx]

theorem rotl_all (b x : Nat) (hx : x < 2 ^ b) : rotl b x b = x := by
  rw [rotl_split b x b (Nat.le_refl _) hx]
  simp [Nat.mod_one]

theorem rotl_add (b x s t : Nat) (h : s + t ≤ b) (hx : x < 2 ^ b) : rotl b (rotl b x s) t = rotl b x (s + t) := by
  have p1 : 2 ^ (b - s) = 2 ^ (b - s - t) * 2 ^ t := by rw [← Nat.pow_add]; congr 1; omega
  have p2 : 2 ^ (b - t) = 2 ^ (b - s - t) * 2 ^ s := by rw [← Nat.pow_add]; congr 1; omega
  have p3 : b - (s + t) = b - s - t := by omega
  have hq := div_lt b x s (by omega) hx
  have hr : x % 2 ^ (b - s) < 2 ^ (b - s) := Nat.mod_lt _ (Nat.two_pow_pos _)
  have hxe : x = x / 2 ^ (b - s) * 2 ^ (b - s) + x % 2 ^ (b - s) := by rw [Nat.mul_comm]; exact (Nat.div_add_mod _ _).symm
  rw [rotl_split b x s (by omega) hx]
  generalize x / 2 ^ (b - s) = q at *
  generalize x % 2 ^ (b - s) = r at *
  have hre : r = r / 2 ^ (b - s - t) * 2 ^ (b - s - t) + r % 2 ^ (b - s - t) := by rw [Nat.mul_comm]; exact (Nat.div_add_mod _ _).symm
  have hl1 : r / 2 ^ (b - s - t) < 2 ^ t := by apply Nat.div_lt_of_lt_mul; rw [← p1]; exact hr
  have hl0 : r % 2 ^ (b - s - t) < 2 ^ (b - s - t) := Nat.mod_lt _ (Nat.two_pow_pos _)
  generalize r / 2 ^ (b - s - t) = l1 at *
  generalize r % 2 ^ (b - s - t) = l0 at *
  have hlow : l0 * 2 ^ s + q < 2 ^ (b - t) := by
    rw [p2]
    have : (l0 + 1) * 2 ^ s ≤ 2 ^ (b - s - t) * 2 ^ s := Nat.mul_le_mul_right _ hl0
    rw [Nat.add_mul] at this; omega
  have e1 : r * 2 ^ s + q = l1 * 2 ^ (b - t) + (l0 * 2 ^ s + q) := by
    rw [hre, p2, Nat.add_mul, Nat.mul_assoc, Nat.add_assoc]
  rw [e1, rotl_parts b l1 _ t (by omega) hlow hl1]
  have hcomb : q * 2 ^ t + l1 < 2 ^ (s + t) := by
    rw [Nat.pow_add]
    have : (q + 1) * 2 ^ t ≤ 2 ^ s * 2 ^ t := Nat.mul_le_mul_right _ hq
    rw [Nat.add_mul] at this; omega
  have e2 : x = (q * 2 ^ t + l1) * 2 ^ (b - (s + t)) + l0 := by
    rw [hxe, hre, p1, p3, Nat.add_mul, Nat.mul_assoc, Nat.mul_comm (2 ^ (b - s - t)), Nat.add_assoc]
  rw [e2, rotl_parts b _ l0 (s + t) h (by rw [p3]; exact hl0) hcomb]
  rw [Nat.add_mul, Nat.mul_assoc, ← Nat.pow_add]
  omega

theorem rotl_back (b x s t : Nat) (hst : s + t = 0 ∨ s + t = b) (hx : x < 2 ^ b) : rotl b (rotl b x s) t = x := by
  rcases hst with h | h
  · rw [rotl_add b x s t (by omega) hx, h, rotl_zero b x hx]
  · rw [rotl_add b x s t (by omega) hx, h, rotl_all b x hx]

/-- one place to the left by plain sums -/
theorem step_left (x : Nat) : rotl 32 x 1 = x * 2 % 4294967296 + x / 2147483648 := by
  unfold rotl; simp

/-- one place to the right by plain sums -/
theorem step_right (x : Nat) (hx : x < 2 ^ 64) : rotl 64 x 63 = x / 2 + x % 2 * 9223372036854775808 := by
  rw [rotl_split 64 x 63 (by omega) hx]; simp; omega

theorem left_next (x i : Nat) (hi : i < 32) (hx : x < 2 ^ 32) : rotl 32 (rotl 32 x i) 1 = rotl 32 x (i + 1) := rotl_add 32 x i 1 (by omega) hx
theorem right_next (x i : Nat) (hi : i < 64) (hx : x < 2 ^ 64) : rotl 64 (rotl 64 x (64 - i)) 63 = rotl 64 x (64 - (i + 1)) := by
  have h := rotl_add 64 x (64 - (i + 1)) 1 (by omega) hx
  rw [show 64 - (i + 1) + 1 = 64 - i from by omega] at h
  rw [← h]
  exact rotl_back 64 _ 1 63 (.inr rfl) (rotl_lt 64 x _ (by omega) hx)

theorem mask32 (k : Int) : bits .and .u64 (IntKind.u64.wrap k) 31 = k % 32 := by
  have h := bits_mask .u64 64 (by decide) (fun n h0 h1 => by rw [IntKind.wrap_u64]; omega) 5 (by decide) (IntKind.u64.wrap k) (by rw [IntKind.wrap_u64]; omega) (by rw [IntKind.wrap_u64]; omega)
  rw [IntKind.wrap_u64] at *
  simp at h
  rw [h]
theorem mask64 (k : Int) : bits .and .u64 (IntKind.u64.wrap k) 63 = k % 64 := by
  have h := bits_mask .u64 64 (by decide) (fun n h0 h1 => by rw [IntKind.wrap_u64]; omega) 6 (by decide) (IntKind.u64.wrap k) (by rw [IntKind.wrap_u64]; omega) (by rw [IntKind.wrap_u64]; omega)
  rw [IntKind.wrap_u64] at *
  simp at h
  rw [h]

theorem or32 (x s : Nat) (hx : x < 2 ^ 32) (hs : s < 32) : bits .or .u32 ((x : Int) * 2 ^ s % 4294967296) ((x : Int) / 2 ^ (32 - s)) = (rotl 32 x s : Nat) := by
  have e1 : (x : Int) * 2 ^ s % 4294967296 = ((x * 2 ^ s % 2 ^ 32 : Nat) : Int) := by simp only [Int.natCast_emod, Int.natCast_mul, Int.natCast_pow]; rfl
  have e2 : (x : Int) / 2 ^ (32 - s) = ((x / 2 ^ (32 - s) : Nat) : Int) := by push_cast; rfl
  have hm : x * 2 ^ s % 2 ^ 32 % 2 ^ s = 0 := by
    rw [Nat.mod_mod_of_dvd _ (Nat.pow_dvd_pow 2 (by omega))]; exact Nat.mul_mod_left _ _
  have hl := div_lt 32 x s (by omega) hx
  have hl2 : 2 ^ s < 2 ^ 32 := Nat.pow_lt_pow_right (by decide) hs
  have ht : x * 2 ^ s % 2 ^ 32 < 2 ^ 32 := Nat.mod_lt _ (by decide)
  rw [e1, e2, bits_join .u32 32 (by decide) (fun n h0 h1 => by rw [IntKind.wrap_u32]; omega) s _ _ (Int.natCast_nonneg _) (by exact_mod_cast hm) (by exact_mod_cast ht) (Int.natCast_nonneg _) (by exact_mod_cast hl) (by exact_mod_cast Nat.lt_trans hl hl2)]
  rfl
theorem or64 (x s : Nat) (hx : x < 2 ^ 64) (hs : s < 64) : bits .or .u64 (IntKind.u64.wrap ((x : Int) * 2 ^ s)) ((x : Int) / 2 ^ (64 - s)) = (rotl 64 x s : Nat) := by
  have e1 : IntKind.u64.wrap ((x : Int) * 2 ^ s) = ((x * 2 ^ s % 2 ^ 64 : Nat) : Int) := by rw [IntKind.wrap_u64]; simp only [Int.natCast_emod, Int.natCast_mul, Int.natCast_pow]; rfl
  have e2 : (x : Int) / 2 ^ (64 - s) = ((x / 2 ^ (64 - s) : Nat) : Int) := by push_cast; rfl
  have hm : x * 2 ^ s % 2 ^ 64 % 2 ^ s = 0 := by
    rw [Nat.mod_mod_of_dvd _ (Nat.pow_dvd_pow 2 (by omega))]; exact Nat.mul_mod_left _ _
  have hl := div_lt 64 x s (by omega) hx
  have hl2 : 2 ^ s < 2 ^ 64 := Nat.pow_lt_pow_right (by decide) hs
  have ht : x * 2 ^ s % 2 ^ 64 < 2 ^ 64 := Nat.mod_lt _ (by decide)
  rw [e1, e2, bits_join .u64 64 (by decide) (fun n h0 h1 => by rw [IntKind.wrap_u64]; omega) s _ _ (Int.natCast_nonneg _) (by exact_mod_cast hm) (by exact_mod_cast ht) (Int.natCast_nonneg _) (by exact_mod_cast hl) (by exact_mod_cast Nat.lt_trans hl hl2)]
  rfl
end Go.Proofs.YtpampgkhjcfeaaaDoor.Rot
