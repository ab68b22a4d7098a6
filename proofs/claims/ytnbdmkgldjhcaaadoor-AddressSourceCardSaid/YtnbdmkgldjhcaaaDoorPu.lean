/- Turning bits, as plain mathematics: what stands below 2^b, turned to the left by s places, and what Go's shifts make of it. No condition but those typed. Blocks of 128 words as plain mathematics: put together word by word, and by halves. No condition but those typed. Argon2's mixing as plain mathematics: words are natural numbers below 2^64; a quarter, sixteen words permuted, a block's lines one behind the other, two blocks mixed. No condition. -/
import Derived.WalkKit
import Derived.Laws.BitsAllLaws
import Derived.KernelRfl
namespace Go.Proofs.YtnbdmkgldjhcaaaDoor.Rot
set_option maxRecDepth 50000

/-- x, b bits wide, turned to the left by s places -/
def rotl (b x s : Nat) : Nat := x * 2 ^ s % 2 ^ b + x / 2 ^ (b - s)

theorem rotl_parts (b q r s : Nat) (hs : s ≤ b) (hr : r < 2 ^ (b - s)) (_ : q < 2 ^ s) : rotl b (q * 2 ^ (b - s) + r) s = r * 2 ^ s + q := by
  have hb : 2 ^ b = 2 ^ (b - s) * 2 ^ s := by rw [← Nat.pow_add, Nat.sub_add_cancel hs]
  have hp : 0 < 2 ^ (b - s) := Nat.two_pow_pos _
  have e1 : (q * 2 ^ (b - s) + r) / 2 ^ (b - s) = q := by
    rw [Nat.add_comm, Nat.add_mul_div_right _ _ hp, Nat.div_eq_of_lt hr, Nat.zero_add]
  have hlt : r * 2 ^ s < 2 ^ b := by rw [hb]; exact Nat.mul_lt_mul_of_pos_right hr (Nat.two_pow_pos _)
  have e2 : (q * 2 ^ (b - s) + r) * 2 ^ s % 2 ^ b = r * 2 ^ s := by
    have h1 : (q * 2 ^ (b - s) + r) * 2 ^ s = r * 2 ^ s + 2 ^ b * q := by
      rw [Nat.add_mul, Nat.mul_assoc, ← hb, Nat.mul_comm q, Nat.add_comm]
    rw [h1, Nat.add_mul_mod_self_left, Nat.mod_eq_of_lt hlt]
  unfold rotl
  rw [e1, e2]

theorem div_lt (b x s : Nat) (hs : s ≤ b) (hx : x < 2 ^ b) : x / 2 ^ (b - s) < 2 ^ s := by
  apply Nat.div_lt_of_lt_mul
  rw [← Nat.pow_add, Nat.sub_add_cancel hs]
  exact hx

theorem rotl_split (b x s : Nat) (hs : s ≤ b) (hx : x < 2 ^ b) : rotl b x s = x % 2 ^ (b - s) * 2 ^ s + x / 2 ^ (b - s) := by
  have h := rotl_parts b (x / 2 ^ (b - s)) (x % 2 ^ (b - s)) s hs (Nat.mod_lt _ (Nat.two_pow_pos _)) (div_lt b x s hs hx)
  rw [show x / 2 ^ (b - s) * 2 ^ (b - s) + x % 2 ^ (b - s) = x from by rw [Nat.mul_comm]; exact Nat.div_add_mod _ _] at h
  exact h

theorem rotl_lt (b x s : Nat) (hs : s ≤ b) (hx : x < 2 ^ b) : rotl b x s < 2 ^ b := by
  rw [rotl_split b x s hs hx]
  have h1 := div_lt b x s hs hx
  have h2 : x % 2 ^ (b - s) < 2 ^ (b - s) := Nat.mod_lt _ (Nat.two_pow_pos _)
  have hb : 2 ^ b = 2 ^ (b - s) * 2 ^ s := by rw [← Nat.pow_add, Nat.sub_add_cancel hs]
  have h3 : (x % 2 ^ (b - s) + 1) * 2 ^ s ≤ 2 ^ (b - s) * 2 ^ s := Nat.mul_le_mul_right _ h2
  rw [Nat.add_mul, ← hb] at h3
  omega

theorem rotl_zero (b x : Nat) (hx : x < 2 ^ b) : rotl b x 0 = x := by
  rw [rotl_split b x 0 (Nat.zero_le _) hx]
  simp [Nat.mod_eq_of_lt hx, Nat.div_eq_of_lt hx]

theorem rotl_all (b x : Nat) (hx : x < 2 ^ b) : rotl b x b = x := by
  rw [rotl_split b x b (Nat.le_refl _) hx]
  simp [Nat.mod_one]

theorem rotl_add (b x s t : Nat) (h : s + t ≤ b) (hx : x < 2 ^ b) : rotl b (rotl b x s) t = rotl b x (s + t) := by
  have p1 : 2 ^ (b - s) = 2 ^ (b - s - t) * 2 ^ t := by rw [← Nat.pow_add]; congr 1; omega
  have p2 : 2 ^ (b - t) = 2 ^ (b - s - t) * 2 ^ s := by rw [← Nat.pow_add]; congr 1; omega
  have p3 : b - (s + t) = b - s - t := by omega
  have hq := div_lt b x s (by omega) hx
  have hr : x % 2 ^ (b - s) < 2 ^ (b - s) := Nat.mod_lt _ (Nat.two_pow_pos _)
  have hxe : x = x / 2 ^ (b - s) * 2 ^ (b - s) + x % 2 ^ (b - s) := by rw [Nat.mul_comm]; exact (Nat.div_add_mod _ _).symm
  rw [rotl_split b x s (by omega) hx]
  generalize x / 2 ^ (b - s) = q at *
  generalize x % 2 ^ (b - s) = r at *
  have hre : r = r / 2 ^ (b - s - t) * 2 ^ (b - s - t) + r % 2 ^ (b - s - t) := by rw [Nat.mul_comm]; exact (Nat.div_add_mod _ _).symm
  have hl1 : r / 2 ^ (b - s - t) < 2 ^ t := by apply Nat.div_lt_of_lt_mul; rw [← p1]; exact hr
  have hl0 : r % 2 ^ (b - s - t) < 2 ^ (b - s - t) := Nat.mod_lt _ (Nat.two_pow_pos _)
  generalize r / 2 ^ (b - s - t) = l1 at *
  generalize r % 2 ^ (b - s - t) = l0 at *
  have hlow : l0 * 2 ^ s + q < 2 ^ (b - t) := by
    rw [p2]
    have : (l0 + 1) * 2 ^ s ≤ 2 ^ (b - s - t) * 2 ^ s := Nat.mul_le_mul_right _ hl0
    rw [Nat.add_mul] at this; omega
  have e1 : r * 2 ^ s + q = l1 * 2 ^ (b - t) + (l0 * 2 ^ s + q) := by
    rw [hre, p2, Nat.add_mul, Nat.mul_assoc, Nat.add_assoc]
  rw [e1, rotl_parts b l1 _ t (by omega) hlow hl1]
  have hcomb : q * 2 ^ t + l1 < 2 ^ (s + t) := by
    rw [Nat.pow_add]
    have : (q + 1) * 2 ^ t ≤ 2 ^ s * 2 ^ t := Nat.mul_le_mul_right _ hq
    rw [Nat.add_mul] at this; omega
  have e2 : x = (q * 2 ^ t + l1) * 2 ^ (b - (s + t)) + l0 := by
    rw [hxe, hre, p1, p3, Nat.add_mul, Nat.mul_assoc, Nat.mul_comm (2 ^ (b - s - t)), Nat.add_assoc]
  rw [e2, rotl_parts b _ l0 (s + t) h (by rw [p3]; exact hl0) hcomb]
  rw [Nat.add_mul, Nat.mul_assoc, ← Nat.pow_add]
  omega

theorem rotl_back (b x s t : Nat) (hst : s + t = 0 ∨ s + t = b) (hx : x < 2 ^ b) : rotl b (rotl b x s) t = x := by
  rcases hst with h | h
  · rw [rotl_add b x s t (by omega) hx, h, rotl_zero b x hx]
  · rw [rotl_add b x s t (by omega) hx, h, rotl_all b x hx]

/-- one place to the left by plain sums -/
theorem step_left (x : Nat) : rotl 32 x 1 = x * 2 % 4294967296 + x / 2147483648 := by
  unfold rotl; simp

/-- one place to the right by plain sums -/
theorem step_right (x : Nat) (hx : x < 2 ^ 64) : rotl 64 x 63 = x / 2 + x % 2 * 9223372036854775808 := by
  rw [rotl_split 64 x 63 (by omega) hx]; simp; omega

theorem left_next (x i : Nat) (hi : i < 32) (hx : x < 2 ^ 32) : rotl 32 (rotl 32 x i) 1 = rotl 32 x (i + 1) := rotl_add 32 x i 1 (by omega) hx
theorem right_next (x i : Nat) (hi : i < 64) (hx : x < 2 ^ 64) : rotl 64 (rotl 64 x (64 - i)) 63 = rotl 64 x (64 - (i + 1)) := by
  have h := rotl_add 64 x (64 - (i + 1)) 1 (by omega) hx
  rw [show 64 - (i + 1) + 1 = 64 - i from by omega] at h
  rw [← h]
  exact rotl_back 64 _ 1 63 (.inr rfl) (rotl_lt 64 x _ (by omega) hx)

theorem mask32 (k : Int) : bits .and .u64 (IntKind.u64.wrap k) 31 = k % 32 := by
  have h := bits_mask .u64 64 (by decide) (fun n h0 h1 => by rw [IntKind.wrap_u64]; omega) 5 (by decide) (IntKind.u64.wrap k) (by rw [IntKind.wrap_u64]; omega) (by rw [IntKind.wrap_u64]; omega)
  rw [IntKind.wrap_u64] at *
  simp at h
  rw [h]
theorem mask64 (k : Int) : bits .and .u64 (IntKind.u64.wrap k) 63 = k % 64 := by
  have h := bits_mask .u64 64 (by decide) (fun n h0 h1 => by rw [IntKind.wrap_u64]; omega) 6 (by decide) (IntKind.u64.wrap k) (by rw [IntKind.wrap_u64]; omega) (by rw [IntKind.wrap_u64]; omega)
  rw [IntKind.wrap_u64] at *
  simp at h
  rw [h]

theorem or32 (x s : Nat) (hx : x < 2 ^ 32) (hs : s < 32) : bits .or .u32 ((x : Int) * 2 ^ s % 4294967296) ((x : Int) / 2 ^ (32 - s)) = (rotl 32 x s : Nat) := by
  have e1 : (x : Int) * 2 ^ s % 4294967296 = ((x * 2 ^ s % 2 ^ 32 : Nat) : Int) := by simp only [Int.natCast_emod, Int.natCast_mul, Int.natCast_pow]; rfl
  have e2 : (x : Int) / 2 ^ (32 - s) = ((x / 2 ^ (32 - s) : Nat) : Int) := by push_cast; rfl
  have hm : x * 2 ^ s % 2 ^ 32 % 2 ^ s = 0 := by
    rw [Nat.mod_mod_of_dvd _ (Nat.pow_dvd_pow 2 (by omega))]; exact Nat.mul_mod_left _ _
  have hl := div_lt 32 x s (by omega) hx
  have hl2 : 2 ^ s < 2 ^ 32 := Nat.pow_lt_pow_right (by decide) hs
  have ht : x * 2 ^ s % 2 ^ 32 < 2 ^ 32 := Nat.mod_lt _ (by decide)
  rw [e1, e2, bits_join .u32 32 (by decide) (fun n h0 h1 => by rw [IntKind.wrap_u32]; omega) s _ _ (Int.natCast_nonneg _) (by exact_mod_cast hm) (by exact_mod_cast ht) (Int.natCast_nonneg _) (by exact_mod_cast hl) (by exact_mod_cast Nat.lt_trans hl hl2)]
  rfl
theorem or64 (x s : Nat) (hx : x < 2 ^ 64) (hs : s < 64) : bits .or .u64 (IntKind.u64.wrap ((x : Int) * 2 ^ s)) ((x : Int) / 2 ^ (64 - s)) = (rotl 64 x s : Nat) := by
  have e1 : IntKind.u64.wrap ((x : Int) * 2 ^ s) = ((x * 2 ^ s % 2 ^ 64 : Nat) : Int) := by rw [IntKind.wrap_u64]; simp only [Int.natCast_emod, Int.natCast_mul, Int.natCast_pow]; rfl
  have e2 : (x : Int) / 2 ^ (64 - s) = ((x / 2 ^ (64 - s) : Nat) : Int) := by push_cast; rfl
  have hm : x * 2 ^ s % 2 ^ 64 % 2 ^ s = 0 := by
    rw [Nat.mod_mod_of_dvd _ (Nat.pow_dvd_pow 2 (by omega))]; exact Nat.mul_mod_left _ _
  have hl := div_lt 64 x s (by omega) hx
  have hl2 : 2 ^ s < 2 ^ 64 := Nat.pow_lt_pow_right (by decide) hs
  have ht : x * 2 ^ s % 2 ^ 64 < 2 ^ 64 := Nat.mod_lt _ (by decide)
  rw [e1, e2, bits_join .u64 64 (by decide) (fun n h0 h1 => by rw [IntKind.wrap_u64]; omega) s _ _ (Int.natCast_nonneg _) (by exact_mod_cast hm) (by exact_mod_cast ht) (Int.natCast_nonneg _) (by exact_mod_cast hl) (by exact_mod_cast Nat.lt_trans hl hl2)]
  rfl
end Go.Proofs.YtnbdmkgldjhcaaaDoor.Rot

namespace Go.Proofs.YtnbdmkgldjhcaaaDoor.Bb
set_option maxRecDepth 50000

/-- 128 words below 2^64 -/
def okb (L : List Nat) : Prop := L.length = 128 ∧ ∀ x ∈ L, x < 18446744073709551616
def zb : List Nat := List.replicate 128 0
/-- 128 numbers by their places -/
def tb (f : Nat → Nat) : List Nat := (List.range 128).map f
theorem tb_length (f : Nat → Nat) : (tb f).length = 128 := by simp [tb]
theorem tb_at (f : Nat → Nat) (k : Nat) (h : k < 128) : (tb f).getD k 0 = f k := by
  simp [tb, List.getD_eq_getElem?_getD, h]
theorem tb_set (f g : Nat → Nat) (k : Nat) (h : ∀ j, j < 128 → j ≠ k → g j = f j) : (tb f).set k (g k) = tb g := by
  refine List.ext_getElem (by simp [tb]) fun j h1 h2 => ?_
  have hj : j < 128 := by simpa [tb] using h2
  rw [List.getElem_set]
  by_cases e : k = j
  · subst e; simp [tb]
  · rw [if_neg e]; simp [tb, h j hj (fun e' => e e'.symm)]
theorem tb_congr (f g : Nat → Nat) (h : ∀ j, j < 128 → f j = g j) : tb f = tb g := List.map_congr_left fun j hj => h j (List.mem_range.1 hj)
theorem tb_self (L : List Nat) (hL : L.length = 128) : tb (fun k => L.getD k 0) = L := by
  refine List.ext_getElem (by simp [tb, hL]) fun j h1 h2 => ?_
  simp [tb, List.getD_eq_getElem?_getD, List.getElem?_eq_getElem h2]
theorem tb_ok (f : Nat → Nat) (h : ∀ j, j < 128 → f j < 18446744073709551616) : okb (tb f) := ⟨tb_length f, fun x hx => by
  obtain ⟨j, hj, rfl⟩ := List.mem_map.1 hx
  exact h j (List.mem_range.1 hj)⟩
theorem zb_tb : zb = tb fun _ => 0 := by decide
theorem zb_ok : okb zb := ⟨by simp [zb], fun x hx => by rw [List.eq_of_mem_replicate hx]; decide⟩
theorem ok_at {L : List Nat} (h : okb L) (k : Nat) : L.getD k 0 < 18446744073709551616 := by
  rw [List.getD_eq_getElem?_getD]
  cases hk : L[k]? with
  | none => decide
  | some x => exact h.2 x (List.mem_of_getElem? hk)
theorem ok_ext {a b : List Nat} (ha : a.length = 128) (hb : b.length = 128) (h : ∀ k, k < 128 → a.getD k 0 = b.getD k 0) : a = b := by
  rw [← tb_self a ha, ← tb_self b hb]; exact tb_congr _ _ h
theorem ok_set {L : List Nat} (h : okb L) (k x : Nat) (hx : x < 18446744073709551616) : okb (L.set k x) := ⟨by rw [List.length_set]; exact h.1, fun y hy => by
  rcases List.mem_or_eq_of_mem_set hy with hy | rfl
  · exact h.2 y hy
  · exact hx⟩

/-- the words at one place of blocks, put together -/
def xw (l : List (List Nat)) (k : Nat) : Nat := l.foldl (fun a b => a ^^^ b.getD k 0) 0
def xB (l : List (List Nat)) : List Nat := tb (xw l)
theorem xw_snoc (l : List (List Nat)) (b : List Nat) (k : Nat) : xw (l ++ [b]) k = xw l k ^^^ b.getD k 0 := by simp [xw]
theorem xw_take (l : List (List Nat)) (i k : Nat) (h : i < l.length) : xw (l.take (i + 1)) k = xw (l.take i) k ^^^ (l.getD i []).getD k 0 := by
  rw [List.take_add_one, List.getElem?_eq_getElem h, Option.toList_some, xw_snoc]
  congr 2
  rw [List.getD_eq_getElem?_getD, List.getElem?_eq_getElem h]; rfl
theorem xw_lt (k : Nat) : ∀ (l : List (List Nat)), (∀ b ∈ l, okb b) → xw l k < 18446744073709551616 := by
  intro l
  unfold xw
  suffices H : ∀ a, a < 18446744073709551616 → (∀ b ∈ l, okb b) → l.foldl (fun a b => a ^^^ b.getD k 0) a < 18446744073709551616 from fun h => H 0 (by decide) h
  induction l with
  | nil => intro a h _; exact h
  | cons b l ih =>
    intro a h ho
    exact ih _ (Nat.xor_lt_two_pow (n := 64) h (ok_at (ho b (by simp)) k)) fun b hb => ho b (by simp [hb])
theorem xB_ok (l : List (List Nat)) (h : ∀ b ∈ l, okb b) : okb (xB l) := tb_ok _ fun k _ => xw_lt k l h
theorem xB_twice (l : List (List Nat)) : xB (l ++ [xB l]) = zb := by
  rw [zb_tb]
  refine tb_congr _ _ fun k hk => ?_
  rw [xw_snoc, xB, tb_at _ k hk, Nat.xor_self]
/-- i blocks are put together, and of the next one k words -/
def xst (l : List (List Nat)) (i k : Nat) : List Nat := tb fun j => if j < k then xw (l.take (i + 1)) j else xw (l.take i) j
theorem xst_length (l : List (List Nat)) (i k : Nat) : (xst l i k).length = 128 := tb_length _
theorem xst_start (l : List (List Nat)) : xst l 0 0 = zb := by
  rw [zb_tb]; exact tb_congr _ _ fun j _ => by simp [xw]
theorem xst_line (l : List (List Nat)) (i : Nat) : xst l i 128 = xst l (i + 1) 0 := tb_congr _ _ fun j hj => by simp [hj]
theorem xst_end (l : List (List Nat)) : xst l l.length 0 = xB l := tb_congr _ _ fun j _ => by simp
theorem xst_at (l : List (List Nat)) (i k : Nat) (hk : k < 128) : (xst l i k).getD k 0 = xw (l.take i) k := by
  unfold xst; rw [tb_at _ _ hk]; simp
theorem xst_next (l : List (List Nat)) (i k : Nat) (hi : i < l.length) : (xst l i k).set k (xw (l.take i) k ^^^ (l.getD i []).getD k 0) = xst l i (k + 1) := by
  rw [← xw_take l i k hi]
  unfold xst
  have := tb_set (fun j => if j < k then xw (l.take (i + 1)) j else xw (l.take i) j) (fun j => if j < k + 1 then xw (l.take (i + 1)) j else xw (l.take i) j) k (fun j _ hj => by
    by_cases h : j < k
    · rw [if_pos (by omega), if_pos h]
    · rw [if_neg (by omega), if_neg h])
  simpa using this
/-- i words are put together, and of the next one those of k blocks -/
def rst (l : List (List Nat)) (i k : Nat) : List Nat := tb fun j => if j < i then xw l j else if j = i then xw (l.take k) j else 0
theorem rst_length (l : List (List Nat)) (i k : Nat) : (rst l i k).length = 128 := tb_length _
theorem rst_start (l : List (List Nat)) : rst l 0 0 = zb := by
  rw [zb_tb]; exact tb_congr _ _ fun j _ => by simp [xw]
theorem rst_line (l : List (List Nat)) (i : Nat) : rst l i l.length = rst l (i + 1) 0 := tb_congr _ _ fun j hj => by
  by_cases h : j < i
  · simp [h, show j < i + 1 by omega]
  · by_cases e : j = i
    · subst e; simp
    · simp [h, e, show ¬ j < i + 1 by omega, xw]
theorem rst_end (l : List (List Nat)) : rst l 128 0 = xB l := tb_congr _ _ fun j hj => by simp [hj]
theorem rst_at (l : List (List Nat)) (i k : Nat) (hi : i < 128) : (rst l i k).getD i 0 = xw (l.take k) i := by
  unfold rst; rw [tb_at _ _ hi]; simp
theorem rst_next (l : List (List Nat)) (i k : Nat) (hk : k < l.length) : (rst l i k).set i (xw (l.take k) i ^^^ (l.getD k []).getD i 0) = rst l i (k + 1) := by
  rw [← xw_take l k i hk]
  unfold rst
  have := tb_set (fun j => if j < i then xw l j else if j = i then xw (l.take k) j else 0) (fun j => if j < i then xw l j else if j = i then xw (l.take (k + 1)) j else 0) i (fun j _ hj => by simp [hj])
  simpa using this
theorem take_lt {l : List (List Nat)} (h : ∀ b ∈ l, okb b) (i k : Nat) : xw (l.take i) k < 18446744073709551616 := xw_lt k _ fun b hb => h b (List.mem_of_mem_take hb)
theorem word_lt {l : List (List Nat)} (h : ∀ b ∈ l, okb b) (i k : Nat) : (l.getD i []).getD k 0 < 18446744073709551616 := by
  rw [List.getD_eq_getElem?_getD (l := l)]
  cases hi : l[i]? with
  | none => simp
  | some b => exact ok_at (h b (List.mem_of_getElem? hi)) k
/-- all words are 0 -/
def clB (l : List (List Nat)) : Bool := l.all fun b => decide (b = zb)
theorem clB_take (l : List (List Nat)) (i : Nat) (h : i < l.length) : clB (l.take (i + 1)) = (clB (l.take i) && decide (l.getD i [] = zb)) := by
  unfold clB
  rw [List.take_add_one, List.getElem?_eq_getElem h, Option.toList_some, List.all_append, List.getD_eq_getElem?_getD, List.getElem?_eq_getElem h]
  simp

theorem clB_no (l : List (List Nat)) (i : Nat) (h : i < l.length) (hn : l.getD i [] ≠ zb) : clB l = false := by
  unfold clB
  rw [List.all_eq_false]
  refine ⟨l[i], List.getElem_mem h, ?_⟩
  rw [List.getD_eq_getElem?_getD, List.getElem?_eq_getElem h] at hn
  simpa using hn
theorem block_ok {l : List (List Nat)} (h : ∀ b ∈ l, okb b) (i : Nat) (hi : i < l.length) : okb (l.getD i []) := by
  rw [List.getD_eq_getElem?_getD, List.getElem?_eq_getElem hi]; exact h _ (List.getElem_mem hi)

/-- half r (0 or 1) of a word, and the word with that half another one -/
def hf (w r : Nat) : Nat := w / 2 ^ (32 * r) % 4294967296
def wf (w r x : Nat) : Nat := if r = 0 then w / 4294967296 * 4294967296 + x else x * 4294967296 + w % 4294967296
theorem wf_lt (w r x : Nat) (hw : w < 18446744073709551616) (hx : x < 4294967296) : wf w r x < 18446744073709551616 := by
  unfold wf; split <;> omega
theorem hf_lt (w r : Nat) : hf w r < 4294967296 := Nat.mod_lt _ (by decide)
theorem hf_wf (w r x : Nat) (hr : r < 2) (hx : x < 4294967296) : hf (wf w r x) r = x := by
  match r, hr with
  | 0, _ => simp [hf, wf]; omega
  | 1, _ => simp [hf, wf]; omega
theorem hf_other (w r s x : Nat) (hr : r < 2) (hs : s < 2) (hx : x < 4294967296) (h : r ≠ s) : hf (wf w r x) s = hf w s := by
  rcases (show (r = 0 ∧ s = 1) ∨ (r = 1 ∧ s = 0) by omega) with ⟨rfl, rfl⟩ | ⟨rfl, rfl⟩
  · simp [hf, wf]; omega
  · simp [hf, wf]
theorem wf_back (w r x : Nat) (hr : r < 2) (hw : w < 18446744073709551616) (hx : x < 4294967296) : wf (wf w r x) r (hf w r) = w := by
  match r, hr with
  | 0, _ => simp [hf, wf]; omega
  | 1, _ => simp [hf, wf]; omega
/-- half i of a block, and the block with that half another one -/
def hb (b : List Nat) (i : Nat) : Nat := hf (b.getD (i / 2) 0) (i % 2)
def sb (b : List Nat) (i x : Nat) : List Nat := b.set (i / 2) (wf (b.getD (i / 2) 0) (i % 2) x)
theorem hb_lt (b : List Nat) (i : Nat) : hb b i < 4294967296 := hf_lt _ _
theorem sb_length (b : List Nat) (i x : Nat) : (sb b i x).length = b.length := by simp [sb]
theorem sb_ok {b : List Nat} (h : okb b) (i x : Nat) (hx : x < 4294967296) : okb (sb b i x) := ok_set h _ _ (wf_lt _ _ _ (ok_at h _) hx)
theorem set_at (b : List Nat) (k x j : Nat) (hk : k < b.length) : (b.set k x).getD j 0 = if k = j then x else b.getD j 0 := by
  rw [List.getD_eq_getElem?_getD, List.getElem?_set]
  by_cases e : k = j
  · subst e; simp [hk]
  · simp [e, List.getD_eq_getElem?_getD]
theorem hb_sb {b : List Nat} (h : okb b) (i x k : Nat) (hi : i < 256) (hx : x < 4294967296) : hb (sb b i x) k = if k = i then x else hb b k := by
  have hl : i / 2 < b.length := by rw [h.1]; omega
  unfold hb sb
  rw [set_at _ _ _ _ hl]
  by_cases e : k = i
  · subst e
    rw [if_pos rfl, if_pos rfl, hf_wf _ _ _ (by omega) hx]
  · rw [if_neg e]
    by_cases e2 : i / 2 = k / 2
    · rw [if_pos e2, e2, hf_other _ _ _ _ (by omega) (by omega) hx (by omega)]
    · rw [if_neg e2]
theorem sb_back {b : List Nat} (h : okb b) (i x : Nat) (hi : i < 256) (hx : x < 4294967296) : sb (sb b i x) i (hb b i) = b := by
  have hl : i / 2 < b.length := by rw [h.1]; omega
  unfold hb
  rw [sb, sb, set_at _ _ _ _ hl, if_pos rfl, List.set_set, wf_back _ _ _ (by omega) (ok_at h _) hx]
  refine List.ext_getElem (by simp) fun j h1 h2 => ?_
  rw [List.getElem_set]
  by_cases e : i / 2 = j
  · subst e; simp [List.getD_eq_getElem?_getD, List.getElem?_eq_getElem h2]
  · simp [e]

/-- what Go's operations make of a word -/
theorem or_low32 (a b : Nat) (h : b < 4294967296) : (a * 4294967296) ||| b = a * 4294967296 + b := by
  rw [show a * 4294967296 = 2 ^ 32 * a by omega, ← Nat.two_pow_add_eq_or_of_lt (i := 32) (by omega)]
theorem and_high32 (w : Nat) (hw : w < 18446744073709551616) : w &&& 18446744069414584320 = w / 4294967296 * 4294967296 := by
  refine Nat.eq_of_testBit_eq fun i => ?_
  rw [Nat.testBit_and, show (18446744069414584320 : Nat) = (2 ^ 32 - 1) * 2 ^ 32 by decide, show w / 4294967296 * 4294967296 = (w / 2 ^ 32) * 2 ^ 32 by omega, Nat.testBit_mul_two_pow, Nat.testBit_mul_two_pow, Nat.testBit_two_pow_sub_one, Nat.testBit_div_two_pow]
  by_cases h : 32 ≤ i
  · by_cases h2 : i - 32 < 32
    · simp [h, h2, show i - 32 + 32 = i by omega]
    · have : w.testBit i = false := Nat.testBit_lt_two_pow (Nat.lt_of_lt_of_le (show w < 2 ^ 64 by omega) (Nat.pow_le_pow_right (by decide) (by omega)))
      simp [h, h2, this, show i - 32 + 32 = i by omega]
  · simp [h]
theorem and_low32 (w : Nat) : w &&& 4294967295 = w % 4294967296 := Nat.and_two_pow_sub_one_eq_mod w 32
theorem low0 (w x : Nat) (hw : w < 18446744073709551616) (hx : x < 4294967296) : bits .andNot .u64 (w : Int) (4294967295 : Int) = ((w / 4294967296 * 4294967296 : Nat) : Int) ∧ bits .or .u64 ((w / 4294967296 * 4294967296 : Nat) : Int) (x : Int) = ((wf w 0 x : Nat) : Int) := by
  refine ⟨?_, ?_⟩
  · rw [show (4294967295 : Int) = ((4294967295 : Nat) : Int) from rfl, u64_andNot_nat w _ hw (by decide), and_high32 w hw]
  · rw [u64_or_nat _ _ (by omega) (by omega), or_low32 _ _ hx]; rfl
theorem low1 (w x : Nat) (hw : w < 18446744073709551616) (hx : x < 4294967296) : bits .andNot .u64 (w : Int) (18446744069414584320 : Int) = ((w % 4294967296 : Nat) : Int) ∧ bits .or .u64 ((w % 4294967296 : Nat) : Int) ((x * 4294967296 : Nat) : Int) = ((wf w 1 x : Nat) : Int) := by
  refine ⟨?_, ?_⟩
  · rw [show (18446744069414584320 : Int) = ((18446744069414584320 : Nat) : Int) from rfl, u64_andNot_nat w _ hw (by decide), ← and_low32]
  · rw [u64_or_nat _ _ (by omega) (by omega), Nat.or_comm, or_low32 _ _ (Nat.mod_lt _ (by decide))]; rfl
end Go.Proofs.YtnbdmkgldjhcaaaDoor.Bb

namespace Go.Proofs.YtnbdmkgldjhcaaaDoor.Bn
set_option maxRecDepth 50000
open Rot Bb

/-- two words, and twice the product of their lower halves -/
def prd (a b : Nat) : Nat := (a + b + 2 * (a % 4294967296) * (b % 4294967296)) % 18446744073709551616
theorem prd_lt (a b : Nat) : prd a b < 18446744073709551616 := Nat.mod_lt _ (by decide)
structure Q where
  a : Nat
  b : Nat
  c : Nat
  d : Nat
def Q.list (q : Q) : List Nat := [q.a, q.b, q.c, q.d]
/-- half of the mixing: turned by places r and s to the left -/
def half (q : Q) (r s : Nat) : Q :=
  let a := prd q.a q.b
  let d := rotl 64 (q.d ^^^ a) r
  let c := prd q.c d
  ⟨a, rotl 64 (q.b ^^^ c) s, c, d⟩
def quarter (q : Q) : Q := half (half q 32 40) 48 1
def Q.ok (q : Q) : Prop := q.a < 18446744073709551616 ∧ q.b < 18446744073709551616 ∧ q.c < 18446744073709551616 ∧ q.d < 18446744073709551616
theorem xor_lt64 (a b : Nat) (ha : a < 18446744073709551616) (hb : b < 18446744073709551616) : a ^^^ b < 18446744073709551616 := Nat.xor_lt_two_pow (n := 64) ha hb
theorem rotl_lt64 (x s : Nat) (hs : s ≤ 64) (hx : x < 18446744073709551616) : rotl 64 x s < 18446744073709551616 := rotl_lt 64 x s hs hx
theorem half_ok {q : Q} (h : q.ok) (r s : Nat) (hr : r ≤ 64) (hs : s ≤ 64) : (half q r s).ok :=
  ⟨prd_lt _ _, rotl_lt64 _ _ hs (xor_lt64 _ _ h.2.1 (prd_lt _ _)), prd_lt _ _, rotl_lt64 _ _ hr (xor_lt64 _ _ h.2.2.2 (prd_lt _ _))⟩
theorem quarter_ok {q : Q} (h : q.ok) : (quarter q).ok := half_ok (half_ok h _ _ (by decide) (by decide)) _ _ (by decide) (by decide)

def okw (l : List Nat) : Prop := ∀ x ∈ l, x < 18446744073709551616
theorem okw.at_ {l : List Nat} (h : okw l) (i : Nat) : l.getD i 0 < 18446744073709551616 := by
  rw [List.getD_eq_getElem?_getD]
  by_cases hi : i < l.length
  · rw [List.getElem?_eq_getElem hi]; exact h _ (List.getElem_mem hi)
  · rw [List.getElem?_eq_none (by omega)]; decide
theorem okw.set {l : List Nat} (h : okw l) (i x : Nat) (hx : x < 18446744073709551616) : okw (l.set i x) := fun y hy => by
  rcases List.mem_or_eq_of_mem_set hy with hy | rfl
  · exact h y hy
  · exact hx

/-- the places of the eight quarters -/
def qq : List Nat := [0, 4, 8, 12, 1, 5, 9, 13, 2, 6, 10, 14, 3, 7, 11, 15, 0, 5, 10, 15, 1, 6, 11, 12, 2, 7, 8, 13, 3, 4, 9, 14]
def pt (i k : Nat) : Nat := qq.getD (i * 4 + k) 0
theorem pt_lt (i k : Nat) (hi : i < 8) (hk : k < 4) : pt i k < 16 := by
  have h : ∀ i, i < 8 → ∀ k, k < 4 → pt i k < 16 := by decide
  exact h i hi k hk
theorem pt_is (i k : Nat) (hi : i < 8) (hk : k < 4) : (i < 4 → pt i k = 4 * k + i % 4) ∧ (4 ≤ i → pt i k = 4 * k + (i + k) % 4) := by
  have h : ∀ i, i < 8 → ∀ k, k < 4 → (i < 4 → pt i k = 4 * k + i % 4) ∧ (4 ≤ i → pt i k = 4 * k + (i + k) % 4) := by decide
  exact h i hi k hk
def take4 (v : List Nat) (i : Nat) : Q := ⟨v.getD (pt i 0) 0, v.getD (pt i 1) 0, v.getD (pt i 2) 0, v.getD (pt i 3) 0⟩
def put4 (v : List Nat) (i : Nat) (q : Q) : List Nat := (((v.set (pt i 0) q.a).set (pt i 1) q.b).set (pt i 2) q.c).set (pt i 3) q.d
/-- so many quarters -/
def qTo (v : List Nat) : Nat → List Nat
  | 0 => v
  | k + 1 => put4 (qTo v k) k (quarter (take4 (qTo v k) k))
def perm (v : List Nat) : List Nat := qTo v 8
theorem put4_length (v : List Nat) (i : Nat) (q : Q) : (put4 v i q).length = v.length := by simp [put4]
theorem put4_ok {v : List Nat} (h : okw v) (i : Nat) {q : Q} (hq : q.ok) : okw (put4 v i q) :=
  (((h.set _ _ hq.1).set _ _ hq.2.1).set _ _ hq.2.2.1).set _ _ hq.2.2.2
theorem take4_ok {v : List Nat} (h : okw v) (i : Nat) : (take4 v i).ok := ⟨h.at_ _, h.at_ _, h.at_ _, h.at_ _⟩
theorem qTo_length (v : List Nat) : ∀ k, (qTo v k).length = v.length
  | 0 => rfl
  | k + 1 => by rw [qTo, put4_length, qTo_length v k]
theorem qTo_ok {v : List Nat} (h : okw v) : ∀ k, okw (qTo v k)
  | 0 => h
  | k + 1 => put4_ok (qTo_ok h k) _ (quarter_ok (take4_ok (qTo_ok h k) _))
theorem perm_length (v : List Nat) : (perm v).length = v.length := qTo_length v 8
theorem perm_ok {v : List Nat} (h : okw v) : okw (perm v) := qTo_ok h 8

/-- where word k of line i stands: of rows (t is 0), of columns -/
def ats (t i k : Nat) : Nat := if t = 0 then i * 16 + k / 2 * 2 + k % 2 else i * 2 + k / 2 * 16 + k % 2
theorem ats_lt (t i k : Nat) (hi : i < 8) (hk : k < 16) : ats t i k < 128 := by unfold ats; split <;> omega
/-- the first words of a line, the others 0 -/
def takL (b : List Nat) (t i : Nat) : Nat → List Nat
  | 0 => List.replicate 16 0
  | k + 1 => (takL b t i k).set k (b.getD (ats t i k) 0)
/-- a line's first words put into a block -/
def putL (b v : List Nat) (t i : Nat) : Nat → List Nat
  | 0 => b
  | k + 1 => (putL b v t i k).set (ats t i k) (v.getD k 0)
def line (b : List Nat) (t i : Nat) : List Nat := putL b (perm (takL b t i 16)) t i 16
/-- so many lines permuted -/
def linTo (b : List Nat) (t : Nat) : Nat → List Nat
  | 0 => b
  | i + 1 => line (linTo b t i) t i
/-- rows, columns -/
def sides (b : List Nat) : Nat → List Nat
  | 0 => b
  | t + 1 => linTo (sides b t) t 8
def whole (b : List Nat) : List Nat := sides b 2
theorem takL_length (b : List Nat) (t i : Nat) : ∀ k, (takL b t i k).length = 16
  | 0 => by simp [takL]
  | k + 1 => by rw [takL, List.length_set, takL_length b t i k]
theorem takL_ok {b : List Nat} (h : okw b) (t i : Nat) : ∀ k, okw (takL b t i k)
  | 0 => fun x hx => by rw [List.eq_of_mem_replicate hx]; decide
  | k + 1 => (takL_ok h t i k).set _ _ (h.at_ _)
theorem putL_length (b v : List Nat) (t i : Nat) : ∀ k, (putL b v t i k).length = b.length
  | 0 => rfl
  | k + 1 => by rw [putL, List.length_set, putL_length b v t i k]
theorem putL_ok {b v : List Nat} (h : okw b) (hv : okw v) (t i : Nat) : ∀ k, okw (putL b v t i k)
  | 0 => h
  | k + 1 => (putL_ok h hv t i k).set _ _ (hv.at_ _)
theorem line_length (b : List Nat) (t i : Nat) : (line b t i).length = b.length := putL_length _ _ _ _ _
theorem line_ok {b : List Nat} (h : okw b) (t i : Nat) : okw (line b t i) := putL_ok h (perm_ok (takL_ok h t i 16)) t i 16
theorem linTo_length (b : List Nat) (t : Nat) : ∀ i, (linTo b t i).length = b.length
  | 0 => rfl
  | i + 1 => by rw [linTo, line_length, linTo_length b t i]
theorem linTo_ok {b : List Nat} (h : okw b) (t : Nat) : ∀ i, okw (linTo b t i)
  | 0 => h
  | i + 1 => line_ok (linTo_ok h t i) t i
theorem sides_length (b : List Nat) : ∀ t, (sides b t).length = b.length
  | 0 => rfl
  | t + 1 => by rw [sides, linTo_length, sides_length b t]
theorem sides_ok {b : List Nat} (h : okw b) : ∀ t, okw (sides b t)
  | 0 => h
  | t + 1 => linTo_ok (sides_ok h t) t 8
theorem sides_okb {b : List Nat} (h : okb b) (t : Nat) : okb (sides b t) := ⟨by rw [sides_length]; exact h.1, sides_ok h.2 t⟩
theorem linTo_okb {b : List Nat} (h : okb b) (t i : Nat) : okb (linTo b t i) := ⟨by rw [linTo_length]; exact h.1, linTo_ok h.2 t i⟩
theorem whole_ok {b : List Nat} (h : okb b) : okb (whole b) := sides_okb h 2

/-- two blocks mixed -/
def mix (x y : List Nat) : List Nat := xB [whole (xB [x, y]), xB [x, y]]
theorem two_ok {x y : List Nat} (hx : okb x) (hy : okb y) : ∀ b ∈ [x, y], okb b := fun b hb => by
  simp only [List.mem_cons, List.not_mem_nil, or_false] at hb
  rcases hb with rfl | rfl
  · exact hx
  · exact hy
theorem xB_swap (x y : List Nat) : xB [x, y] = xB [y, x] := tb_congr _ _ fun k _ => by simp [xw, Nat.xor_comm]
theorem xB_same (x : List Nat) : xB [x, x] = zb := by
  rw [zb_tb]; exact tb_congr _ _ fun k _ => by simp [xw]
theorem xB_one {x : List Nat} (hx : okb x) : xB [x] = x := by
  refine Eq.trans (tb_congr _ _ fun k _ => ?_) (tb_self x hx.1)
  simp [xw]
theorem mix_ok {x y : List Nat} (hx : okb x) (hy : okb y) : okb (mix x y) := by
  have h := xB_ok _ (two_ok hx hy)
  exact xB_ok _ (two_ok (whole_ok h) h)
theorem mix_swap (x y : List Nat) : mix x y = mix y x := by unfold mix; rw [xB_swap x y]
theorem mix_ref (x y : List Nat) : mix x y = xB [xB [x, y], whole (xB [x, y])] := xB_swap _ _
theorem whole_zero : whole zb = zb := by kernel_rfl
theorem mix_same (x : List Nat) : mix x x = zb := by
  unfold mix; rw [xB_same, whole_zero, xB_same]
theorem quarter_one : (quarter ⟨1, 0, 0, 0⟩).a = 769 := by kernel_rfl
/-- the example's block -/
def exb : List Nat := [1, 2, 3] ++ List.replicate 125 0
theorem exb_ok : okb exb := ⟨by decide, by unfold exb; decide⟩
theorem ex_word : ((mix exb zb).getD 0 0 == 0) = false := by kernel_rfl
theorem ex_ne : mix exb zb ≠ zb := fun h => by
  have h1 := ex_word
  rw [h] at h1
  revert h1; decide
end Go.Proofs.YtnbdmkgldjhcaaaDoor.Bn
