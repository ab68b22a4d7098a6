/- Small things of the document's sha: right, shift; a block's words as they are reckoned by 256s. No condition but those typed. -/
import Derived.Test.YtebocfbnamcnoaaDoorShHash
namespace Go.Proofs.YtebocfbnamcnoaaDoor
set_option maxRecDepth 50000
open Go.RowKit Rot Sha

theorem refr_n (n m s : Nat) (hm : n + m = 32) (hs : ((m : Int) % 32).toNat = s) (x : Nat) (hx : x < 4294967296) (w : World) : Calls Tryd.prog 76 #[.int .u32 (x : Int), .int .i64 (n : Int)] w fun e w' => e = .returned (.int .u32 (rotl 32 x s : Nat)) ∧ w = w' := by
  have e : (32 : Int) - (n : Int) = (m : Int) := by omega
  have C := refleft_any x (m : Int) w hx
  rw [hs] at C
  have HC := Lib.hid C
  have hn : n ≤ 32 := by omega
  have hmb : m ≤ 32 := by omega
  clear C hs hm
  go_enter Tryd.func76, Tryd.ntmps76
  go_wp2_with fail
  refine HC.out.mono ?_
  rintro e w' ⟨rfl, rfl⟩
  go_wp2
  go_ret
  exact ⟨rfl, rfl⟩
theorem shift_any (n : Nat) (hn : n ≤ 32) (x : Nat) (hx : x < 4294967296) (w : World) : Calls Tryd.prog 78 #[.int .u32 (x : Int), .int .i64 (n : Int)] w fun e w' => e = .returned (.int .u32 (x / 2 ^ n : Nat)) ∧ w = w' := by
  obtain ⟨Z, hZ⟩ : ∃ Z, Z = x / 2 ^ n := ⟨_, rfl⟩
  rw [← hZ]
  have HZ0 := Lib.hid hZ
  clear hZ
  go_enter Tryd.func78, Tryd.ntmps78
  go_wp2
  go_loop [0, 5] (fun v i => ∃ k y : Nat, k ≤ n ∧ i = .int .i64 (k : Int) ∧ v = .int .u32 (y : Int) ∧ y < 4294967296 ∧ Hid (y = x / 2 ^ k)) (fun _ i => n - (intOf i).toNat)
  case atStart => exact ⟨0, x, by omega, rfl, rfl, hx, Lib.hid (by simp)⟩
  case round =>
    obtain ⟨k, y, hk, rfl, rfl, hy, HY⟩ := hrel
    by_cases hlt : k < n
    · have hdt : decide ((k : Int) < (n : Int)) = true := by simp; omega
      obtain ⟨z, hz⟩ : ∃ z, z = y / 2 := ⟨_, rfl⟩
      have hq : (y : Int).tdiv 2 = (z : Int) := by rw [Int.tdiv_eq_ediv_of_nonneg (by omega)]; omega
      have hzb : z < 4294967296 := by omega
      have HZ : Hid (z = x / 2 ^ (k + 1)) := Lib.hid (by rw [hz, HY.out, Nat.div_div_eq_div_mul, ← Nat.pow_succ])
      have HLT := Lib.hid hlt
      clear hz hlt
      go_wp2
      go_round
      case rel => exact ⟨k + 1, z, HLT.out, by go_num, rfl, hzb, HZ⟩
      case measure => have := HLT.out; simp [intOf]; omega
    · obtain rfl : k = n := by omega
      have hdt : decide ((k : Int) < (k : Int)) = false := by simp
      go_wp2
      go_ret
      exact ⟨by rw [HZ0.out, ← HY.out]; rfl, rfl⟩

/-- the word of place j, when k of its bytes were taken -/
def hw (bs : List Nat) (j : Nat) : Nat → Nat
  | 0 => 0
  | k + 1 => hw bs j k * 256 + bs.getD (4 * j + k) 0
def filled (bs : List Nat) (i : Nat) : List Nat := (List.range i).map (fun j => hw bs j 4) ++ List.replicate (64 - i) 0
theorem getD_byte (bs : List Nat) (h : ∀ x ∈ bs, x < 256) (i : Nat) : bs.getD i 0 < 256 := by
  rw [List.getD_eq_getElem?_getD]
  by_cases hi : i < bs.length
  · rw [List.getElem?_eq_getElem hi]; exact h _ (List.getElem_mem hi)
  · rw [List.getElem?_eq_none (by omega)]; decide
theorem hw_lt (bs : List Nat) (h : ∀ x ∈ bs, x < 256) (j : Nat) : ∀ k, hw bs j k < 256 ^ k
  | 0 => by simp [hw]
  | k + 1 => by
    have h1 := hw_lt bs h j k
    have h2 := getD_byte bs h (4 * j + k)
    rw [hw, Nat.pow_succ]
    have : (hw bs j k + 1) * 256 ≤ 256 ^ k * 256 := Nat.mul_le_mul_right _ h1
    omega
theorem filled_length (bs : List Nat) (i : Nat) (h : i ≤ 64) : (filled bs i).length = 64 := by simp [filled]; omega
theorem filled_at (bs : List Nat) (i : Nat) : (filled bs i).getD i 0 = 0 := by
  unfold filled
  rw [List.getD_eq_getElem?_getD, List.getElem?_append_right (by simp)]
  simp only [List.length_map, List.length_range, Nat.sub_self, List.getElem?_replicate]
  split <;> rfl
theorem filled_zero (bs : List Nat) (i : Nat) (_h : i < 64) : (filled bs i).set i 0 = filled bs i := by
  refine List.ext_getElem (by simp) fun j h1 h2 => ?_
  rw [List.getElem_set]
  split
  · rename_i e
    subst e
    have := filled_at bs i
    rw [List.getD_eq_getElem?_getD, List.getElem?_eq_getElem h2] at this
    exact this.symm
  · rfl
theorem filled_next (bs : List Nat) (i : Nat) (h : i < 64) : (filled bs i).set i (hw bs i 4) = filled bs (i + 1) := by
  have e : List.replicate (64 - i) 0 = 0 :: List.replicate (64 - (i + 1)) 0 := by
    rw [show 64 - i = 64 - (i + 1) + 1 by omega, List.replicate_succ]
  unfold filled
  rw [List.range_succ, List.map_append, e, List.set_append_right _ _ (by simp)]
  simp
theorem or_low2 (a b i : Nat) (h : b < 2 ^ i) : (a * 2 ^ i) ||| b = a * 2 ^ i + b := by
  rw [Nat.mul_comm]; exact (Nat.two_pow_add_eq_or_of_lt h a).symm
theorem hw_sum (a b c d : Nat) : a * 2 ^ 24 + b * 65536 = (a * 256 + b) * 2 ^ 16 ∧ (a * 256 + b) * 2 ^ 16 + c * 256 = ((a * 256 + b) * 256 + c) * 2 ^ 8 ∧ ((a * 256 + b) * 256 + c) * 2 ^ 8 + d = ((a * 256 + b) * 256 + c) * 256 + d := by
  refine ⟨by omega, ?_, ?_⟩
  · rw [show (2 : Nat) ^ 16 = 65536 from rfl, show (2 : Nat) ^ 8 = 256 from rfl]; omega
  · rw [show (2 : Nat) ^ 8 = 256 from rfl]
theorem downs4_hw (f : Nat → Nat) (hf : ∀ i, f i < 256) : orTo (downs 4) f 4 = ((f 0 * 256 + f 1) * 256 + f 2) * 256 + f 3 := by
  have h0 := hf 0
  have h1 := hf 1
  have h2 := hf 2
  have h3 := hf 3
  have b1 : f 1 * 65536 < 2 ^ 24 := Nat.lt_of_lt_of_le (Nat.mul_lt_mul_of_pos_right h1 (by decide)) (by decide)
  have b2 : f 2 * 256 < 2 ^ 16 := Nat.lt_of_lt_of_le (Nat.mul_lt_mul_of_pos_right h2 (by decide)) (by decide)
  obtain ⟨g1, g2, g3⟩ := hw_sum (f 0) (f 1) (f 2) (f 3)
  have e : orTo (downs 4) f 4 = (((f 0 * 2 ^ 24) ||| f 1 * 65536) ||| f 2 * 256) ||| f 3 := by
    show (((0 ||| f 0 * 2 ^ 24) ||| f 1 * 65536) ||| f 2 * 256) ||| f 3 * 1 = _
    rw [Nat.zero_or, Nat.mul_one]
  rw [e, or_low2 _ _ 24 b1, g1, or_low2 _ _ 16 b2, g2, or_low2 _ _ 8 (by exact h3), g3]
theorem filled_all (bs : List Nat) (hx : ∀ x ∈ bs, x < 256) : filled bs 16 = fill (blockWords bs) 0 := by
  unfold filled fill blockWords wordsAt
  congr 1
  refine List.map_congr_left fun j hj => ?_
  have hj : j < 16 := List.mem_range.1 hj
  unfold wordAt
  rw [show min 4 (4 * 16 - j * 4) = 4 by omega, downs4_hw _ (fun i => getD_byte bs hx _), Nat.mul_comm j 4]
  simp [hw]
end Go.Proofs.YtebocfbnamcnoaaDoor
