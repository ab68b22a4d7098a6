/- Plain mathematics: the words that are put together by 'or' are those that are reckoned by 256s. No condition but those typed. -/
import Derived.Test.YtnmhcmjpcamoeaaDoorWords
import Derived.Test.YtnmhcmjpcamoeaaDoorBack
namespace Go.Proofs.YtnmhcmjpcamoeaaDoor
set_option maxRecDepth 50000

theorem orTo_ups (f : Nat → Nat) (hf : ∀ i, f i < 256) (m : Nat) : orTo ups f (m + 1) = orTo ups f m + f m * 2 ^ (8 * m) := by
  have h : orTo ups f m < 2 ^ (8 * m) := orTo_lt ups m (fun i h => h) f hf m (Nat.le_refl _)
  rw [orTo, Nat.or_comm, show f m * 2 ^ (8 * ups m) = 2 ^ (8 * m) * f m from by rw [Nat.mul_comm]; rfl, ← Nat.two_pow_add_eq_or_of_lt h, Nat.add_comm, Nat.mul_comm]
theorem ups4 (f : Nat → Nat) (hf : ∀ i, f i < 256) : orTo ups f 4 = hornTo f 4 4 := by
  rw [orTo_ups f hf 3, orTo_ups f hf 2, orTo_ups f hf 1, orTo_ups f hf 0]
  simp [hornTo, orTo]; omega
theorem ups8 (f : Nat → Nat) (hf : ∀ i, f i < 256) : orTo ups f 8 = hornTo f 8 8 := by
  rw [orTo_ups f hf 7, orTo_ups f hf 6, orTo_ups f hf 5, orTo_ups f hf 4, orTo_ups f hf 3, orTo_ups f hf 2, orTo_ups f hf 1, orTo_ups f hf 0]
  simp [hornTo, orTo]; omega
theorem or_low (a b i : Nat) (h : b < 2 ^ i) : (a * 2 ^ i) ||| b = a * 2 ^ i + b := by
  rw [Nat.mul_comm]; exact (Nat.two_pow_add_eq_or_of_lt h a).symm
theorem downs4_sum (a b c d : Nat) : a * 2 ^ 24 + b * 65536 = (a * 256 + b) * 2 ^ 16 ∧ (a * 256 + b) * 2 ^ 16 + c * 256 = (a * 65536 + b * 256 + c) * 2 ^ 8 ∧ (a * 65536 + b * 256 + c) * 2 ^ 8 + d = 256 * (256 * (256 * (256 * 0 + a) + b) + c) + d := by
  refine ⟨by omega, ?_, ?_⟩
  · rw [show (2 : Nat) ^ 16 = 65536 from rfl, show (2 : Nat) ^ 8 = 256 from rfl]; omega
  · rw [show (2 : Nat) ^ 8 = 256 from rfl]; omega
theorem downs4 (f : Nat → Nat) (hf : ∀ i, f i < 256) : orTo (downs 4) f 4 = hornTo (fun i => f (3 - i)) 4 4 := by
  have h0 := hf 0
  have h1 := hf 1
  have h2 := hf 2
  have h3 := hf 3
  have b1 : f 1 * 65536 < 2 ^ 24 := Nat.lt_of_lt_of_le (Nat.mul_lt_mul_of_pos_right h1 (by decide)) (by decide)
  have b2 : f 2 * 256 < 2 ^ 16 := Nat.lt_of_lt_of_le (Nat.mul_lt_mul_of_pos_right h2 (by decide)) (by decide)
  obtain ⟨g1, g2, g3⟩ := downs4_sum (f 0) (f 1) (f 2) (f 3)
  have e : orTo (downs 4) f 4 = (((f 0 * 2 ^ 24) ||| f 1 * 65536) ||| f 2 * 256) ||| f 3 := by
    show (((0 ||| f 0 * 2 ^ 24) ||| f 1 * 65536) ||| f 2 * 256) ||| f 3 * 1 = _
    rw [Nat.zero_or, Nat.mul_one]
  rw [e, or_low _ _ 24 b1, g1, or_low _ _ 16 b2, g2, or_low _ _ 8 (by exact h3), g3]
  rfl

theorem link (p : Nat → Nat) (n M : Nat) (bs cs : List Nat) (h : ∀ j, j < M → orTo p (fun i => bs.getD (j * n + i) 0) n = hornTo (fun i => cs.getD (n * j + i) 0) n n) : wordsAt p n M bs (n * M) = hornsAt n cs M := by
  unfold wordsAt hornsAt
  refine List.map_congr_left fun j hj => ?_
  have hj : j < M := List.mem_range.1 hj
  rw [← h j hj]
  unfold wordAt
  have : (j + 1) * n ≤ M * n := Nat.mul_le_mul_right _ hj
  rw [Nat.add_mul, Nat.mul_comm M] at this
  rw [show min n (n * M - j * n) = n from by omega]
theorem link4 (M : Nat) (bs : List Nat) (hx : ∀ x ∈ bs, x < 256) : wordsAt ups 4 M bs (4 * M) = hornsAt 4 bs M :=
  link ups 4 M bs bs fun j _ => by rw [ups4 _ (fun i => getD_lt bs hx _), Nat.mul_comm]
theorem link8 (M : Nat) (bs : List Nat) (hx : ∀ x ∈ bs, x < 256) : wordsAt ups 8 M bs (8 * M) = hornsAt 8 bs M :=
  link ups 8 M bs bs fun j _ => by rw [ups8 _ (fun i => getD_lt bs hx _), Nat.mul_comm]
theorem swap_getD (bs : List Nat) (M j i : Nat) (hj : j < M) (hi : i < 4) : (swapAt bs M).getD (4 * j + i) 0 = bs.getD (4 * j + (3 - i)) 0 := by
  unfold swapAt
  rw [Nat.mul_comm, flat_getD 4 _ (fun _ => rfl) (List.range M) j i (by simpa using hj) hi, List.getElem_range]
  match i, hi with
  | 0, _ => simp [List.getD, Nat.mul_comm]
  | 1, _ => simp [List.getD, Nat.mul_comm]
  | 2, _ => simp [List.getD, Nat.mul_comm]
  | 3, _ => simp [List.getD, Nat.mul_comm]
theorem hornTo_congr (f g : Nat → Nat) (n : Nat) (h : ∀ i, i < n → f i = g i) : ∀ d, d ≤ n → hornTo f n d = hornTo g n d
  | 0, _ => rfl
  | d + 1, hd => by rw [hornTo, hornTo, hornTo_congr f g n h d (by omega), h _ (by omega)]
theorem linkb (M : Nat) (bs : List Nat) (hx : ∀ x ∈ bs, x < 256) : wordsAt (downs 4) 4 M bs (4 * M) = hornsAt 4 (swapAt bs M) M :=
  link (downs 4) 4 M bs (swapAt bs M) fun j hj => by
    rw [downs4 _ (fun i => getD_lt bs hx _)]
    refine hornTo_congr _ _ 4 (fun i hi => ?_) 4 (Nat.le_refl _)
    rw [swap_getD bs M j i hj hi, Nat.mul_comm]
theorem swap_length (bs : List Nat) : ∀ M, (swapAt bs M).length = 4 * M
  | 0 => rfl
  | M + 1 => by rw [swapAt_snoc, List.length_append, swap_length bs M]; simp; omega
theorem swap_lt (bs : List Nat) (hx : ∀ x ∈ bs, x < 256) (M : Nat) : ∀ x ∈ swapAt bs M, x < 256 := by
  intro x h
  obtain ⟨j, _, hj⟩ := List.mem_flatMap.1 h
  simp only [List.mem_cons, List.not_mem_nil, or_false] at hj
  rcases hj with rfl | rfl | rfl | rfl <;> exact getD_lt bs hx _
theorem horns_length (n : Nat) (bs : List Nat) (M : Nat) : (hornsAt n bs M).length = M := by simp [hornsAt]
theorem horns_lt4 (bs : List Nat) (hx : ∀ x ∈ bs, x < 256) (M : Nat) : ∀ x ∈ hornsAt 4 bs M, x < 2 ^ 32 := by
  intro x h
  obtain ⟨j, _, rfl⟩ := List.mem_map.1 h
  exact hornTo_lt _ 4 (fun i => getD_lt bs hx _) 4
end Go.Proofs.YtnmhcmjpcamoeaaDoor
