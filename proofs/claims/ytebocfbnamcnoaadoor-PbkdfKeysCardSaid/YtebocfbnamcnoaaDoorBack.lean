/- Take32, TakeBig32, Take64 by their contracts, and plain mathematics: words come back out of their bytes. Conditions as typed. -/
import Derived.Test.YtebocfbnamcnoaaDoorTaken
namespace Go.Proofs.YtebocfbnamcnoaaDoor
set_option maxRecDepth 50000
open Go.RowKit

theorem byte_bit (x k b : Nat) : ((x / 2 ^ (8 * k) % 256) * 2 ^ (8 * k)).testBit b = (decide (8 * k ≤ b) && (decide (b < 8 * k + 8) && x.testBit b)) := by
  rw [show (256 : Nat) = 2 ^ 8 from rfl, Nat.testBit_mul_two_pow, Nat.testBit_mod_two_pow, Nat.testBit_div_two_pow]
  by_cases h : 8 * k ≤ b
  · rw [show b - 8 * k + 8 * k = b from by omega]
    simp [h, show b - 8 * k < 8 ↔ b < 8 * k + 8 from by omega]
  · simp [h]
theorem orTo_bit (p : Nat → Nat) (f : Nat → Nat) (b : Nat) : ∀ m, (orTo p f m).testBit b = (List.range m).any fun i => (f i * 2 ^ (8 * p i)).testBit b
  | 0 => by simp [orTo]
  | m + 1 => by rw [orTo, Nat.testBit_or, orTo_bit p f b m, List.range_succ, List.any_append]; simp
/-- p reaches all places below n -/
def Onto (p : Nat → Nat) (n : Nat) : Prop := ∀ k, k < n → ∃ i, i < n ∧ p i = k
theorem orTo_back (p : Nat → Nat) (n x : Nat) (hp : Onto p n) (hx : x < 2 ^ (8 * n)) : orTo p (fun i => x / 2 ^ (8 * p i) % 256) n = x := by
  refine Nat.eq_of_testBit_eq fun b => ?_
  rw [orTo_bit, Bool.eq_iff_iff, List.any_eq_true]
  simp only [List.mem_range, byte_bit, Bool.and_eq_true, decide_eq_true_eq]
  constructor
  · rintro ⟨_, _, _, _, h⟩; exact h
  · intro h
    have hb : b < 8 * n := by
      rcases Nat.lt_or_ge b (8 * n) with h1 | h1
      · exact h1
      · have := Nat.testBit_lt_two_pow (Nat.lt_of_lt_of_le hx (Nat.pow_le_pow_right (by omega) h1))
        rw [this] at h; cases h
    obtain ⟨i, hi, hpi⟩ := hp (b / 8) (by omega)
    exact ⟨i, hi, by omega, by omega, h⟩
theorem onto_ups (n : Nat) : Onto ups n := fun k h => ⟨k, h, rfl⟩
theorem onto_downs (n : Nat) : Onto (downs n) n := fun k h => ⟨n - 1 - k, by omega, by unfold downs; omega⟩

theorem flat_getD (n : Nat) (f : Nat → List Nat) (hf : ∀ x, (f x).length = n) : ∀ (xs : List Nat) (j i : Nat) (hj : j < xs.length), i < n → (xs.flatMap f).getD (j * n + i) 0 = (f xs[j]).getD i 0
  | [], _, _, hj, _ => by simp at hj
  | x :: xs, 0, i, _, hi => by
    simp only [List.flatMap_cons, Nat.zero_mul, Nat.zero_add, List.getElem_cons_zero]
    simp [List.getD, List.getElem?_append_left (show i < (f x).length by rw [hf]; exact hi)]
  | x :: xs, j + 1, i, hj, hi => by
    have h := flat_getD n f hf xs j i (by simpa using hj) hi
    simp only [List.flatMap_cons, List.getElem_cons_succ]
    rw [← h]
    have : (f x).length ≤ (j + 1) * n + i := by rw [hf, Nat.add_mul]; omega
    simp only [List.getD, List.getElem?_append_right this]
    rw [hf, show (j + 1) * n + i - n = j * n + i from by rw [Nat.add_mul]; omega]
theorem words_back (p : Nat → Nat) (n : Nat) (hp : Onto p n) (xs : List Nat) (hx : ∀ x ∈ xs, x < 2 ^ (8 * n)) : wordsAt p n xs.length (xs.flatMap (bytesOf p n)) (n * xs.length) = xs := by
  refine List.ext_getElem (by simp [wordsAt]) fun j h1 h2 => ?_
  simp only [wordsAt, List.getElem_map, List.getElem_range]
  have hmin : min n (n * xs.length - j * n) = n := by
    have : (j + 1) * n ≤ xs.length * n := Nat.mul_le_mul_right _ h2
    rw [Nat.add_mul, Nat.mul_comm xs.length n] at this
    omega
  unfold wordAt
  rw [hmin]
  refine Eq.trans ?_ (orTo_back p n xs[j] hp (hx _ (List.getElem_mem h2)))
  have hcong : ∀ m, m ≤ n → orTo p (fun i => (xs.flatMap (bytesOf p n)).getD (j * n + i) 0) m = orTo p (fun i => xs[j] / 2 ^ (8 * p i) % 256) m := by
    intro m
    induction m with
    | zero => intro _; rfl
    | succ m ih =>
      intro hm
      rw [orTo, orTo, ih (by omega)]
      rw [flat_getD n _ (fun x => bytesOf_length p n x) xs j m h2 (by omega)]
      simp [bytesOf, List.getD, show m < n from by omega]
  exact hcong n (Nat.le_refl _)
theorem flat_lt (p : Nat → Nat) (n : Nat) (xs : List Nat) : ∀ x ∈ xs.flatMap (bytesOf p n), x < 256 := by
  intro x hx
  obtain ⟨y, _, hy⟩ := List.mem_flatMap.1 hx
  obtain ⟨i, _, rfl⟩ := List.mem_map.1 hy
  exact Nat.mod_lt _ (by omega)
theorem flat_length (p : Nat → Nat) (n : Nat) : ∀ xs : List Nat, (xs.flatMap (bytesOf p n)).length = n * xs.length
  | [] => by simp
  | x :: xs => by rw [List.flatMap_cons, List.length_append, flat_length p n xs, bytesOf_length, List.length_cons, Nat.mul_add]; omega

theorem takebig32_any (A : Option Addr) (c : Nat) (bs : List Nat) (M : Nat) (hM : bs.length = 4 * M) (w : World) (hr : Reads w w.heap.size A (u8s bs)) (hlen : bs.length ≤ 1000000) (hx : ∀ x ∈ bs, x < 256) :
    Calls Tryd.prog 63 #[.slice A bs.length c] w fun e w' => ∃ v, e = .returned (.tuple #[v, .int .i64 0]) ∧ w'.ownsRow w.heap.size 29 1 v M (u32s (wordsAt (downs 4) 4 M bs (4 * M))) ∧ Below w.heap.size w w' := by
  have C := taken32_any 32 (downs 4) (fun i h => by unfold downs; omega) (high_downs 4 (by omega)) A c bs M hM w hr hlen hx
  have H := Lib.hid C
  clear C hr hx hM
  go_enter Tryd.func63, Tryd.ntmps63
  go_wp2_with fail
  refine (H.out).mono ?_
  rintro e w' ⟨v, rfl, hown, hb⟩
  go_wp2
  go_ret2
  exact ⟨_, rfl, hown, hb⟩
theorem takebig32_bad (A : Option Addr) (c n : Nat) (hn : n % 4 ≠ 0) (hlen : n ≤ 1000000) (w : World) :
    Calls Tryd.prog 63 #[.slice A n c] w fun e w' => e = .returned (.tuple #[.slice none 0 0, .int .i64 9]) ∧ w = w' := by
  go_enter Tryd.func63, Tryd.ntmps63
  go_wp2_with fail
  refine (taken32_bad 32 A c n hn hlen _).mono ?_
  rintro e w' ⟨rfl, rfl⟩
  go_wp2
  go_ret2
  exact ⟨rfl, rfl⟩
end Go.Proofs.YtebocfbnamcnoaaDoor
