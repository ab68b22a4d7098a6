/- Words and their bytes, by their contracts. Conditions: those typed. -/
import Derived.Test.YtfoodaobiknihaaDoorKi
import Derived.LoopTactic
import Derived.IntWalk
import Derived.Lib.Hide
import Derived.Outline
import Derived.StillTailTactics
import Derived.Laws.BytesArg
import Derived.Lib.BufferRead
import Derived.Lib.ConvBytes
namespace Go.Proofs.YtfoodaobiknihaaDoor
set_option maxRecDepth 50000
open Go.RowKit
def ups (i : Nat) : Nat := i
theorem div_next (x i : Nat) : x / 2 ^ (8 * i) / 256 = x / 2 ^ (8 * (i + 1)) := by
  rw [Nat.div_div_eq_div_mul, Nat.mul_add, Nat.pow_add]
theorem div_le_self' (x i : Nat) : x / 2 ^ (8 * i) ≤ x := Nat.div_le_self _ _
end Go.Proofs.YtfoodaobiknihaaDoor
namespace Go.Proofs.YtfoodaobiknihaaDoor
set_option maxRecDepth 50000
open Go.RowKit
def orTo (p : Nat → Nat) (f : Nat → Nat) : Nat → Nat
  | 0 => 0
  | m + 1 => orTo p f m ||| f m * 2 ^ (8 * p m)
def wordAt (p : Nat → Nat) (n : Nat) (bs : List Nat) (t j : Nat) : Nat := orTo p (fun i => bs.getD (j * n + i) 0) (min n (t - j * n))
def wordsAt (p : Nat → Nat) (n M : Nat) (bs : List Nat) (t : Nat) : List Nat := (List.range M).map (wordAt p n bs t)
theorem orTo_lt (p : Nat → Nat) (n : Nat) (hp : ∀ i, i < n → p i < n) (f : Nat → Nat) (hf : ∀ i, f i < 256) : ∀ m, m ≤ n → orTo p f m < 2 ^ (8 * n)
  | 0, _ => Nat.two_pow_pos _
  | m + 1, h => by
    refine Nat.or_lt_two_pow (orTo_lt p n hp f hf m (by omega)) ?_
    have h1 := hp m (by omega)
    have h2 : f m * 2 ^ (8 * p m) < 2 ^ 8 * 2 ^ (8 * p m) := Nat.mul_lt_mul_of_pos_right (hf m) (Nat.two_pow_pos _)
    rw [← Nat.pow_add] at h2
    exact Nat.lt_of_lt_of_le h2 (Nat.pow_le_pow_right (by omega) (by omega))
theorem getD_lt (bs : List Nat) (hx : ∀ x ∈ bs, x < 256) (i : Nat) : bs.getD i 0 < 256 := by
  unfold List.getD
  cases h : bs[i]? with
  | none => simp
  | some x => exact hx x (List.mem_of_getElem? h)
theorem wordAt_lt (p : Nat → Nat) (n : Nat) (hp : ∀ i, i < n → p i < n) (bs : List Nat) (hx : ∀ x ∈ bs, x < 256) (t j : Nat) : wordAt p n bs t j < 2 ^ (8 * n) :=
  orTo_lt p n hp _ (fun _ => getD_lt bs hx _) _ (Nat.min_le_left _ _)
theorem shifted_lt (n k x : Nat) (hk : k < n) (hx : x < 256) : x * 2 ^ (8 * k) < 2 ^ (8 * n) := by
  have h2 : x * 2 ^ (8 * k) < 2 ^ 8 * 2 ^ (8 * k) := Nat.mul_lt_mul_of_pos_right hx (Nat.two_pow_pos _)
  rw [← Nat.pow_add] at h2
  exact Nat.lt_of_lt_of_le h2 (Nat.pow_le_pow_right (by omega) (by omega))
theorem words_set (p : Nat → Nat) (n M : Nat) (bs : List Nat) (t j m x : Nat) (ht : t = n * j + m) (hm : m < n) (hx : bs.getD t 0 = x) :
    (wordsAt p n M bs t).set j (wordAt p n bs t j ||| x * 2 ^ (8 * p m)) = wordsAt p n M bs (t + 1) := by
  refine List.ext_getElem (by simp [wordsAt]) fun i h1 h2 => ?_
  simp only [wordsAt, List.length_map, List.length_range] at h2
  rw [List.getElem_set]
  simp only [wordsAt, List.getElem_map, List.getElem_range]
  have hcomm : j * n = n * j := Nat.mul_comm _ _
  split
  · rename_i h; subst h
    unfold wordAt
    rw [show min n (t - j * n) = m from by omega, show min n (t + 1 - j * n) = m + 1 from by omega]
    show _ = orTo p _ m ||| bs.getD (j * n + m) 0 * 2 ^ (8 * p m)
    rw [show j * n + m = t from by omega, hx]
  · rename_i h
    unfold wordAt
    congr 1
    rcases Nat.lt_or_gt_of_ne h with hlt | hgt
    · have : (j + 1) * n ≤ i * n := Nat.mul_le_mul_right _ hlt
      rw [Nat.add_mul] at this
      omega
    · have : (i + 1) * n ≤ j * n := Nat.mul_le_mul_right _ hgt
      rw [Nat.add_mul] at this
      omega
theorem words_zero (p : Nat → Nat) (n M : Nat) (bs : List Nat) : wordsAt p n M bs 0 = List.replicate M 0 := by
  refine List.ext_getElem (by simp [wordsAt]) fun i _ _ => ?_
  simp [wordsAt, wordAt, orTo]
theorem made_one (z : Value) (M : Nat) : (madeCells #[z] M).toList = List.replicate M z := by
  refine List.ext_getElem (by simp [madeCells]) fun i h1 h2 => ?_
  simp [madeCells, Nat.mod_one]
theorem or_u64 (y x k : Nat) (hy : y < 2 ^ 64) (hx : x < 256) (hk : k < 8) : bits .or .u64 (y : Int) (IntKind.u64.wrap ((x : Int) * 2 ^ (8 * k))) = ((y ||| x * 2 ^ (8 * k) : Nat) : Int) := by
  have h := shifted_lt 8 k x hk hx
  have e : IntKind.u64.wrap ((x : Int) * 2 ^ (8 * k)) = ((x * 2 ^ (8 * k) : Nat) : Int) := by
    rw [IntKind.wrap_u64]
    have : ((x * 2 ^ (8 * k) : Nat) : Int) % 18446744073709551616 = ((x * 2 ^ (8 * k) : Nat) : Int) := by omega
    rw [← this, Int.natCast_mul, Int.natCast_pow]; rfl
  rw [e]
  exact u64_or_nat y _ (by omega) (by omega)
theorem Tryd.info96 : (Tryd.prog.info? 96).map (fun i => (i.zero, i.size, i.bytes)) = some (some (.int .u32 0), 1, 4) := by kernel_rfl
theorem Tryd.info89 : (Tryd.prog.info? 89).map (fun i => (i.zero, i.size, i.bytes)) = some (some (.int .u64 0), 1, 8) := by kernel_rfl
end Go.Proofs.YtfoodaobiknihaaDoor
namespace Go.Proofs.YtfoodaobiknihaaDoor
set_option maxRecDepth 50000
open Go.RowKit
theorem orTo_bit (p : Nat → Nat) (f : Nat → Nat) (b : Nat) : ∀ m, (orTo p f m).testBit b = (List.range m).any fun i => (f i * 2 ^ (8 * p i)).testBit b
  | 0 => by simp [orTo]
  | m + 1 => by rw [orTo, Nat.testBit_or, orTo_bit p f b m, List.range_succ, List.any_append]; simp
theorem flat_getD (n : Nat) (f : Nat → List Nat) (hf : ∀ x, (f x).length = n) : ∀ (xs : List Nat) (j i : Nat) (hj : j < xs.length), i < n → (xs.flatMap f).getD (j * n + i) 0 = (f xs[j]).getD i 0
  | [], _, _, hj, _ => by simp at hj
  | x :: xs, 0, i, _, hi => by
    simp only [List.flatMap_cons, Nat.zero_mul, Nat.zero_add, List.getElem_cons_zero]
    simp [List.getD, List.getElem?_append_left (show i < (f x).length by rw [hf]; exact hi)]
  | x :: xs, j + 1, i, hj, hi => by
    have h := flat_getD n f hf xs j i (by simpa using hj) hi
    simp only [List.flatMap_cons, List.getElem_cons_succ]
    rw [← h]
    have : (f x).length ≤ (j + 1) * n + i := by rw [hf, Nat.add_mul]; omega
    simp only [List.getD, List.getElem?_append_right this]
    rw [hf, show (j + 1) * n + i - n = j * n + i from by rw [Nat.add_mul]; omega]
theorem flat_lt (p : Nat → Nat) (n : Nat) (xs : List Nat) : ∀ x ∈ xs.flatMap (bytesOf p n), x < 256 := by
  intro x hx
  obtain ⟨y, _, hy⟩ := List.mem_flatMap.1 hx
  obtain ⟨i, _, rfl⟩ := List.mem_map.1 hy
  exact Nat.mod_lt _ (by omega)
theorem flat_length (p : Nat → Nat) (n : Nat) : ∀ xs : List Nat, (xs.flatMap (bytesOf p n)).length = n * xs.length
  | [] => by simp
  | x :: xs => by rw [List.flatMap_cons, List.length_append, flat_length p n xs, bytesOf_length, List.length_cons, Nat.mul_add]; omega
end Go.Proofs.YtfoodaobiknihaaDoor
namespace Go.Proofs.YtfoodaobiknihaaDoor
set_option maxRecDepth 50000
open Go.RowKit
end Go.Proofs.YtfoodaobiknihaaDoor
namespace Go.Proofs.YtfoodaobiknihaaDoor
set_option maxRecDepth 50000
open Go.RowKit
theorem cells_own {w : World} {base : Nat} {n c : Nat} {g : Nat} {xs : List Value} (h : w.ownsRow base 5 1 (.slice (some ⟨g, 0, none⟩) n c) n xs) : ∀ j u, xs[j]? = some u → w.cell? ((⟨g, 0, none⟩ : Addr).add j) = some u := h.cells rfl
theorem u8s_one (l : List Nat) : ∀ u ∈ u8s l, u.oneCell' = true := by
  intro u hu
  obtain ⟨x, _, rfl⟩ := List.mem_map.1 hu
  rfl
end Go.Proofs.YtfoodaobiknihaaDoor
namespace Go.Proofs.YtfoodaobiknihaaDoor
set_option maxRecDepth 50000
open Go.RowKit
def hornTo (f : Nat → Nat) (n : Nat) : Nat → Nat
  | 0 => 0
  | d + 1 => 256 * hornTo f n d + f (n - 1 - d)
def hornsAt (n : Nat) (bs : List Nat) (k : Nat) : List Nat := (List.range k).map fun j => hornTo (fun i => bs.getD (n * j + i) 0) n n
theorem hornTo_lt (f : Nat → Nat) (n : Nat) (hf : ∀ i, f i < 256) : ∀ d, hornTo f n d < 256 ^ d
  | 0 => by simp [hornTo]
  | d + 1 => by
    have h := hornTo_lt f n hf d
    have h2 := hf (n - 1 - d)
    rw [hornTo, Nat.pow_succ]; omega
theorem hornsAt_snoc (n : Nat) (bs : List Nat) (k : Nat) : hornsAt n bs (k + 1) = hornsAt n bs k ++ [hornTo (fun i => bs.getD (n * k + i) 0) n n] := by
  unfold hornsAt; rw [List.range_succ, List.map_append]; rfl
theorem getD_at (bs : List Nat) (i : Nat) (h : i < bs.length) : bs.getD i 0 = bs[i] := by simp [List.getD, List.getElem?_eq_getElem h]
end Go.Proofs.YtfoodaobiknihaaDoor
namespace Go.Proofs.YtfoodaobiknihaaDoor
set_option maxRecDepth 50000
theorem orTo_ups (f : Nat → Nat) (hf : ∀ i, f i < 256) (m : Nat) : orTo ups f (m + 1) = orTo ups f m + f m * 2 ^ (8 * m) := by
  have h : orTo ups f m < 2 ^ (8 * m) := orTo_lt ups m (fun i h => h) f hf m (Nat.le_refl _)
  rw [orTo, Nat.or_comm, show f m * 2 ^ (8 * ups m) = 2 ^ (8 * m) * f m from by rw [Nat.mul_comm]; rfl, ← Nat.two_pow_add_eq_or_of_lt h, Nat.add_comm, Nat.mul_comm]
theorem ups8 (f : Nat → Nat) (hf : ∀ i, f i < 256) : orTo ups f 8 = hornTo f 8 8 := by
  rw [orTo_ups f hf 7, orTo_ups f hf 6, orTo_ups f hf 5, orTo_ups f hf 4, orTo_ups f hf 3, orTo_ups f hf 2, orTo_ups f hf 1, orTo_ups f hf 0]
  simp [hornTo, orTo]; omega
theorem link (p : Nat → Nat) (n M : Nat) (bs cs : List Nat) (h : ∀ j, j < M → orTo p (fun i => bs.getD (j * n + i) 0) n = hornTo (fun i => cs.getD (n * j + i) 0) n n) : wordsAt p n M bs (n * M) = hornsAt n cs M := by
  unfold wordsAt hornsAt
  refine List.map_congr_left fun j hj => ?_
  have hj : j < M := List.mem_range.1 hj
  rw [← h j hj]
  unfold wordAt
  have : (j + 1) * n ≤ M * n := Nat.mul_le_mul_right _ hj
  rw [Nat.add_mul, Nat.mul_comm M] at this
  rw [show min n (n * M - j * n) = n from by omega]
theorem link8 (M : Nat) (bs : List Nat) (hx : ∀ x ∈ bs, x < 256) : wordsAt ups 8 M bs (8 * M) = hornsAt 8 bs M :=
  link ups 8 M bs bs fun j _ => by rw [ups8 _ (fun i => getD_lt bs hx _), Nat.mul_comm]
end Go.Proofs.YtfoodaobiknihaaDoor
namespace Go.Proofs.YtfoodaobiknihaaDoor
set_option maxRecDepth 50000
open Go.RowKit
end Go.Proofs.YtfoodaobiknihaaDoor
namespace Go.Proofs.YtfoodaobiknihaaDoor
set_option maxRecDepth 50000
open Go.RowKit
def strOf (l : List Nat) : ByteArray := strOfNums (l.map fun x : Nat => (x : Int))
end Go.Proofs.YtfoodaobiknihaaDoor
namespace Go.Proofs.YtfoodaobiknihaaDoor
set_option maxRecDepth 50000
open Go.RowKit
def nb (s : ByteArray) : List Nat := s.data.toList.map UInt8.toNat
theorem nb_length (s : ByteArray) : (nb s).length = s.size := by unfold nb; rw [List.length_map, Array.length_toList]; rfl
theorem nb_lt (s : ByteArray) : ∀ x ∈ nb s, x < 256 := by
  intro x hx
  obtain ⟨u, _, rfl⟩ := List.mem_map.1 hx
  exact u.toNat_lt
structure Buf (w : World) (g : Nat) (xs : List Nat) : Prop where
  cell : ∀ j, (h : j < xs.length) → w.cell? ⟨g, j, none⟩ = some (.int .u8 (xs[j] : Int))
  free : ∀ j, j < xs.length → w.frozen? ⟨g, j, none⟩ = false
theorem Buf.reads {w : World} {g B : Nat} {xs : List Nat} (h : Buf w g xs) (hg : g < B) : Reads w B (some ⟨g, 0, none⟩) (u8s xs) := fun k hk => by
  rw [u8s_length] at hk
  exact ⟨g, 0, rfl, hg, by rw [Nat.zero_add, h.cell k hk, u8_at]⟩
end Go.Proofs.YtfoodaobiknihaaDoor
