/- What bcrypt makes of a password: the key, the words, the sum. Pure. -/
import Derived.Test.YtccpcjbffibkkaaWb
import Derived.Test.YtccpcjbffibkkaaCp
import Derived.Test.YtccpcjbffibkkaaPi
import Derived.Test.YtccpcjbffibkkaaFh
namespace Go.Proofs.Ytccpcjbffibkkaa
set_option maxRecDepth 50000
open Go.RowKit Ci Pi16

theorem tl_extract (s : ByteArray) (i j : Nat) : tl (s.extract i j) = ((tl s).drop i).take (j - i) := by
  unfold tl
  rw [ByteArray.data_extract, Array.toList_extract, List.extract_eq_take_drop]
theorem tl_append (a b : ByteArray) : tl (a ++ b) = tl a ++ tl b := by
  unfold tl
  rw [ByteArray.data_append, Array.toList_append]
/-- what a password puts into the tables -/
def bky (s : ByteArray) : ByteArray := if 72 ≤ s.size then s.extract 0 72 else s ++ ⟨#[0]⟩
theorem bky_long {s : ByteArray} (h : 72 ≤ s.size) : bky s = s.extract 0 72 := if_pos h
theorem bky_short {s : ByteArray} (h : s.size < 72) : bky s = s ++ ⟨#[0]⟩ := if_neg (by omega)
theorem bky_size (s : ByteArray) : (bky s).size ≠ 0 ∧ (bky s).size ≤ 72 := by
  by_cases h : 72 ≤ s.size
  · rw [bky_long h, ByteArray.size_extract]; omega
  · rw [bky_short (by omega), ByteArray.size_append]
    have : (⟨#[0]⟩ : ByteArray).size = 1 := rfl
    omega
theorem bky_cut {s : ByteArray} (h : 72 ≤ s.size) : (s ++ ⟨#[0]⟩).extract 0 72 = bky s := by
  rw [bky_long h]
  refine tl_inj ?_
  rw [tl_extract, tl_extract, tl_append]
  simp only [List.drop_zero, Nat.sub_zero]
  exact List.take_append_of_le_length (by rw [tl_length]; exact h)
theorem bky_end {s : ByteArray} (h : s.size = 71) : bky (s ++ ⟨#[0]⟩) = bky s := by
  have hz : (s ++ ⟨#[0]⟩).size = 72 := by
    rw [ByteArray.size_append, h]; rfl
  rw [bky_short (s := s) (by omega), bky_long (by omega)]
  refine tl_inj ?_
  rw [tl_extract]
  simp only [List.drop_zero, Nat.sub_zero]
  exact List.take_of_length_le (by rw [tl_length]; omega)

/-- the bytes of the text that is sealed, and its words -/
def mgB : List Nat := [79, 114, 112, 104, 101, 97, 110, 66, 101, 104, 111, 108, 100, 101, 114, 83, 99, 114, 121, 68, 111, 117, 98, 116]
def mgL : List Nat := [1332899944, 1700884034, 1701343084, 1684370003, 1668446532, 1869963892]
def mg (j : Nat) : Nat := mgL.getD j 0
theorem mg_words : wordsAt (downs 4) 4 6 mgB (4 * 6) = mgL := by decide
theorem mg_at (j : Nat) (h : j < 6) : mgL[j]? = some (mg j) := by
  unfold mg
  rw [List.getD_eq_getElem?_getD, List.getElem?_eq_getElem (show j < mgL.length from h)]; rfl
theorem mg_lt : ∀ v ∈ mgL, v < 4294967296 := by decide
theorem mgB_lt : ∀ v ∈ mgB, v < 256 := by decide

/-- numbers as bytes -/
def bytesL (l : List Nat) : List UInt8 := l.map UInt8.ofNat
theorem cs_bytesL (l : List Nat) (h : ∀ x ∈ l, x < 256) : cs (bytesL l) = u8s l := by
  unfold cs bytesL u8s
  rw [List.map_map]
  refine List.map_congr_left fun x hx => ?_
  have := h x hx
  simp only [Function.comp_apply, UInt8.toNat_ofNat']
  rw [Nat.mod_eq_of_lt (by omega)]
theorem bytesL_length (l : List Nat) : (bytesL l).length = l.length := by simp [bytesL]
/-- the sum's bytes, and one more, by the tables g -/
def bcN (g : Nat → Nat) : List Nat := (sqL g mg 64 6).flatMap (bytesOf (downs 4) 4)
def bcT (g : Nat → Nat) : ByteArray := tx ((bytesL (bcN g)).take 23)
/-- the tables of a cost, a salt and a password -/
def bcG (c : Nat) (salt word : ByteArray) : Nat → Nat := ekTo (exB wordN salt (bky word)) salt (bky word) (2 ^ c)
def bcS (c : Nat) (salt word : ByteArray) : ByteArray := bcT (bcG c salt word)
theorem bcG_ok (c : Nat) (salt word : ByteArray) : Ok (bcG c salt word) := ekTo_ok (exB_ok (fun i _ => wordN_lt i) _ _) _ _ _
theorem bcN_length (g : Nat → Nat) : (bcN g).length = 24 := by
  unfold bcN; rw [flat_length, sqL_length]
theorem bcN_lt (g : Nat → Nat) : ∀ x ∈ bcN g, x < 256 := flat_lt (downs 4) 4 _
theorem bcT_size (g : Nat → Nat) : (bcT g).size = 23 := by
  unfold bcT; rw [tx_size, List.length_take, bytesL_length, bcN_length]; rfl
theorem sq_lt {g : Nat → Nat} (hg : Ok g) : ∀ v ∈ sqL g mg 64 6, v < 4294967296 := by
  intro v hv
  obtain ⟨j, hj, rfl⟩ := List.mem_map.1 hv
  have hj : j < 6 := List.mem_range.1 hj
  have hm : ∀ i, mg i < 4294967296 := fun i => by
    unfold mg
    by_cases h : i < mgL.length
    · rw [List.getD_eq_getElem?_getD, List.getElem?_eq_getElem h]
      exact mg_lt _ (List.getElem_mem h)
    · rw [List.getD_eq_getElem?_getD, List.getElem?_eq_none (by omega)]; decide
  unfold sq
  split
  · exact (enTo_lt hg _ _ (hm _) (hm _) 64).1
  · exact (enTo_lt hg _ _ (hm _) (hm _) 64).2

/-- why there is no sum -/
def bcE (c : Int) (salt word : ByteArray) : Int := if c < 4 ∨ 31 < c then 2 else if salt.size ≠ 16 then 9 else if 72 < word.size then 3 else 0
theorem bc_ways (c : Int) (salt word : ByteArray) :
    ((c < 4 ∨ 31 < c) ∧ bcE c salt word = 2) ∨ (¬ (c < 4 ∨ 31 < c) ∧ salt.size ≠ 16 ∧ bcE c salt word = 9) ∨ (¬ (c < 4 ∨ 31 < c) ∧ salt.size = 16 ∧ 72 < word.size ∧ bcE c salt word = 3) ∨
    (∃ n : Nat, c = (n : Int) ∧ 4 ≤ n ∧ n ≤ 31 ∧ salt.size = 16 ∧ word.size ≤ 72 ∧ bcE c salt word = 0) := by
  by_cases h1 : c < 4 ∨ 31 < c
  · exact .inl ⟨h1, if_pos h1⟩
  · by_cases h2 : salt.size = 16
    · by_cases h3 : 72 < word.size
      · exact .inr (.inr (.inl ⟨h1, h2, h3, by unfold bcE; rw [if_neg h1, if_neg (by omega), if_pos h3]⟩))
      · obtain ⟨n, rfl⟩ := Int.eq_ofNat_of_zero_le (show 0 ≤ c by omega)
        exact .inr (.inr (.inr ⟨n, rfl, by omega, by omega, h2, by omega, by unfold bcE; rw [if_neg h1, if_neg (by omega), if_neg h3]⟩))
    · exact .inr (.inl ⟨h1, h2, by unfold bcE; rw [if_neg h1, if_pos h2]⟩)
end Go.Proofs.Ytccpcjbffibkkaa
