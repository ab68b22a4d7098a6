/- HMAC on lists of bytes: a key's block, its masks, a tag, a chain of tags; words.Xor of two texts of one length. Conditions: those typed. -/
import Derived.Test.YtebocfbnamcnoaaDoorShAwake
import Derived.Test.YtebocfbnamcnoaaDoorXwalk
namespace Go.Proofs.YtebocfbnamcnoaaDoor
set_option maxRecDepth 50000
open Go.RowKit Sha

theorem flat4_length : ∀ st : List Nat, (st.flatMap (bytesOf (downs 4) 4)).length = 4 * st.length
  | [] => rfl
  | x :: st => by rw [List.flatMap_cons, List.length_append, flat4_length st, bytesOf_length, List.length_cons]; omega
theorem outL_length (st : List Nat) (h : st.length = 8) : (outL st).length = 32 := by
  unfold outL bytesL
  rw [List.length_map, flat4_length, h]
theorem shaL_length (X : List UInt8) : (shaL X).length = 32 := outL_length _ (stOf_ok _).1

/-- a key, or its sum -/
def cutK (K : List UInt8) : List UInt8 := if 64 < K.length then shaL K else K
theorem cutK_le (K : List UInt8) : (cutK K).length ≤ 64 := by
  unfold cutK
  split
  · rw [shaL_length]; decide
  · omega
/-- a key's block -/
def keyL (K : List UInt8) : List UInt8 := cutK K ++ List.replicate (64 - (cutK K).length) 0
theorem keyL_length (K : List UInt8) : (keyL K).length = 64 := by
  have := cutK_le K
  unfold keyL
  rw [List.length_append, List.length_replicate]; omega
def mskL (m : UInt8) (B : List UInt8) : List UInt8 := B.map (· ^^^ m)
theorem mskL_length (m : UInt8) (B : List UInt8) : (mskL m B).length = B.length := by simp [mskL]
def inK (K : List UInt8) : List UInt8 := mskL 54 (keyL K)
def outK (K : List UInt8) : List UInt8 := mskL 92 (keyL K)
theorem inK_length (K : List UInt8) : (inK K).length = 64 := by rw [inK, mskL_length, keyL_length]
theorem outK_length (K : List UInt8) : (outK K).length = 64 := by rw [outK, mskL_length, keyL_length]
def tagL (K X : List UInt8) : List UInt8 := shaL (outK K ++ shaL (inK K ++ X))
theorem tagL_length (K X : List UInt8) : (tagL K X).length = 32 := shaL_length _
def xorB (a b : List UInt8) : List UInt8 := List.zipWith (· ^^^ ·) a b
theorem xorB_length (a b : List UInt8) (h : b.length = a.length) : (xorB a b).length = a.length := by simp [xorB, h]
/-- the last tag behind n rounds more -/
def lastL (K C X : List UInt8) : Nat → List UInt8
  | 0 => tagL K (C ++ X)
  | n + 1 => tagL K (C ++ lastL K C X n)
theorem lastL_length (K C X : List UInt8) : ∀ n, (lastL K C X n).length = 32
  | 0 => tagL_length _ _
  | _ + 1 => tagL_length _ _
/-- all of them put together -/
def allL (K C X : List UInt8) : Nat → List UInt8
  | 0 => lastL K C X 0
  | n + 1 => xorB (allL K C X n) (lastL K C X (n + 1))
theorem allL_length (K C X : List UInt8) : ∀ n, (allL K C X n).length = 32
  | 0 => lastL_length _ _ _ 0
  | n + 1 => by rw [allL, xorB_length _ _ (by rw [lastL_length, allL_length K C X n]), allL_length K C X n]

theorem mskL_xorB (m : UInt8) (B : List UInt8) : xorB B (List.replicate B.length m) = mskL m B := by
  unfold xorB mskL
  induction B with
  | nil => rfl
  | cons b B ih => rw [List.length_cons, List.replicate_succ, List.zipWith_cons_cons, ih, List.map_cons]

theorem strOf_nats (l : List UInt8) : strOf (nats l) = tx l := by
  unfold strOf tx strOfNums nats
  congr 1
  congr 1
  rw [List.map_map, List.map_map]
  conv => rhs; rw [← List.map_id l]
  exact List.map_congr_left fun b _ => by simp
theorem nb_nats (s : ByteArray) : nb s = nats (tl s) := rfl
theorem xorL_nats : ∀ a b : List UInt8, xorL (nats a) (nats b) = nats (xorB a b)
  | [], _ => rfl
  | _ :: _, [] => rfl
  | x :: a, y :: b => by
    have := xorL_nats a b
    simp only [xorL, nats, xorB, List.map_cons, List.zipWith_cons_cons] at this ⊢
    rw [this, UInt8.toNat_xor]

theorem xor_two (A : Option Addr) (c : Nat) (s t : ByteArray) (w : World) (hr : Reads w w.heap.size A (stv [s, t])) (hc : 2 ≤ c) (hst : t.size = s.size) (hs : s.size ≤ 1000) :
    Calls Tryd.prog 30 #[.slice A 2 c] w fun e w' => e = .returned (.tuple #[.string (tx (xorB (tl s) (tl t))), .int .i64 0]) ∧ Below w.heap.size w w' := by
  refine (xor_cons A c s [t] w hr (by simpa using hc) (by simp) (fun u hu => ?_)).mono ?_
  · simp only [List.mem_cons, List.not_mem_nil, or_false] at hu
    rcases hu with rfl | rfl <;> omega
  · rintro e w' ⟨rfl, hb⟩
    refine ⟨?_, hb⟩
    have e1 : xorOf [s, t] = (xorL (nb s) (nb t), 0) := by simp [xorOf, hst]
    rw [e1]
    simp only [nb_nats, xorL_nats, strOf_nats]
end Go.Proofs.YtebocfbnamcnoaaDoor
