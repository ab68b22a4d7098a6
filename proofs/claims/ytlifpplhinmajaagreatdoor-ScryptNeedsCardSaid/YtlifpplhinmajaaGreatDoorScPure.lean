/- scrypt as plain mathematics: rows of a text's words, mixed, and the key. No condition but those typed. -/
import Derived.Test.YtlifpplhinmajaaGreatDoorPk
import Derived.Test.YtlifpplhinmajaaGreatDoorSf
import Derived.Test.YtlifpplhinmajaaGreatDoorRmd
import Derived.Test.YtlifpplhinmajaaGreatDoorScWords
namespace Go.Proofs.YtlifpplhinmajaaGreatDoor
set_option maxRecDepth 50000
open Go.RowKit Sl Sf Rm

/-- words of bytes, lowest first, and back -/
def leW (M : Nat) (b : List UInt8) : List Nat := hornsAt 4 (nats b) M
def leB (l : List Nat) : List UInt8 := bytesL (l.flatMap (bytesOf ups 4))
/-- row k of a text's rows -/
def rowW (r : Nat) (B : List UInt8) (k : Nat) : List Nat := leW (32 * r) ((B.drop (128 * r * k)).take (128 * r))
/-- all rows, mixed, as bytes -/
def scM (r N : Nat) (B : List UInt8) (p : Nat) : List UInt8 := (List.range p).flatMap fun k => leB (rowMix r N inN (rowW r B k))
def scK (K S : List UInt8) (lg r p b : Nat) : List UInt8 := pkK K (scM r (2 ^ lg) (pkK K S 1 (128 * r * p)) p) 1 b

theorem leW_length (M : Nat) (b : List UInt8) : (leW M b).length = M := horns_length _ _ _
theorem leW_ok (M : Nat) (b : List UInt8) : okw (leW M b) := fun x hx => horns_lt4 _ (nats_lt b) M x hx
theorem horns_at (n : Nat) (bs : List Nat) (M j : Nat) (h : j < M) : (hornsAt n bs M).getD j 0 = hornTo (fun i => bs.getD (n * j + i) 0) n n := by
  unfold hornsAt
  rw [List.getD_eq_getElem?_getD, List.getElem?_map, List.getElem?_range h]; rfl
theorem nats_part (B : List UInt8) (q m j : Nat) (h : j < m) : (nats ((B.drop q).take m)).getD j 0 = (nats B).getD (q + j) 0 := by
  unfold nats
  rw [List.getD_eq_getElem?_getD, List.getD_eq_getElem?_getD, List.getElem?_map, List.getElem?_map, List.getElem?_take, if_pos h, List.getElem?_drop]
theorem hornTo_same (f g : Nat → Nat) (n : Nat) (h : ∀ i, i < n → f i = g i) : ∀ d, d ≤ n → hornTo f n d = hornTo g n d
  | 0, _ => rfl
  | d + 1, hd => by rw [hornTo, hornTo, hornTo_same f g n h d (by omega), h _ (by omega)]
theorem rowW_length (r : Nat) (B : List UInt8) (k : Nat) : (rowW r B k).length = 32 * r := leW_length _ _
theorem rowW_ok (r : Nat) (B : List UInt8) (k : Nat) : okw (rowW r B k) := leW_ok _ _
/-- a row is a part of all words -/
theorem rowW_at (r p : Nat) (B : List UInt8) (k i q : Nat) (hq : 32 * r * k + i = q) (hi : i < 32 * r) (hqp : q < 32 * r * p) : (leW (32 * r * p) B).getD q 0 = (rowW r B k).getD i 0 := by
  unfold rowW leW
  rw [horns_at _ _ _ _ hqp, horns_at _ _ _ _ hi]
  refine hornTo_same _ _ 4 (fun t ht => ?_) 4 (Nat.le_refl _)
  rw [nats_part B _ _ _ (by omega)]
  congr 1
  have e : 128 * r * k = 4 * (32 * r * k) := by
    rw [← Nat.mul_assoc, ← Nat.mul_assoc]
  omega
theorem leB_append (a b : List Nat) : leB (a ++ b) = leB a ++ leB b := by unfold leB bytesL; rw [List.flatMap_append, List.map_append]
theorem leB_length (l : List Nat) : (leB l).length = 4 * l.length := by unfold leB bytesL; rw [List.length_map, flat_length]
theorem leB_nil : leB [] = [] := rfl
theorem scM_snoc (r N : Nat) (B : List UInt8) (p : Nat) : scM r N B (p + 1) = scM r N B p ++ leB (rowMix r N inN (rowW r B p)) := by unfold scM; rw [List.range_succ, List.flatMap_append]; simp
theorem scM_length {r N : Nat} (h1 : 1 ≤ r) (hN : 0 < N) (B : List UInt8) : ∀ p, (scM r N B p).length = 128 * r * p
  | 0 => rfl
  | p + 1 => by
    rw [scM_snoc, List.length_append, scM_length h1 hN B p, leB_length, (rowMix_good h1 hN (rowW_length r B p) (rowW_ok r B p)).1, Nat.mul_succ]
    omega
theorem scK_length (K S : List UInt8) (lg r p b : Nat) : (scK K S lg r p b).length = b := pkK_length _ _ _ _
/-- rows that are told, one behind the other -/
def tellW (X : List (List Nat)) (k : Nat) : List Nat := (X.take k).flatten
theorem tellW_snoc (X : List (List Nat)) (k : Nat) (h : k < X.length) : tellW X (k + 1) = tellW X k ++ X.getD k [] := by
  unfold tellW
  rw [take_snoc X k h, List.flatten_append]; simp
theorem tellW_scM {r N p : Nat} {X : List (List Nat)} (B : List UInt8) (h : ∀ j, j < p → X.getD j [] = rowMix r N inN (rowW r B j)) (hp : p ≤ X.length) : ∀ k, k ≤ p → leB (tellW X k) = scM r N B k
  | 0, _ => rfl
  | k + 1, hk => by rw [tellW_snoc X k (by omega), leB_append, tellW_scM B h hp k (by omega), h k (by omega), scM_snoc]
theorem tellW_length {m : Nat} {X : List (List Nat)} (h : Rok X m) : ∀ k, k ≤ X.length → (tellW X k).length = m * k
  | 0, _ => rfl
  | k + 1, hk => by rw [tellW_snoc X k (by omega), List.length_append, tellW_length h k (by omega), (h k (by omega)).1, Nat.mul_succ]
theorem tellW_ok {m : Nat} {X : List (List Nat)} (h : Rok X m) : ∀ k, k ≤ X.length → okw (tellW X k)
  | 0, _ => fun x hx => by simp [tellW] at hx
  | k + 1, hk => fun x hx => by
    rw [tellW_snoc X k (by omega), List.mem_append] at hx
    rcases hx with hx | hx
    · exact tellW_ok h k (by omega) x hx
    · exact (h k (by omega)).2 x hx
end Go.Proofs.YtlifpplhinmajaaGreatDoor
