/- Argon2's memory filled, as plain mathematics: what a block hangs on, one block, a segment, a turn, all turns; lanes of one turn change places. Conditions: those typed. -/
import Derived.Test.YthbeoobfhfpelaaGreatDoorAds
namespace Go.Proofs.YthbeoobfhfpelaaGreatDoor
set_option maxRecDepth 50000
open Go.RowKit Bb Bn

/-- a shape's numbers, as far as filling asks -/
structure Sh (a t l b c g : Nat) : Prop where
  ha : a = 1 ∨ a = 2 ∨ a = 3
  t1 : 1 ≤ t
  tm : t ≤ 4294967295
  l1 : 1 ≤ l
  lm : l ≤ 1000
  g2 : 2 ≤ g
  cg : c = 4 * g
  cm : c ≤ 400
  bl : b = l * c

/-- the column ahead of one -/
def bfN (c x : Nat) : Nat := if x = 0 then c - 1 else x - 1
theorem bfN_is {c : Nat} (hc : 1 ≤ c) (x : Nat) : befN c x = ((bfN c x : Nat) : Int) := by
  unfold befN bfN
  split <;> omega
theorem bfN_mod {c x : Nat} (hx : x < c) : (x + c - 1) % c = bfN c x := by
  unfold bfN
  by_cases h : x = 0
  · rw [if_pos h, h, Nat.zero_add, Nat.mod_eq_of_lt (by omega)]
  · rw [if_neg h, show x + c - 1 = x - 1 + c by omega, Nat.add_mod_right, Nat.mod_eq_of_lt (by omega)]
theorem bfN_lt {c x : Nat} (hx : x < c) : bfN c x < c := by
  unfold bfN
  split <;> omega
/-- the first index of a turn -/
def fiN (p s : Nat) : Nat := if p = 0 ∧ s = 0 then 2 else 0
theorem fiN_is (p s : Nat) : firN (p : Int) (s : Int) = ((fiN p s : Nat) : Int) := by
  unfold firN fiN
  by_cases h : p = 0 ∧ s = 0
  · rw [if_pos h, if_pos (by omega)]; rfl
  · rw [if_neg h, if_neg (by omega)]; rfl
theorem fiN_le (p s : Nat) : fiN p s ≤ 2 := by unfold fiN; split <;> omega

/-- which lane and column a word chooses -/
def ofL (l p s k W : Nat) : Nat := lnN l p s k (W / 4294967296)
def ofA (l c g p s k i W : Nat) : Nat := (arI (bsN c g p s) i (decide (ofL l p s k W = k))).toNat
def ofC (l c g p s k i W : Nat) : Nat := colN c g p s (piN (ofA l c g p s k i W) (W % 4294967296))
/-- the word that a block's two numbers are -/
def numW (a t b c g : Nat) (L : List (List Nat)) (p s k i : Nat) : Nat :=
  if freeB a p s = true then (addL p k s b t ((a : Int) - 1) ((i / 128 + 1 : Nat) : Int)).getD (i % 128) 0 else (L.getD (k * c + bfN c (s * g + i)) []).getD 0 0
/-- a block filled, by its word -/
def newW (l c g : Nat) (L : List (List Nat)) (p s k i W : Nat) : List Nat :=
  xB (mix (L.getD (k * c + bfN c (s * g + i)) []) (L.getD (ofL l p s k W * c + ofC l c g p s k i W) []) :: if p = 0 then [] else [L.getD (k * c + (s * g + i)) []])
def newB (a t l b c g : Nat) (L : List (List Nat)) (p s k i : Nat) : List Nat := newW l c g L p s k i (numW a t b c g L p s k i)
def stepL (a t l b c g : Nat) (L : List (List Nat)) (p s k i : Nat) : List (List Nat) := L.set (k * c + (s * g + i)) (newB a t l b c g L p s k i)
def segTo (a t l b c g : Nat) (L : List (List Nat)) (p s k F : Nat) : Nat → List (List Nat)
  | 0 => L
  | n + 1 => stepL a t l b c g (segTo a t l b c g L p s k F n) p s k (F + n)
def segL (a t l b c g : Nat) (L : List (List Nat)) (p s k : Nat) : List (List Nat) := segTo a t l b c g L p s k (fiN p s) (g - fiN p s)
def turnTo (a t l b c g : Nat) (L : List (List Nat)) (p s : Nat) : Nat → List (List Nat)
  | 0 => L
  | n + 1 => segL a t l b c g (turnTo a t l b c g L p s n) p s n
def allTo (a t l b c g : Nat) (L : List (List Nat)) : Nat → List (List Nat)
  | 0 => L
  | n + 1 => turnTo a t l b c g (allTo a t l b c g L n) (n / 4) (n % 4) l

/-- a block that is filled -/
structure Fl (t l c g p s k i : Nat) : Prop where
  pt : p < t
  s3 : s ≤ 3
  kl : k < l
  lo : fiN p s ≤ i
  hi : i < g
section
variable {a t l b c g p s k i : Nat} {L : List (List Nat)}
theorem Fl.ref (S : Sh a t l b c g) (R : Fl t l c g p s k i) : Ref t l c g p s k i := ⟨S.g2, S.cg, R.pt, R.s3, R.kl, R.hi, fun hp hs => by have := R.lo; rw [fiN, if_pos ⟨hp, hs⟩] at this; exact this⟩
theorem Fl.re (R : Fl t l c g p s k i) : reB t l g p s k i = true := by
  have h1 := R.pt
  have h2 := R.s3
  have h3 := R.kl
  have h4 := R.lo
  have h5 := R.hi
  have h6 := fiN_is p s
  simp only [reB, hasB, inB, h6, Bool.and_eq_true, decide_eq_true_eq]
  omega
/-- the column that is filled -/
theorem Fl.col (S : Sh a t l b c g) (R : Fl t l c g p s k i) : s * g + i < c := by
  have h1 := R.hi
  have h2 : s * g ≤ 3 * g := Nat.mul_le_mul_right _ R.s3
  have h3 := S.cg
  omega
theorem place_lt {x : Nat} (S : Sh a t l b c g) (hk : k < l) (hx : x < c) : k * c + x < l * c := by
  have h : (k + 1) * c ≤ l * c := Nat.mul_le_mul_right _ hk
  rw [Nat.succ_mul] at h
  have := S.cg
  omega
theorem place_ne {k' x y : Nat} (hk : k ≠ k') (hx : x < c) (hy : y < c) : k * c + x ≠ k' * c + y := by
  intro e
  rcases Nat.lt_or_gt_of_ne hk with h | h
  · have h1 : (k + 1) * c ≤ k' * c := Nat.mul_le_mul_right _ h
    rw [Nat.succ_mul] at h1
    omega
  · have h1 : (k' + 1) * c ≤ k * c := Nat.mul_le_mul_right _ h
    rw [Nat.succ_mul] at h1
    omega
/-- what is chosen -/
structure Chosen (l c g p s k i W : Nat) : Prop where
  lane : ofL l p s k W < l
  is : arI (bsN c g p s) i (decide (ofL l p s k W = k)) = ((ofA l c g p s k i W : Nat) : Int)
  a1 : 1 ≤ ofA l c g p s k i W
  ac : ofA l c g p s k i W ≤ c
  count : ofA l c g p s k i W + (if decide (ofL l p s k W = k) = true then 1 else if i = 0 then 1 else 0) = bsN c g p s + (if decide (ofL l p s k W = k) = true then i else 0)
  col : ofC l c g p s k i W < c
  apart : ofL l p s k W ≠ k → ofC l c g p s k i W < s * g ∨ s * g + g ≤ ofC l c g p s k i W
theorem chosen_of (S : Sh a t l b c g) (R : Fl t l c g p s k i) (W : Nat) : Chosen l c g p s k i W := by
  have R' := R.ref S
  obtain ⟨A, h1, h2, h3, h4⟩ := R'.area (decide (ofL l p s k W = k)) (fun hp hs => by unfold ofL lnN; rw [if_pos ⟨hp, hs⟩]; simp)
  have hA : ofA l c g p s k i W = A := by unfold ofA; rw [h1]; rfl
  have hy : piN A (W % 4294967296) < A := pi_lt h2
  obtain ⟨s1, s2, s3, s4⟩ := R'.spot (decide (ofL l p s k W = k)) A _ hy h4
  exact ⟨ln_lt R.kl, by rw [hA]; exact h1, by omega, by omega, by rw [hA]; exact h4, by unfold ofC; rw [hA]; exact s1, fun h => by unfold ofC; rw [hA]; exact s3 (by simpa using h)⟩
theorem numW_lt (S : Sh a t l b c g) (R : Fl t l c g p s k i) (hL : L.length = l * c) (h : ∀ x ∈ L, okb x) : numW a t b c g L p s k i < 18446744073709551616 := by
  unfold numW
  split
  · exact ok_at (add_ok _ _ _ _ _ _ _) _
  · exact ok_at (block_ok h _ (by rw [hL]; exact place_lt S R.kl (bfN_lt (R.col S)))) _
theorem newW_ok (S : Sh a t l b c g) (R : Fl t l c g p s k i) (hL : L.length = l * c) (h : ∀ x ∈ L, okb x) (W : Nat) : okb (newW l c g L p s k i W) := by
  have C := chosen_of S R W
  have h1 := block_ok h _ (by rw [hL]; exact place_lt S R.kl (bfN_lt (R.col S)))
  have h2 := block_ok h _ (by rw [hL]; exact place_lt S C.lane C.col)
  have h3 := block_ok h _ (by rw [hL]; exact place_lt S R.kl (R.col S))
  unfold newW
  refine xB_ok _ fun x hx => ?_
  rcases List.mem_cons.1 hx with rfl | hx
  · exact mix_ok h1 h2
  · split at hx
    · cases hx
    · rw [List.mem_singleton.1 hx]; exact h3
theorem newB_ok (S : Sh a t l b c g) (R : Fl t l c g p s k i) (hL : L.length = l * c) (h : ∀ x ∈ L, okb x) : okb (newB a t l b c g L p s k i) := newW_ok S R hL h _
theorem stepL_len : (stepL a t l b c g L p s k i).length = L.length := List.length_set
theorem stepL_ok (S : Sh a t l b c g) (R : Fl t l c g p s k i) (hL : L.length = l * c) (h : ∀ x ∈ L, okb x) : ∀ x ∈ stepL a t l b c g L p s k i, okb x := okl_set h _ (newB_ok S R hL h)
theorem segTo_len {F : Nat} : ∀ n, (segTo a t l b c g L p s k F n).length = L.length
  | 0 => rfl
  | n + 1 => stepL_len.trans (segTo_len n)
theorem segL_len : (segL a t l b c g L p s k).length = L.length := segTo_len _
theorem turnTo_len : ∀ n, (turnTo a t l b c g L p s n).length = L.length
  | 0 => rfl
  | n + 1 => segL_len.trans (turnTo_len n)
theorem allTo_len : ∀ n, (allTo a t l b c g L n).length = L.length
  | 0 => rfl
  | n + 1 => (turnTo_len l).trans (allTo_len n)

/-! lanes change places -/
theorem getD_other {n m : Nat} (h : n ≠ m) (x : List Nat) : (L.set n x).getD m [] = L.getD m [] := by
  simp only [List.getD_eq_getElem?_getD]
  rw [List.getElem?_set_ne h]
theorem newB_other (S : Sh a t l b c g) {k' i' : Nat} (R : Fl t l c g p s k i) (R' : Fl t l c g p s k' i') (hk : k ≠ k') (x : List Nat) : newB a t l b c g (L.set (k * c + (s * g + i)) x) p s k' i' = newB a t l b c g L p s k' i' := by
  have c1 := R.col S
  have c2 := R'.col S
  have e1 : (L.set (k * c + (s * g + i)) x).getD (k' * c + bfN c (s * g + i')) [] = L.getD (k' * c + bfN c (s * g + i')) [] := getD_other (place_ne hk c1 (bfN_lt c2)) x
  have e2 : numW a t b c g (L.set (k * c + (s * g + i)) x) p s k' i' = numW a t b c g L p s k' i' := by unfold numW; rw [e1]
  have e3 : (L.set (k * c + (s * g + i)) x).getD (k' * c + (s * g + i')) [] = L.getD (k' * c + (s * g + i')) [] := getD_other (place_ne hk c1 c2) x
  unfold newB
  rw [e2]
  have C := chosen_of S R' (numW a t b c g L p s k' i')
  generalize numW a t b c g L p s k' i' = W at *
  have e4 : (L.set (k * c + (s * g + i)) x).getD (ofL l p s k' W * c + ofC l c g p s k' i' W) [] = L.getD (ofL l p s k' W * c + ofC l c g p s k' i' W) [] := by
    refine getD_other ?_ x
    by_cases hl : k = ofL l p s k' W
    · have h := C.apart (by omega)
      have hi := R.hi
      rw [hl]
      omega
    · exact place_ne hl c1 C.col
  unfold newW
  rw [e1, e3, e4]
theorem step_comm (S : Sh a t l b c g) {k' i' : Nat} (R : Fl t l c g p s k i) (R' : Fl t l c g p s k' i') (hk : k ≠ k') : stepL a t l b c g (stepL a t l b c g L p s k i) p s k' i' = stepL a t l b c g (stepL a t l b c g L p s k' i') p s k i := by
  unfold stepL
  rw [newB_other S R R' hk, newB_other S R' R (Ne.symm hk), List.set_comm _ _ (place_ne hk (R.col S) (R'.col S))]
theorem segTo_step (S : Sh a t l b c g) {k' i' : Nat} (R' : Fl t l c g p s k' i') (hkl : k < l) (hk : k ≠ k') (F : Nat) (hF : fiN p s ≤ F) : ∀ n, F + n ≤ g → segTo a t l b c g (stepL a t l b c g L p s k' i') p s k F n = stepL a t l b c g (segTo a t l b c g L p s k F n) p s k' i'
  | 0, _ => rfl
  | n + 1, h => by
    have ih := segTo_step S R' hkl hk F hF n (by omega)
    have R : Fl t l c g p s k (F + n) := ⟨R'.pt, R'.s3, hkl, by omega, by omega⟩
    simp only [segTo]
    rw [ih, step_comm S R' R (Ne.symm hk)]
theorem seg_comm (S : Sh a t l b c g) (hp : p < t) (hs : s ≤ 3) {k' : Nat} (hkl : k < l) (hkl' : k' < l) (hk : k ≠ k') : segL a t l b c g (segL a t l b c g L p s k') p s k = segL a t l b c g (segL a t l b c g L p s k) p s k' := by
  have hfg : fiN p s + (g - fiN p s) = g := by have := fiN_le p s; have := S.g2; omega
  have h : ∀ n, fiN p s + n ≤ g → segL a t l b c g (segTo a t l b c g L p s k' (fiN p s) n) p s k = segTo a t l b c g (segL a t l b c g L p s k) p s k' (fiN p s) n := by
    intro n
    induction n with
    | zero => intro _; rfl
    | succ n ih =>
      intro hn
      have R' : Fl t l c g p s k' (fiN p s + n) := ⟨hp, hs, hkl', by omega, by omega⟩
      simp only [segTo]
      rw [← ih (by omega)]
      exact segTo_step S R' hkl hk _ (Nat.le_refl _) _ (by omega)
  exact h _ (by omega)
/-- the lanes of a list, one behind the other -/
def lanesL (a t l b c g : Nat) (L : List (List Nat)) (p s : Nat) (ks : List Nat) : List (List Nat) := ks.foldl (fun L k => segL a t l b c g L p s k) L
theorem lanes_range (n : Nat) : lanesL a t l b c g L p s (List.range n) = turnTo a t l b c g L p s n := by
  induction n with
  | zero => rfl
  | succ n ih =>
    unfold lanesL at ih ⊢
    rw [List.range_succ, List.foldl_append, ih]
    rfl
theorem lanes_first (S : Sh a t l b c g) (hp : p < t) (hs : s ≤ 3) (B : List Nat) (hk : k < l) : ∀ (A : List Nat) (L : List (List Nat)), (∀ x ∈ A, x < l) → k ∉ A → lanesL a t l b c g (segL a t l b c g L p s k) p s (A ++ B) = lanesL a t l b c g L p s (A ++ k :: B)
  | [], _, _, _ => rfl
  | x :: A, L, h, hn => by
    have hx : x ≠ k := fun e => hn (by rw [e]; exact List.mem_cons_self)
    have ih := lanes_first S hp hs B hk A (segL a t l b c g L p s x) (fun y hy => h y (List.mem_cons_of_mem _ hy)) (fun hy => hn (List.mem_cons_of_mem _ hy))
    show lanesL a t l b c g (segL a t l b c g (segL a t l b c g L p s k) p s x) p s (A ++ B) = lanesL a t l b c g (segL a t l b c g L p s x) p s (A ++ k :: B)
    rw [seg_comm S hp hs (h x List.mem_cons_self) hk hx]
    exact ih
theorem lanes_pick (S : Sh a t l b c g) (hp : p < t) (hs : s ≤ 3) (ks : List Nat) (hks : ∀ x ∈ ks, x < l) (hn : ks.Nodup) (j : Nat) (hj : j < ks.length) : lanesL a t l b c g (segL a t l b c g L p s (ks.getD j 0)) p s (ks.take j ++ ks.drop (j + 1)) = lanesL a t l b c g L p s ks := by
  have e : ks.getD j 0 = ks[j] := by rw [List.getD_eq_getElem?_getD, List.getElem?_eq_getElem hj]; rfl
  have hd : ks = ks.take j ++ ks[j] :: ks.drop (j + 1) := by rw [List.getElem_cons_drop, List.take_append_drop]
  rw [e]
  conv => rhs; rw [hd]
  refine lanes_first S hp hs _ (hks _ (List.getElem_mem hj)) _ _ (fun x hx => hks x (List.mem_of_mem_take hx)) ?_
  intro hm
  rw [hd] at hn
  exact (List.nodup_append.1 hn).2.2 _ hm _ List.mem_cons_self rfl
end
end Go.Proofs.YthbeoobfhfpelaaGreatDoor
