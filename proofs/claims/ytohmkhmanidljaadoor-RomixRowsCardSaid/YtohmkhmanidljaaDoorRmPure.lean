/- Rows in a memory of words, by halves, and one mixed by way of others, as plain mathematics. No condition but those typed. -/
import Derived.Test.YtohmkhmanidljaaDoorSfPure
import Derived.Test.YtohmkhmanidljaaDoorBbPure
namespace Go.Proofs.YtohmkhmanidljaaDoor.Rm
open Sl Sf Bb

theorem spot_lt {k i m R : Nat} (hk : k < R) (hi : i < m) : k * m + i < R * m := by
  have h1 : (k + 1) * m ≤ R * m := Nat.mul_le_mul_right m hk
  rw [Nat.succ_mul] at h1
  omega
theorem spot_one {k i k' i' m : Nat} (hi : i < m) (hi' : i' < m) (h : k * m + i = k' * m + i') : k = k' ∧ i = i' := by
  have hk : k = k' := by
    rcases Nat.lt_trichotomy k k' with hl | he | hl
    · have h1 : (k + 1) * m ≤ k' * m := Nat.mul_le_mul_right m hl
      rw [Nat.succ_mul] at h1
      omega
    · exact he
    · have h1 : (k' + 1) * m ≤ k * m := Nat.mul_le_mul_right m hl
      rw [Nat.succ_mul] at h1
      omega
  subst hk
  exact ⟨rfl, by omega⟩
theorem setl_at {α : Type} (X : List α) (k j : Nat) (x d : α) (hk : k < X.length) : (X.set k x).getD j d = if k = j then x else X.getD j d := by
  rw [List.getD_eq_getElem?_getD, List.getElem?_set]
  by_cases e : k = j
  · subst e; simp [hk]
  · simp [e, List.getD_eq_getElem?_getD]

/-- the words W hold the rows X, of m halves each, one behind the other -/
structure Mem (W : List Nat) (X : List (List Nat)) (m : Nat) : Prop where
  ok : ∀ k, W.getD k 0 < 18446744073709551616
  len : ∀ k, k < X.length → (X.getD k []).length = m
  room : X.length * m ≤ 2 * W.length
  at_ : ∀ k i, k < X.length → i < m → hf (W.getD ((k * m + i) / 2) 0) ((k * m + i) % 2) = (X.getD k []).getD i 0
theorem Mem.set {W : List Nat} {X : List (List Nat)} {m : Nat} (h : Mem W X m) {k i x : Nat} (hk : k < X.length) (hi : i < m) (hx : x < 4294967296) :
    Mem (W.set ((k * m + i) / 2) (wf (W.getD ((k * m + i) / 2) 0) ((k * m + i) % 2) x)) (X.set k ((X.getD k []).set i x)) m := by
  have hq := spot_lt hk hi
  have hW : (k * m + i) / 2 < W.length := by have := h.room; omega
  refine ⟨fun j => ?_, fun j hj => ?_, by rw [List.length_set, List.length_set]; exact h.room, fun j c hj hc => ?_⟩
  · rw [setl_at _ _ _ _ _ hW]
    split
    · exact wf_lt _ _ _ (h.ok _) hx
    · exact h.ok j
  · rw [List.length_set] at hj
    rw [setl_at _ _ _ _ _ hk]
    split
    · rename_i e; rw [List.length_set, h.len k hk]
    · exact h.len j hj
  · rw [List.length_set] at hj
    rw [setl_at _ _ _ _ _ hk, setl_at _ _ _ _ _ hW]
    have old := h.at_ j c hj hc
    by_cases e : k * m + i = j * m + c
    · obtain ⟨rfl, rfl⟩ := spot_one hi hc e
      rw [if_pos rfl, if_pos rfl, hf_wf _ _ _ (by omega) hx, setl_at _ _ _ _ _ (by rw [h.len k hk]; exact hi), if_pos rfl]
    · have hr : (if k = j then (X.getD k []).set i x else X.getD j []).getD c 0 = (X.getD j []).getD c 0 := by
        split
        · rename_i e2
          subst e2
          rw [setl_at _ _ _ _ _ (by rw [h.len k hk]; exact hi), if_neg (fun e3 => e (by rw [e3]))]
        · rfl
      rw [hr, ← old]
      by_cases e2 : (k * m + i) / 2 = (j * m + c) / 2
      · rw [if_pos e2, e2, hf_other _ _ _ _ (by omega) (by omega) hx (by omega)]
      · rw [if_neg e2]
theorem Mem.lt {W : List Nat} {X : List (List Nat)} {m : Nat} (h : Mem W X m) {k : Nat} (hk : k < X.length) : okw (X.getD k []) := fun x hx => by
  obtain ⟨i, hi, rfl⟩ := List.getElem_of_mem hx
  have := h.at_ k i hk (by rw [← h.len k hk]; exact hi)
  have e : (X.getD k []).getD i 0 = (X.getD k [])[i] := by rw [List.getD_eq_getElem?_getD (l := X.getD k []), List.getElem?_eq_getElem hi]; rfl
  rw [← e, ← this]
  exact hf_lt _ _
theorem Mem.zero (n R m : Nat) (h : R * m ≤ 2 * n) : Mem (List.replicate n 0) (List.replicate R (List.replicate m 0)) m := by
  have z : ∀ (n k : Nat), (List.replicate n 0).getD k 0 = 0 := fun n k => by
    rw [List.getD_eq_getElem?_getD, List.getElem?_replicate]; split <;> rfl
  have zr : ∀ k, k < R → (List.replicate R (List.replicate m 0)).getD k [] = List.replicate m 0 := fun k hk => by
    rw [List.getD_eq_getElem?_getD, List.getElem?_replicate, if_pos hk]; rfl
  refine ⟨fun k => by rw [z]; decide, fun k hk => ?_, by simpa using h, fun k i hk hi => ?_⟩
  · rw [zr k (by simpa using hk)]; simp
  · rw [zr k (by simpa using hk), z, z]; simp [hf]

/-- the first i words of a row are another one's -/
def wrt (y l : List Nat) : Nat → List Nat
  | 0 => y
  | i + 1 => (wrt y l i).set i (l.getD i 0)
theorem wrt_length (y l : List Nat) : ∀ i, (wrt y l i).length = y.length
  | 0 => rfl
  | i + 1 => by rw [wrt, List.length_set, wrt_length y l i]
theorem wrt_at (y l : List Nat) (q : Nat) : ∀ i, i ≤ y.length → (wrt y l i).getD q 0 = if q < i then l.getD q 0 else y.getD q 0
  | 0, _ => by rw [if_neg (by omega)]; rfl
  | i + 1, h => by
    rw [wrt, setl_at _ _ _ _ _ (by rw [wrt_length]; omega), wrt_at y l q i (by omega)]
    by_cases e : i = q
    · subst e; rw [if_pos rfl, if_pos (by omega)]
    · rw [if_neg e]
      by_cases h1 : q < i
      · rw [if_pos h1, if_pos (by omega)]
      · rw [if_neg h1, if_neg (by omega)]
theorem wrt_all (y l : List Nat) (h : y.length = l.length) : wrt y l l.length = l :=
  ext_getD (by rw [wrt_length]; exact h) fun q hq => by
    rw [wrt_length] at hq
    rw [wrt_at y l q _ (by omega), if_pos (by omega)]

/-- rows of m words -/
def Rok (X : List (List Nat)) (m : Nat) : Prop := ∀ k, k < X.length → (X.getD k []).length = m ∧ okw (X.getD k [])
theorem Rok.set {X : List (List Nat)} {m : Nat} (h : Rok X m) (k : Nat) {l : List Nat} (hl : l.length = m) (ho : okw l) : Rok (X.set k l) m := fun j hj => by
  rw [List.length_set] at hj
  by_cases hk : k < X.length
  · rw [setl_at _ _ _ _ _ hk]
    split
    · exact ⟨hl, ho⟩
    · exact h j hj
  · rw [List.set_eq_of_length_le (by omega)]; exact h j hj
theorem Mem.rok {W : List Nat} {X : List (List Nat)} {m : Nat} (h : Mem W X m) : Rok X m := fun k hk => ⟨h.len k hk, h.lt hk⟩

/-- a row mixed so often; rows that become these; a row put together with those that it picks -/
def mxr (r : Nat) (l : List Nat) : List Nat := mx l r (2 * r)
def V (r : Nat) (v : List Nat) : Nat → List Nat
  | 0 => v
  | i + 1 => mxr r (V r v i)
def F (r : Nat) (v : List Nat) (first : Nat) (X : List (List Nat)) : Nat → List (List Nat)
  | 0 => X
  | i + 1 => (F r v first X i).set (first + i) (V r v i)
def pk (N : Nat) (l : List Nat) (g : List Nat → Nat) : Nat := g l % N
def Z (r N first : Nat) (g : List Nat → Nat) (Y : List (List Nat)) (v : List Nat) : Nat → List Nat
  | 0 => v
  | i + 1 => mxr r (xr (Z r N first g Y v i) (Y.getD (first + pk N (Z r N first g Y v i) g) []) 0 (32 * r))
def mixX (r k N first : Nat) (g : List Nat → Nat) (X : List (List Nat)) : List (List Nat) :=
  (F r (X.getD k []) first X N).set k (Z r N first g (F r (X.getD k []) first X N) (V r (X.getD k []) N) N)

theorem mxr_length {r : Nat} {l : List Nat} (h1 : 1 ≤ r) (hl : l.length = 32 * r) : (mxr r l).length = 32 * r := mx_length l r (by omega) _ (Nat.le_refl _)
theorem mxr_ok {r : Nat} {l : List Nat} (ho : okw l) : okw (mxr r l) := mx_ok ho r _
theorem mxr_ot {r : Nat} {l : List Nat} (h1 : 1 ≤ r) (hl : l.length = 32 * r) : mxr r l = ot l r (2 * r) := mx_all l r (by omega)
theorem V_good {r : Nat} {v : List Nat} (h1 : 1 ≤ r) (hl : v.length = 32 * r) (ho : okw v) : ∀ i, (V r v i).length = 32 * r ∧ okw (V r v i)
  | 0 => ⟨hl, ho⟩
  | i + 1 => ⟨mxr_length h1 (V_good h1 hl ho i).1, mxr_ok (V_good h1 hl ho i).2⟩
theorem F_length (r : Nat) (v : List Nat) (first : Nat) (X : List (List Nat)) : ∀ i, (F r v first X i).length = X.length
  | 0 => rfl
  | i + 1 => by rw [F, List.length_set, F_length r v first X i]
theorem F_good {r : Nat} {v : List Nat} {first : Nat} {X : List (List Nat)} (h1 : 1 ≤ r) (hl : v.length = 32 * r) (ho : okw v) (hX : Rok X (32 * r)) : ∀ i, Rok (F r v first X i) (32 * r)
  | 0 => hX
  | i + 1 => (F_good h1 hl ho hX i).set _ (V_good h1 hl ho i).1 (V_good h1 hl ho i).2
theorem pk_lt {N : Nat} (l : List Nat) (g : List Nat → Nat) (h : 0 < N) : pk N l g < N := Nat.mod_lt _ h
theorem Z_good {r N first : Nat} {g : List Nat → Nat} {Y : List (List Nat)} {v : List Nat} (h1 : 1 ≤ r) (hl : v.length = 32 * r) (ho : okw v) (hY : Rok Y (32 * r)) (hN : 0 < N) (hf : first + N ≤ Y.length) : ∀ i, (Z r N first g Y v i).length = 32 * r ∧ okw (Z r N first g Y v i)
  | 0 => ⟨hl, ho⟩
  | i + 1 => by
    have h := Z_good (g := g) h1 hl ho hY hN hf i
    have hp := pk_lt (Z r N first g Y v i) g hN
    have hy := hY (first + pk N (Z r N first g Y v i) g) (by omega)
    have hxl : (xr (Z r N first g Y v i) (Y.getD (first + pk N (Z r N first g Y v i) g) []) 0 (32 * r)).length = 32 * r := by rw [xr_length]; exact h.1
    exact ⟨mxr_length h1 hxl, mxr_ok (xr_ok h.2 hy.2 0 _)⟩
theorem mixX_length (r k N first : Nat) (g : List Nat → Nat) (X : List (List Nat)) : (mixX r k N first g X).length = X.length := by
  unfold mixX; rw [List.length_set, F_length]

/-- why a row is not mixed -/
def whyN (R : Nat) (k log first : Int) : Int :=
  if k < 0 ∨ (R : Int) ≤ k then 11
  else if log < 0 ∨ 62 < log then 2
  else if first < 0 ∨ (R : Int) < first + ((2 ^ log.toNat : Nat) : Int) then 11
  else if first ≤ k ∧ k < first + ((2 ^ log.toNat : Nat) : Int) then 1
  else 0
theorem why_row {R : Nat} {k : Int} (h : k < 0 ∨ (R : Int) ≤ k) (log first : Int) : whyN R k log first = 11 := if_pos h
theorem why_log {R : Nat} {k log : Int} (h : ¬ (k < 0 ∨ (R : Int) ≤ k)) (h2 : log < 0 ∨ 62 < log) (first : Int) : whyN R k log first = 2 := by
  unfold whyN; rw [if_neg h, if_pos h2]
theorem why_first {R lg : Nat} {k first : Int} (h : ¬ (k < 0 ∨ (R : Int) ≤ k)) (h2 : lg ≤ 62) (h3 : first < 0 ∨ (R : Int) < first + ((2 ^ lg : Nat) : Int)) : whyN R k lg first = 11 := by
  unfold whyN; rw [if_neg h, if_neg (by omega), Int.toNat_natCast, if_pos h3]
theorem why_rest {R lg : Nat} {k first : Int} (h : ¬ (k < 0 ∨ (R : Int) ≤ k)) (h2 : lg ≤ 62) (h3 : ¬ (first < 0 ∨ (R : Int) < first + ((2 ^ lg : Nat) : Int))) : whyN R k lg first = if first ≤ k ∧ k < first + ((2 ^ lg : Nat) : Int) then 1 else 0 := by
  unfold whyN; rw [if_neg h, if_neg (by omega), Int.toNat_natCast, if_neg h3]
theorem why_ok {R : Nat} {k log first : Int} (h : whyN R k log first = 0) : ∃ kn lg fn : Nat, k = (kn : Int) ∧ log = (lg : Int) ∧ first = (fn : Int) ∧ kn < R ∧ lg ≤ 62 ∧ fn + 2 ^ lg ≤ R ∧ ¬ (fn ≤ kn ∧ kn < fn + 2 ^ lg) := by
  unfold whyN at h
  split at h
  · omega
  split at h
  · omega
  rename_i h1 h2
  obtain ⟨lg, rfl⟩ : ∃ lg : Nat, log = (lg : Int) := ⟨log.toNat, by omega⟩
  rw [Int.toNat_natCast] at h
  split at h
  · omega
  split at h
  · omega
  rename_i h3 h4
  refine ⟨k.toNat, lg, first.toNat, by omega, rfl, by omega, by omega, by omega, by omega, by omega⟩
end Go.Proofs.YtohmkhmanidljaaDoor.Rm
