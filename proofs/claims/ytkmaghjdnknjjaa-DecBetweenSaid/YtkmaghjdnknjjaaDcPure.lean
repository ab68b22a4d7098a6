/- Decimal digits as plain lists: a number's digits, a list's number, there and back; what Read answers. No condition. -/
import Derived.Test.YtkmaghjdnknjjaaHxRefs
import Derived.Lib.Hide
namespace Go.Proofs.Ytkmaghjdnknjjaa
set_option maxRecDepth 50000
namespace De

/-- the digit of a number -/
def dg (d : Nat) : UInt8 := UInt8.ofNat (48 + d)
theorem dg_nat (d : Nat) (h : d < 10) : (dg d).toNat = 48 + d := by
  unfold dg; rw [UInt8.toNat_ofNat']; omega
/-- a number's digits -/
def dt (n : Nat) : List UInt8 := if _h : n < 10 then [dg n] else dt (n / 10) ++ [dg (n % 10)]
termination_by n
decreasing_by omega
theorem dt_lt {n : Nat} (h : n < 10) : dt n = [dg n] := by rw [dt]; simp [h]
theorem dt_ge {n : Nat} (h : 10 ≤ n) : dt n = dt (n / 10) ++ [dg (n % 10)] := by rw [dt]; simp [Nat.not_lt.2 h]
theorem dt_length_pos (n : Nat) : 1 ≤ (dt n).length := by
  by_cases h : n < 10
  · rw [dt_lt h]; simp
  · rw [dt_ge (by omega)]; simp
theorem dt_length (k n : Nat) (h : n < 10 ^ (k + 1)) : (dt n).length ≤ k + 1 := by
  induction k generalizing n with
  | zero => rw [dt_lt (by simpa using h)]; simp
  | succ k ih =>
    by_cases hn : n < 10
    · rw [dt_lt hn]; simp
    · rw [dt_ge (by omega), List.length_append, List.length_singleton]
      have := ih (n / 10) (by rw [Nat.pow_succ] at h; omega)
      omega
/-- a byte is a digit -/
def isd (b : UInt8) : Bool := decide (48 ≤ b.toNat ∧ b.toNat ≤ 57)
theorem isd_dg (d : Nat) (h : d < 10) : isd (dg d) = true := by simp [isd, dg_nat d h]; omega
/-- a byte's number -/
def dv (b : UInt8) : Nat := b.toNat - 48
theorem dv_dg (d : Nat) (h : d < 10) : dv (dg d) = d := by simp [dv, dg_nat d h]
theorem dv_lt {b : UInt8} (h : isd b = true) : dv b < 10 := by simp [isd] at h; unfold dv; omega
theorem dg_dv {b : UInt8} (h : isd b = true) : dg (dv b) = b := by
  have h2 := h
  simp [isd] at h2
  apply UInt8.toNat_inj.1
  rw [dg_nat _ (dv_lt h)]
  unfold dv; omega
/-- a list's number -/
def vl (l : List UInt8) : Nat := l.foldl (fun v b => 10 * v + dv b) 0
theorem vl_snoc (l : List UInt8) (b : UInt8) : vl (l ++ [b]) = 10 * vl l + dv b := by simp [vl]
theorem vl_take (l : List UInt8) (k : Nat) (h : k < l.length) : vl (l.take (k + 1)) = 10 * vl (l.take k) + dv l[k] := by
  rw [List.take_succ_eq_append_getElem h, vl_snoc]
theorem vl_step (l : List UInt8) (k : Nat) (h : k < l.length) : vl (l.take k) ≤ vl (l.take (k + 1)) := by rw [vl_take l k h]; omega
theorem vl_le (l : List UInt8) (k : Nat) : ∀ j, k + j ≤ l.length → vl (l.take k) ≤ vl (l.take (k + j))
  | 0, _ => Nat.le_refl _
  | j + 1, h => Nat.le_trans (vl_le l k j (by omega)) (vl_step l (k + j) (by omega))
theorem vl_all (l : List UInt8) (k : Nat) (h : k ≤ l.length) : vl (l.take k) ≤ vl l := by
  have := vl_le l k (l.length - k) (by omega)
  rwa [show k + (l.length - k) = l.length by omega, List.take_length] at this
theorem vl_dt (n : Nat) : vl (dt n) = n := by
  induction n using Nat.strongRecOn with
  | ind n ih =>
    by_cases h : n < 10
    · rw [dt_lt h]; simp [vl, dv_dg n h]
    · rw [dt_ge (by omega), vl_snoc, ih (n / 10) (by omega), dv_dg _ (by omega)]; omega

/-- all bytes are digits -/
def alld (l : List UInt8) : Bool := l.all isd
theorem alld_dt (n : Nat) : alld (dt n) = true := by
  induction n using Nat.strongRecOn with
  | ind n ih =>
    by_cases h : n < 10
    · rw [dt_lt h]; simp [alld, isd_dg n h]
    · rw [dt_ge (by omega)]
      have h1 := ih (n / 10) (by omega)
      unfold alld at *
      rw [List.all_append, h1]
      simp [isd_dg (n % 10) (by omega)]
/-- a list is a number's digits, without noughts ahead -/
def fine (l : List UInt8) : Bool := alld l && decide (l ≠ []) && (decide (l.length ≤ 1) || decide (l.head? ≠ some 48))
theorem dt_head (n : Nat) (h : 1 ≤ n) : (dt n).head? ≠ some 48 := by
  induction n using Nat.strongRecOn with
  | ind n ih =>
    by_cases h10 : n < 10
    · rw [dt_lt h10]
      simp only [List.head?_cons, ne_eq, Option.some.injEq]
      intro e
      have := congrArg UInt8.toNat e
      rw [dg_nat n h10] at this
      simp at this
      omega
    · rw [dt_ge (by omega), List.head?_append]
      have h1 := ih (n / 10) (by omega) (by omega)
      have h2 := dt_length_pos (n / 10)
      cases hd : dt (n / 10) with
      | nil => rw [hd] at h2; simp at h2
      | cons x xs => rw [hd] at h1; simpa using h1
theorem fine_dt (n : Nat) : fine (dt n) = true := by
  have h1 := dt_length_pos n
  have h2 : dt n ≠ [] := by intro e; rw [e] at h1; simp at h1
  unfold fine
  rw [alld_dt n]
  simp only [Bool.true_and, Bool.and_eq_true, Bool.or_eq_true, decide_eq_true_eq]
  refine ⟨h2, ?_⟩
  by_cases h : n < 10
  · rw [dt_lt h]; simp
  · exact .inr (dt_head n (by omega))
/-- no nought ahead of others: the digits are of a number that is at least so great -/
theorem vl_great (l : List UInt8) (h1 : alld l = true) (h2 : l.head? ≠ some 48) (h3 : l ≠ []) : ∀ k, k + 1 ≤ l.length → 10 ^ k ≤ vl (l.take (k + 1))
  | 0, hk => by
    cases l with
    | nil => simp at h3
    | cons x xs =>
      simp only [List.head?_cons, ne_eq, Option.some.injEq] at h2
      simp only [alld, List.all_cons, Bool.and_eq_true] at h1
      have hx := h1.1
      simp [isd] at hx
      have hne : x.toNat ≠ 48 := fun e => h2 (UInt8.toNat_inj.1 (by rw [e]; rfl))
      simp [vl, dv]
      omega
  | k + 1, hk => by
    have := vl_great l h1 h2 h3 k (by omega)
    rw [vl_take l (k + 1) (by omega), Nat.pow_succ]
    omega
theorem snoc_form {l : List UInt8} (h : l ≠ []) : ∃ i b, l = i ++ [b] := ⟨l.dropLast, l.getLast h, (List.dropLast_concat_getLast h).symm⟩
theorem dt_vl_of : ∀ (n : Nat) (l : List UInt8), l.length = n → fine l = true → dt (vl l) = l := by
  intro n
  induction n with
  | zero =>
    intro l hl hf
    have : l = [] := List.eq_nil_of_length_eq_zero hl
    subst this
    simp [fine] at hf
  | succ n ih =>
    intro l hl hf
    have hne : l ≠ [] := by intro e; rw [e] at hl; simp at hl
    obtain ⟨i, b, rfl⟩ := snoc_form hne
    have hi : i.length = n := by simpa using hl
    unfold fine at hf
    simp only [Bool.and_eq_true, Bool.or_eq_true, decide_eq_true_eq] at hf
    obtain ⟨⟨ha, _⟩, hh⟩ := hf
    have ha2 : alld i = true ∧ isd b = true := by
      unfold alld at ha ⊢
      rw [List.all_append] at ha
      simpa using ha
    have hb := dv_lt ha2.2
    rw [vl_snoc]
    cases n with
    | zero =>
      have : i = [] := List.eq_nil_of_length_eq_zero hi
      subst this
      have e0 : vl ([] : List UInt8) = 0 := rfl
      rw [e0, Nat.mul_zero, Nat.zero_add, dt_lt hb, dg_dv ha2.2]
      rfl
    | succ m =>
      have hine : i ≠ [] := by intro e; rw [e] at hi; simp at hi
      have hhead : i.head? ≠ some 48 := by
        rcases hh with hh | hh
        · rw [List.length_append, hi] at hh; simp at hh
        · cases i with
          | nil => simp at hine
          | cons x xs => simpa using hh
      have hfi : fine i = true := by
        unfold fine
        rw [ha2.1]
        simp only [Bool.true_and, Bool.and_eq_true, Bool.or_eq_true, decide_eq_true_eq]
        exact ⟨hine, .inr hhead⟩
      have hg := vl_great i ha2.1 hhead hine 0 (by omega)
      have hge : 1 ≤ vl i := by
        have := vl_all i 1 (by omega)
        simp at hg
        omega
      rw [dt_ge (by omega), show (10 * vl i + dv b) / 10 = vl i by omega, show (10 * vl i + dv b) % 10 = dv b by omega, ih i hi hfi, dg_dv ha2.2]
theorem dt_vl {l : List UInt8} (h : fine l = true) : dt (vl l) = l := dt_vl_of l.length l rfl h

/-- the greatest number that is read -/
def most : Nat := 4611686018427387904
/-- what Read answers: the error, the number -/
def rdE (l : List UInt8) : Nat := if fine l = true then (if vl l ≤ most then 0 else 10) else 7
def rdN (l : List UInt8) : Nat := if fine l = true ∧ vl l ≤ most then vl l else 0
theorem rd_wrong {l : List UInt8} (h : ¬ fine l = true) : rdE l = 7 ∧ rdN l = 0 := by simp [rdE, rdN, h]
theorem rd_over {l : List UInt8} (h : fine l = true) (h2 : most < vl l) : rdE l = 10 ∧ rdN l = 0 := by simp [rdE, rdN, h, Nat.not_le.2 h2]
theorem rd_good {l : List UInt8} (h : fine l = true) (h2 : vl l ≤ most) : rdE l = 0 ∧ rdN l = vl l := by simp [rdE, rdN, h, h2]
theorem rd_way (l : List UInt8) : (¬ fine l = true) ∨ (fine l = true ∧ most < vl l) ∨ (fine l = true ∧ vl l ≤ most) := by
  by_cases h : fine l = true
  · by_cases h2 : vl l ≤ most
    · exact .inr (.inr ⟨h, h2⟩)
    · exact .inr (.inl ⟨h, by omega⟩)
  · exact .inl h
/-- more than nineteen digits are of a number above the greatest -/
theorem long_over {l : List UInt8} (h : fine l = true) (hl : 19 < l.length) : most < vl l := by
  unfold fine at h
  simp only [Bool.and_eq_true, Bool.or_eq_true, decide_eq_true_eq] at h
  obtain ⟨⟨ha, hne⟩, hh⟩ := h
  have hh2 : l.head? ≠ some 48 := by
    rcases hh with hh | hh
    · omega
    · exact hh
  have h1 : 10 ^ 19 ≤ vl (l.take 20) := vl_great l ha hh2 hne 19 (by omega)
  have h2 := vl_all l 20 (by omega)
  have h3 : (10 : Nat) ^ 19 = 10000000000000000000 := by decide
  rw [h3] at h1
  unfold most
  omega
theorem rd_dt (n : Nat) : (n ≤ most → rdE (dt n) = 0 ∧ rdN (dt n) = n) ∧ (most < n → rdE (dt n) = 10 ∧ rdN (dt n) = 0) := by
  have h := vl_dt n
  refine ⟨fun hn => ?_, fun hn => ?_⟩
  · obtain ⟨h1, h2⟩ := rd_good (fine_dt n) (by omega)
    exact ⟨h1, by omega⟩
  · exact rd_over (fine_dt n) (by omega)
theorem rd_back {l : List UInt8} (h : rdE l = 0) : dt (rdN l) = l := by
  rcases rd_way l with h1 | ⟨h1, h2⟩ | ⟨h1, h2⟩
  · rw [(rd_wrong h1).1] at h; cases h
  · rw [(rd_over h1 h2).1] at h; cases h
  · rw [(rd_good h1 h2).2, dt_vl h1]
theorem rd_none {l : List UInt8} (h : rdE l ≠ 0) : rdN l = 0 := by
  rcases rd_way l with h1 | ⟨h1, h2⟩ | ⟨h1, h2⟩
  · exact (rd_wrong h1).2
  · exact (rd_over h1 h2).2
  · exact absurd (rd_good h1 h2).1 h

/-- the digits of a number that may lie below 0 -/
def tT (n : Int) : ByteArray := if n < 0 then ⟨#[]⟩ else tx (dt n.toNat)
theorem tT_neg {n : Int} (h : n < 0) : tT n = ⟨#[]⟩ := if_pos h
theorem tT_nat (n : Nat) : tT (n : Int) = tx (dt n) := by unfold tT; rw [if_neg (by omega)]; simp
end De
end Go.Proofs.Ytkmaghjdnknjjaa
