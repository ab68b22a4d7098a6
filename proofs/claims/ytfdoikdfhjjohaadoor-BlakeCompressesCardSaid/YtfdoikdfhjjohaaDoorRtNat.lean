/- Numbers by digits to the base 65536, as plain lists: no Go in sight. No condition but those typed. -/
namespace Go.Proofs.YtfdoikdfhjjohaaDoor
set_option maxRecDepth 50000

/-- the number of these digits, the lowest one first -/
def val : List Nat → Nat
  | [] => 0
  | d :: l => d + 65536 * val l
def Dig (l : List Nat) : Prop := ∀ d ∈ l, d < 65536

theorem Dig.nil_ : Dig [] := fun d h => by cases h
theorem Dig.snoc {l : List Nat} {d : Nat} (h : Dig l) (hd : d < 65536) : Dig (l ++ [d]) := fun x hx => by
  rcases List.mem_append.1 hx with h1 | h1
  · exact h x h1
  · simp at h1; omega
theorem Dig.append {l m : List Nat} (h : Dig l) (k : Dig m) : Dig (l ++ m) := fun x hx => by
  rcases List.mem_append.1 hx with h1 | h1
  · exact h x h1
  · exact k x h1
theorem Dig.zeros (n : Nat) : Dig (List.replicate n 0) := fun x hx => by have := List.eq_of_mem_replicate hx; omega
theorem Dig.set {l : List Nat} (h : Dig l) (i d : Nat) (hd : d < 65536) : Dig (l.set i d) := fun x hx => by
  rcases List.mem_or_eq_of_mem_set hx with h1 | h1
  · exact h x h1
  · omega
theorem Dig.at_ {l : List Nat} (h : Dig l) (i : Nat) : l.getD i 0 < 65536 := by
  rcases Nat.lt_or_ge i l.length with h1 | h1
  · rw [List.getD_eq_getElem?_getD, List.getElem?_eq_getElem h1]; exact h _ (List.getElem_mem h1)
  · rw [List.getD_eq_getElem?_getD, List.getElem?_eq_none h1]; exact Nat.zero_lt_succ _
theorem Dig.take {l : List Nat} (h : Dig l) (i : Nat) : Dig (l.take i) := fun x hx => h x (List.mem_of_mem_take hx)

theorem val_append : ∀ a b : List Nat, val (a ++ b) = val a + 65536 ^ a.length * val b
  | [], b => by simp [val]
  | d :: l, b => by
    show d + 65536 * val (l ++ b) = d + 65536 * val l + 65536 ^ (l.length + 1) * val b
    rw [val_append l b, Nat.mul_add, Nat.pow_succ, Nat.mul_comm (65536 ^ l.length) 65536, Nat.mul_assoc, Nat.add_assoc]
theorem val_snoc (a : List Nat) (d : Nat) : val (a ++ [d]) = val a + 65536 ^ a.length * d := by rw [val_append]; rfl
theorem val_lt : ∀ a : List Nat, Dig a → val a < 65536 ^ a.length
  | [], _ => by simp [val]
  | d :: l, h => by
    have h1 := val_lt l fun x hx => h x (List.mem_cons_of_mem _ hx)
    have h2 := h d List.mem_cons_self
    show d + 65536 * val l < 65536 ^ (l.length + 1)
    rw [Nat.pow_succ]; omega
theorem val_zeros : ∀ n, val (List.replicate n 0) = 0
  | 0 => rfl
  | n + 1 => by rw [List.replicate_succ]; show 0 + 65536 * val (List.replicate n 0) = 0; rw [val_zeros n]
theorem val_split (a : List Nat) (i : Nat) : val a = val (a.take i) + 65536 ^ i * val (a.drop i) := by
  rcases Nat.lt_or_ge i a.length with h | h
  · conv => lhs; rw [← List.take_append_drop i a]
    rw [val_append, List.length_take, Nat.min_eq_left (by omega)]
  · rw [List.take_of_length_le h, List.drop_eq_nil_of_le h]; rfl
theorem val_drop (a : List Nat) (i : Nat) : val (a.drop i) = a.getD i 0 + 65536 * val (a.drop (i + 1)) := by
  rcases Nat.lt_or_ge i a.length with h | h
  · rw [List.drop_eq_getElem_cons h, List.getD_eq_getElem?_getD, List.getElem?_eq_getElem h]; rfl
  · rw [List.drop_eq_nil_of_le h, List.drop_eq_nil_of_le (by omega), List.getD_eq_getElem?_getD, List.getElem?_eq_none h]; rfl
theorem val_take_succ (a : List Nat) (i : Nat) : val (a.take (i + 1)) = val (a.take i) + 65536 ^ i * a.getD i 0 := by
  rcases Nat.lt_or_ge i a.length with h | h
  · rw [List.take_succ_eq_append_getElem h, val_snoc, List.length_take, Nat.min_eq_left (by omega), List.getD_eq_getElem?_getD, List.getElem?_eq_getElem h]; rfl
  · rw [List.take_of_length_le h, List.take_of_length_le (by omega), List.getD_eq_getElem?_getD, List.getElem?_eq_none h]; simp
theorem val_take_lt {a : List Nat} (h : Dig a) (i : Nat) : val (a.take i) < 65536 ^ i :=
  Nat.lt_of_lt_of_le (val_lt _ (h.take i)) (Nat.pow_le_pow_right (by omega) (by rw [List.length_take]; omega))
theorem val_set : ∀ (a : List Nat) (i d : Nat), i < a.length → val (a.set i d) + 65536 ^ i * a.getD i 0 = val a + 65536 ^ i * d
  | [], i, d, h => by simp at h
  | x :: l, 0, d, _ => by simp [val]; omega
  | x :: l, i + 1, d, h => by
    have ih := val_set l i d (by simpa using h)
    show x + 65536 * val (l.set i d) + 65536 ^ (i + 1) * l.getD i 0 = x + 65536 * val l + 65536 ^ (i + 1) * d
    have e : ∀ z, 65536 ^ (i + 1) * z = 65536 * (65536 ^ i * z) := fun z => by rw [Nat.pow_succ, Nat.mul_comm (65536 ^ i) 65536, Nat.mul_assoc]
    rw [e, e]
    omega

/-- two numbers that are the same above a digit: that digit tells which is the greater one -/
theorem above_digit {a b : List Nat} (ha : Dig a) (hb : Dig b) (i : Nat) (h : val (a.drop (i + 1)) = val (b.drop (i + 1))) (hd : b.getD i 0 < a.getD i 0) : val b < val a := by
  have e1 := val_split a (i + 1)
  have e2 := val_split b (i + 1)
  rw [val_take_succ] at e1 e2
  rw [h] at e1
  have h1 := val_take_lt ha i
  have h2 := val_take_lt hb i
  have h3 : 65536 ^ i * (b.getD i 0 + 1) ≤ 65536 ^ i * a.getD i 0 := Nat.mul_le_mul_left _ hd
  rw [Nat.mul_add, Nat.mul_one] at h3
  omega
theorem same_digit {a b : List Nat} (i : Nat) (h : val (a.drop (i + 1)) = val (b.drop (i + 1))) (hd : a.getD i 0 = b.getD i 0) : val (a.drop i) = val (b.drop i) := by
  rw [val_drop a, val_drop b, h, hd]

/-- one digit of a sum -/
theorem sum_step {A B O : List Nat} {i c : Nat} (h : val O + 65536 ^ i * c = val (A.take i) + val (B.take i)) (hl : O.length = i) :
    val (O ++ [(c + A.getD i 0 + B.getD i 0) % 65536]) + 65536 ^ (i + 1) * ((c + A.getD i 0 + B.getD i 0) / 65536) = val (A.take (i + 1)) + val (B.take (i + 1)) := by
  rw [val_snoc, val_take_succ, val_take_succ, hl, Nat.pow_succ, Nat.mul_assoc, Nat.add_assoc, ← Nat.mul_add]
  have e : (c + A.getD i 0 + B.getD i 0) % 65536 + 65536 * ((c + A.getD i 0 + B.getD i 0) / 65536) = c + A.getD i 0 + B.getD i 0 := Nat.mod_add_div _ _
  rw [e, Nat.mul_add, Nat.mul_add]
  omega

/-- one digit of a row of a product: what is there, and what is carried, is what was there and the row so far -/
theorem row_step {O B : List Nat} {i k c a T : Nat} (hlt : i + k < O.length) (h : val O + 65536 ^ (i + k) * c = T + 65536 ^ i * (a * val (B.take k))) :
    val (O.set (i + k) ((O.getD (i + k) 0 + c + a * B.getD k 0) % 65536)) + 65536 ^ (i + (k + 1)) * ((O.getD (i + k) 0 + c + a * B.getD k 0) / 65536) = T + 65536 ^ i * (a * val (B.take (k + 1))) := by
  have e1 := val_set O (i + k) ((O.getD (i + k) 0 + c + a * B.getD k 0) % 65536) hlt
  have e2 : (O.getD (i + k) 0 + c + a * B.getD k 0) % 65536 + 65536 * ((O.getD (i + k) 0 + c + a * B.getD k 0) / 65536) = O.getD (i + k) 0 + c + a * B.getD k 0 := Nat.mod_add_div _ _
  rw [val_take_succ, Nat.mul_add, Nat.mul_add, ← Nat.add_assoc T, ← h]
  have e3 : 65536 ^ (i + (k + 1)) * ((O.getD (i + k) 0 + c + a * B.getD k 0) / 65536) = 65536 ^ (i + k) * (65536 * ((O.getD (i + k) 0 + c + a * B.getD k 0) / 65536)) := by
    rw [← Nat.add_assoc, Nat.pow_succ, Nat.mul_assoc]
  have e4 : 65536 ^ i * (a * (65536 ^ k * B.getD k 0)) = 65536 ^ (i + k) * (a * B.getD k 0) := by
    rw [Nat.pow_add, Nat.mul_left_comm a, Nat.mul_assoc]
  rw [e3, e4]
  generalize (O.getD (i + k) 0 + c + a * B.getD k 0) % 65536 = r at *
  generalize 65536 * ((O.getD (i + k) 0 + c + a * B.getD k 0) / 65536) = q at *
  generalize O.getD (i + k) 0 = o at *
  generalize a * B.getD k 0 = z at *
  have e5 : 65536 ^ (i + k) * (r + q) = 65536 ^ (i + k) * (o + c + z) := by rw [e2]
  rw [Nat.mul_add, Nat.mul_add, Nat.mul_add] at e5
  omega
/-- while something is carried, the place is not far behind the row -/
theorem carry_near {O B : List Nat} {i k c a T : Nat} (hB : Dig B) (ha : a < 65536) (hk : B.length ≤ k) (hc : 0 < c) (hT : T < 65536 ^ (i + B.length)) (h : val O + 65536 ^ (i + k) * c = T + 65536 ^ i * (a * val (B.take k))) : k ≤ B.length := by
  rw [List.take_of_length_le hk] at h
  have h1 : a * val B ≤ 65535 * (65536 ^ B.length - 1) := Nat.mul_le_mul (by omega) (by have := val_lt B hB; omega)
  have h2 : 65536 ^ i * (a * val B) ≤ 65536 ^ i * (65535 * (65536 ^ B.length - 1)) := Nat.mul_le_mul_left _ h1
  have h3 : 65536 ^ (i + k) ≤ 65536 ^ (i + k) * c := Nat.le_mul_of_pos_right _ hc
  have h4 : 65536 ^ i * (65535 * (65536 ^ B.length - 1)) ≤ 65535 * 65536 ^ (i + B.length) := by
    rw [Nat.pow_add, Nat.mul_left_comm]
    exact Nat.mul_le_mul_left _ (Nat.mul_le_mul_left _ (Nat.sub_le _ _))
  apply Nat.le_of_not_lt
  intro hlt
  have h5 : 65536 ^ (i + B.length + 1) ≤ 65536 ^ (i + k) := Nat.pow_le_pow_right (by omega) (by omega)
  rw [Nat.pow_succ] at h5
  omega
/-- a row's end -/
theorem row_end {A B : List Nat} {i : Nat} {T : Nat} (h : T = val (A.take i) * val B) : T + 65536 ^ i * (A.getD i 0 * val B) = val (A.take (i + 1)) * val B := by
  rw [val_take_succ, Nat.add_mul, h, Nat.mul_assoc]
theorem rows_lt {A B : List Nat} (hA : Dig A) (hB : Dig B) (i : Nat) : val (A.take i) * val B < 65536 ^ (i + B.length) := by
  rw [Nat.pow_add]
  have h1 := val_take_lt hA i
  have h2 := val_lt B hB
  exact Nat.mul_lt_mul_of_lt_of_le h1 (Nat.le_of_lt h2) (Nat.pow_pos (by omega))
end Go.Proofs.YtfdoikdfhjjohaaDoor
