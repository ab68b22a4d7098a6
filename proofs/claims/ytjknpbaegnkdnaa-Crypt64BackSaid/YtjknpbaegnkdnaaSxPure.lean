/- Bits six by six and eight by eight, purely: bytes as letters of six bits and back. No condition. -/
import Derived.Test.YtjknpbaegnkdnaaFdHeld
namespace Go.Proofs.Ytjknpbaegnkdnaa
set_option maxRecDepth 50000
open Go.RowKit

namespace Sx
/-- numbers of w bits each as one number, the first of them the highest -/
def vl (w : Nat) (l : List Nat) : Nat := l.foldl (fun a v => a * 2 ^ w + v) 0
theorem vl_snoc (w : Nat) (l : List Nat) (x : Nat) : vl w (l ++ [x]) = vl w l * 2 ^ w + x := by simp [vl, List.foldl_append]
theorem snoc_ind {α : Type} {M : List α → Prop} (h0 : M []) (h1 : ∀ l x, M l → M (l ++ [x])) : ∀ l, M l := fun l => by
  have : ∀ n (l : List α), l.length = n → M l := by
    intro n
    induction n with
    | zero => intro l h; rw [List.eq_nil_of_length_eq_zero h]; exact h0
    | succ n ih =>
      intro l h
      rcases List.eq_nil_or_concat l with rfl | ⟨l', x, rfl⟩
      · exact h0
      · simp only [List.concat_eq_append] at *
        exact h1 l' x (ih l' (by simpa using h))
  exact this _ l rfl
theorem vl_lt (w : Nat) (l : List Nat) : (∀ x ∈ l, x < 2 ^ w) → vl w l < 2 ^ (w * l.length) := by
  induction l using snoc_ind with
  | h0 => intro _; simp [vl]
  | h1 l x ih =>
    intro h
    have h1 := ih fun y hy => h y (by simp [hy])
    have h2 := h x (by simp)
    rw [vl_snoc, List.length_append, List.length_singleton, Nat.mul_add, Nat.mul_one, Nat.pow_add]
    calc vl w l * 2 ^ w + x < vl w l * 2 ^ w + 2 ^ w := by omega
      _ = (vl w l + 1) * 2 ^ w := by rw [Nat.succ_mul]
      _ ≤ 2 ^ (w * l.length) * 2 ^ w := Nat.mul_le_mul_right _ h1
/-- the i-th of n numbers of w bits that a number is -/
def dg (w n V i : Nat) : Nat := V / 2 ^ (w * (n - 1 - i)) % 2 ^ w
def dgs (w n V : Nat) : List Nat := (List.range n).map (dg w n V)
theorem dgs_length (w n V : Nat) : (dgs w n V).length = n := by simp [dgs]
theorem dgs_lt (w n V : Nat) : ∀ x ∈ dgs w n V, x < 2 ^ w := by
  intro x hx
  simp only [dgs, List.mem_map] at hx
  obtain ⟨i, _, rfl⟩ := hx
  exact Nat.mod_lt _ (Nat.two_pow_pos w)
theorem dgs_succ (w n V : Nat) : dgs w (n + 1) V = dgs w n (V / 2 ^ w) ++ [V % 2 ^ w] := by
  unfold dgs
  rw [List.range_succ, List.map_append]
  congr 1
  · apply List.map_congr_left
    intro i hi
    have hi : i < n := by simpa using hi
    unfold dg
    rw [show n + 1 - 1 - i = (n - 1 - i) + 1 by omega, Nat.mul_add, Nat.mul_one, Nat.add_comm, Nat.pow_add, Nat.div_div_eq_div_mul]
  · simp [dg]
theorem dgs_vl (w : Nat) (l : List Nat) : (∀ x ∈ l, x < 2 ^ w) → dgs w l.length (vl w l) = l := by
  induction l using snoc_ind with
  | h0 => intro _; rfl
  | h1 l x ih =>
    intro h
    have h1 := ih fun y hy => h y (by simp [hy])
    have h2 := h x (by simp)
    have hp := Nat.two_pow_pos w
    rw [List.length_append, List.length_singleton, dgs_succ, vl_snoc, Nat.mul_comm, Nat.mul_add_div hp, Nat.div_eq_of_lt h2, Nat.add_zero, h1, Nat.mul_add_mod, Nat.mod_eq_of_lt h2]
theorem vl_dgs (w n : Nat) : ∀ V, vl w (dgs w n V) = V % 2 ^ (w * n) := by
  induction n with
  | zero => intro V; simp [dgs, vl, Nat.mod_one]
  | succ n ih =>
    intro V
    rw [dgs_succ, vl_snoc, ih, Nat.mul_add, Nat.mul_one, Nat.add_comm (w * n) w, Nat.pow_add, Nat.mod_mul, Nat.mul_comm (2 ^ w), Nat.add_comm]

/-- bytes as one number -/
def bv (l : List UInt8) : Nat := vl 8 (l.map UInt8.toNat)
theorem bv_snoc (l : List UInt8) (b : UInt8) : bv (l ++ [b]) = bv l * 256 + b.toNat := by unfold bv; rw [List.map_append, List.map_singleton, vl_snoc]
theorem bytes_lt (l : List UInt8) : ∀ x ∈ l.map UInt8.toNat, x < 2 ^ 8 := by
  intro x hx
  obtain ⟨b, _, rfl⟩ := List.mem_map.1 hx
  exact b.toNat_lt
theorem bv_lt (l : List UInt8) : bv l < 2 ^ (8 * l.length) := by
  have := vl_lt 8 _ (bytes_lt l)
  rwa [List.length_map] at this
/-- how many letters bytes have -/
def ne (n : Nat) : Nat := (8 * n + 5) / 6
/-- the places of bytes' letters -/
def pl (l : List UInt8) : List Nat := dgs 6 (ne l.length) (bv l * 2 ^ (6 * ne l.length - 8 * l.length))
theorem pl_length (l : List UInt8) : (pl l).length = ne l.length := dgs_length _ _ _
theorem pl_lt (l : List UInt8) : ∀ x ∈ pl l, x < 64 := dgs_lt 6 _ _
/-- the place of the i-th letter -/
def gr (l : List UInt8) (i : Nat) : Nat := bv l * 64 / 2 ^ (8 * l.length - 6 * i) % 64
theorem gr_lt (l : List UInt8) (i : Nat) : gr l i < 64 := Nat.mod_lt _ (by decide)
theorem dg_gr (l : List UInt8) (i : Nat) (h : i < ne l.length) : dg 6 (ne l.length) (bv l * 2 ^ (6 * ne l.length - 8 * l.length)) i = gr l i := by
  unfold dg gr
  have h1 : 8 * l.length ≤ 6 * ne l.length := by unfold ne; omega
  have h2 : 6 * i ≤ 8 * l.length := by unfold ne at h; omega
  congr 1
  rw [← Nat.mul_div_mul_right (bv l * 2 ^ (6 * ne l.length - 8 * l.length)) _ (show 0 < 2 ^ 6 by decide), ← Nat.pow_add,
    show 6 * (ne l.length - 1 - i) + 6 = (8 * l.length - 6 * i) + (6 * ne l.length - 8 * l.length) by omega, Nat.pow_add,
    show bv l * 2 ^ (6 * ne l.length - 8 * l.length) * 2 ^ 6 = bv l * 64 * 2 ^ (6 * ne l.length - 8 * l.length) by
      rw [Nat.mul_assoc, Nat.mul_assoc, Nat.mul_comm (2 ^ _) (2 ^ 6)],
    Nat.mul_div_mul_right _ _ (Nat.two_pow_pos _)]
theorem pl_gr (l : List UInt8) : pl l = (List.range (ne l.length)).map (gr l) := by
  unfold pl dgs
  apply List.map_congr_left
  intro i hi
  exact dg_gr l i (by simpa using hi)
theorem gr_snoc (l : List UInt8) (b : UInt8) (i : Nat) (h : 6 * i + 6 ≤ 8 * l.length) : gr (l ++ [b]) i = gr l i := by
  unfold gr
  congr 1
  have hb := b.toNat_lt
  obtain ⟨r, hr⟩ : ∃ r, r = 8 * l.length - 6 * i - 6 := ⟨_, rfl⟩
  have e1 : 2 ^ (8 * (l.length + 1) - 6 * i) = 64 * (256 * 2 ^ r) := by
    rw [show 8 * (l.length + 1) - 6 * i = 6 + (8 + r) by omega, Nat.pow_add, Nat.pow_add]
  have e2 : 2 ^ (8 * l.length - 6 * i) = 64 * 2 ^ r := by rw [show 8 * l.length - 6 * i = 6 + r by omega, Nat.pow_add]
  rw [bv_snoc, List.length_append, List.length_singleton, e1, e2, ← Nat.div_div_eq_div_mul, Nat.mul_div_cancel _ (by decide), ← Nat.div_div_eq_div_mul, ← Nat.div_div_eq_div_mul, Nat.mul_div_cancel _ (by decide), Nat.mul_comm (bv l) 256, Nat.mul_add_div (by decide), show b.toNat / 256 = 0 by omega, Nat.add_zero]

/-- the bytes of places -/
def dec (vs : List Nat) : List UInt8 := (dgs 8 (6 * vs.length / 8) (vl 6 vs / 2 ^ (6 * vs.length % 8))).map UInt8.ofNat
theorem dec_length (vs : List Nat) : (dec vs).length = 6 * vs.length / 8 := by simp [dec, dgs_length]
theorem ofNat_toNat (l : List Nat) (h : ∀ x ∈ l, x < 2 ^ 8) : (l.map UInt8.ofNat).map UInt8.toNat = l := by
  rw [List.map_map]
  conv => rhs; rw [← List.map_id l]
  apply List.map_congr_left
  intro x hx
  have := h x hx
  simp only [Function.comp, id]
  exact UInt8.toNat_ofNat_of_lt' this
theorem toNat_ofNat (l : List UInt8) : (l.map UInt8.toNat).map UInt8.ofNat = l := by
  rw [List.map_map]
  conv => rhs; rw [← List.map_id l]
  apply List.map_congr_left
  intro x _
  simp
/-- what is left over of places behind the last whole byte -/
def rest (vs : List Nat) : Nat := vl 6 vs % 2 ^ (6 * vs.length % 8)
theorem vl_pl (l : List UInt8) : vl 6 (pl l) = bv l * 2 ^ (6 * ne l.length - 8 * l.length) := by
  unfold pl
  rw [vl_dgs, Nat.mod_eq_of_lt]
  have h1 : 6 * ne l.length = 8 * l.length + (6 * ne l.length - 8 * l.length) := by unfold ne; omega
  conv => rhs; rw [h1, Nat.pow_add]
  exact (Nat.mul_lt_mul_right (Nat.two_pow_pos _)).2 (bv_lt l)
theorem ne_facts (n : Nat) : 6 * ne n / 8 = n ∧ 6 * ne n % 8 = 6 * ne n - 8 * n ∧ ne n % 4 ≠ 1 := by unfold ne; omega
/-- what is encoded is decoded -/
theorem there (l : List UInt8) : dec (pl l) = l ∧ rest (pl l) = 0 ∧ (pl l).length % 4 ≠ 1 := by
  obtain ⟨h1, h2, h3⟩ := ne_facts l.length
  refine ⟨?_, ?_, by rw [pl_length]; exact h3⟩
  · unfold dec
    rw [pl_length, h1, h2, vl_pl, Nat.mul_div_cancel _ (Nat.two_pow_pos _)]
    have := dgs_vl 8 (l.map UInt8.toNat) (bytes_lt l)
    rw [List.length_map] at this
    show (dgs 8 l.length (vl 8 (l.map UInt8.toNat))).map UInt8.ofNat = l
    rw [this, toNat_ofNat]
  · unfold rest
    rw [pl_length, h2, vl_pl, Nat.mul_mod_left]
theorem bv_dec (vs : List Nat) (h : ∀ x ∈ vs, x < 64) : bv (dec vs) = vl 6 vs / 2 ^ (6 * vs.length % 8) := by
  unfold bv dec
  rw [ofNat_toNat _ (dgs_lt 8 _ _), vl_dgs, Nat.mod_eq_of_lt]
  have h1 := vl_lt 6 vs h
  rw [Nat.div_lt_iff_lt_mul (Nat.two_pow_pos _), ← Nat.pow_add]
  rwa [Nat.div_add_mod]
theorem ne_back (n : Nat) : ne (6 * n / 8) = n ↔ n % 4 ≠ 1 := by
  obtain ⟨q, r, hr, rfl⟩ : ∃ q r, r < 4 ∧ n = 4 * q + r := ⟨n / 4, n % 4, by omega, by omega⟩
  have h : r = 0 ∨ r = 1 ∨ r = 2 ∨ r = 3 := by omega
  unfold ne
  rcases h with rfl | rfl | rfl | rfl <;> omega
/-- places are those of the bytes that they are read as just if nothing is left over -/
theorem back (vs : List Nat) (h : ∀ x ∈ vs, x < 64) : pl (dec vs) = vs ↔ vs.length % 4 ≠ 1 ∧ rest vs = 0 := by
  have hlt := vl_lt 6 vs h
  have key : vs.length % 4 ≠ 1 → pl (dec vs) = dgs 6 vs.length (vl 6 vs / 2 ^ (6 * vs.length % 8) * 2 ^ (6 * vs.length % 8)) := fun h4 => by
    unfold pl
    rw [bv_dec vs h, dec_length, (ne_back vs.length).2 h4, show 6 * vs.length - 8 * (6 * vs.length / 8) = 6 * vs.length % 8 by omega]
  constructor
  · intro he
    have hl := congrArg List.length he
    rw [pl_length, dec_length] at hl
    have h4 := (ne_back vs.length).1 hl
    refine ⟨h4, ?_⟩
    rw [key h4] at he
    have h5 := congrArg (vl 6) he
    rw [vl_dgs, Nat.mod_eq_of_lt (Nat.lt_of_le_of_lt (Nat.div_mul_le_self _ _) hlt)] at h5
    unfold rest
    have h6 := Nat.div_add_mod (vl 6 vs) (2 ^ (6 * vs.length % 8))
    rw [Nat.mul_comm] at h6
    omega
  · rintro ⟨h4, h5⟩
    rw [key h4]
    unfold rest at h5
    have h6 := Nat.div_add_mod (vl 6 vs) (2 ^ (6 * vs.length % 8))
    rw [Nat.mul_comm, h5, Nat.add_zero] at h6
    rw [h6, dgs_vl 6 vs h]

/-- the letter at a place -/
def lt (L : List UInt8) (k : Nat) : UInt8 := L.getD k 0
def enc (L : List UInt8) (l : List UInt8) : List UInt8 := (pl l).map (lt L)
theorem enc_length (L l : List UInt8) : (enc L l).length = ne l.length := by unfold enc; rw [List.length_map, pl_length]
/-- the first letters of bytes -/
def encTo (L l : List UInt8) (k : Nat) : List UInt8 := (List.range k).map fun i => lt L (gr l i)
theorem enc_to (L l : List UInt8) : enc L l = encTo L l (ne l.length) := by unfold enc encTo; rw [pl_gr, List.map_map]; rfl
theorem encTo_snoc (L l : List UInt8) (k : Nat) : encTo L l (k + 1) = encTo L l k ++ [lt L (gr l k)] := by unfold encTo; rw [List.range_succ, List.map_append]; rfl
theorem encTo_length (L l : List UInt8) (k : Nat) : (encTo L l k).length = k := by simp [encTo]
theorem encTo_next (L l : List UInt8) (b : UInt8) (k : Nat) (h : 6 * k ≤ 8 * l.length) : encTo L (l ++ [b]) k = encTo L l k := by
  unfold encTo
  apply List.map_congr_left
  intro i hi
  have hi : i < k := by simpa using hi
  rw [gr_snoc l b i (by omega)]
/-- a letter's place -/
def pos (L : List UInt8) (b : UInt8) : Nat := L.idxOf b
/-- letters that are a coder's -/
def Fine (L : List UInt8) : Prop := L.length = 64 ∧ L.Nodup
theorem pos_lt {L : List UInt8} {b : UInt8} (h : b ∈ L) : pos L b < L.length := List.idxOf_lt_length_of_mem h
theorem lt_pos {L : List UInt8} {b : UInt8} (h : b ∈ L) : lt L (pos L b) = b := by
  unfold lt pos
  rw [List.getD_eq_getElem?_getD, List.getElem?_eq_getElem (List.idxOf_lt_length_of_mem h)]
  simp
theorem pos_at {L : List UInt8} (hf : L.Nodup) {k : Nat} (h : k < L.length) : pos L (lt L k) = k := by
  unfold lt pos
  rw [List.getD_eq_getElem?_getD, List.getElem?_eq_getElem h]
  simp only [Option.getD_some]
  have h1 : L[k] ∈ L := List.getElem_mem h
  have h2 := List.idxOf_lt_length_of_mem h1
  have h3 : L[L.idxOf L[k]] = L[k] := List.getElem_idxOf h2
  exact (List.getElem_inj hf).1 h3
theorem lt_mem {L : List UInt8} {k : Nat} (h : k < L.length) : lt L k ∈ L := by
  unfold lt
  rw [List.getD_eq_getElem?_getD, List.getElem?_eq_getElem h]
  exact List.getElem_mem h
/-- is all of it letters -/
def all (L s : List UInt8) : Bool := s.all fun b => L.contains b
def plc (L s : List UInt8) : List Nat := s.map (pos L)
def decE (L s : List UInt8) : Int := if all L s then (if s.length % 4 = 1 ∨ rest (plc L s) ≠ 0 then 5 else 0) else 8
def decL (L s : List UInt8) : List UInt8 := if decE L s = 0 then dec (plc L s) else []
theorem all_mem {L s : List UInt8} (h : all L s = true) : ∀ b ∈ s, b ∈ L := fun b hb => by
  have := List.all_eq_true.1 h b hb
  simpa using this
theorem plc_lt {L s : List UInt8} (hf : Fine L) (h : all L s = true) : ∀ x ∈ plc L s, x < 64 := fun x hx => by
  obtain ⟨b, hb, rfl⟩ := List.mem_map.1 hx
  have := pos_lt (all_mem h b hb)
  rw [hf.1] at this
  exact this
theorem plc_back {L s : List UInt8} (h : all L s = true) : (plc L s).map (lt L) = s := by
  unfold plc
  rw [List.map_map]
  conv => rhs; rw [← List.map_id s]
  apply List.map_congr_left
  intro b hb
  exact lt_pos (all_mem h b hb)
theorem plc_there {L : List UInt8} (hf : Fine L) {vs : List Nat} (h : ∀ x ∈ vs, x < 64) : plc L (vs.map (lt L)) = vs ∧ all L (vs.map (lt L)) = true := by
  constructor
  · unfold plc
    rw [List.map_map]
    conv => rhs; rw [← List.map_id vs]
    apply List.map_congr_left
    intro x hx
    exact pos_at hf.2 (by rw [hf.1]; exact h x hx)
  · unfold all
    rw [List.all_map, List.all_eq_true]
    intro x hx
    simp only [Function.comp]
    have := lt_mem (L := L) (k := x) (by rw [hf.1]; exact h x hx)
    simpa using this
theorem decL_length (L s : List UInt8) : (decL L s).length ≤ s.length := by
  unfold decL
  split
  · rw [dec_length]; unfold plc; rw [List.length_map]; omega
  · simp
/-- what is written is read -/
theorem enc_dec {L : List UInt8} (hf : Fine L) (l : List UInt8) : decE L (enc L l) = 0 ∧ decL L (enc L l) = l := by
  obtain ⟨h1, h2⟩ := plc_there hf (pl_lt l)
  obtain ⟨t1, t2, t3⟩ := there l
  have hE : decE L (enc L l) = 0 := by
    unfold decE enc
    rw [if_pos h2, if_neg]
    rw [h1, t2, List.length_map]
    simp only [ne_eq, not_true_eq_false, or_false]
    exact t3
  refine ⟨hE, ?_⟩
  unfold decL
  rw [if_pos hE]
  unfold enc
  rw [h1, t1]
/-- what is read was written just so, and else there is none -/
theorem dec_enc {L : List UInt8} (hf : Fine L) {s : List UInt8} (h : all L s = true) : enc L (dec (plc L s)) = s ↔ decE L s = 0 := by
  have hv := plc_lt hf h
  have hb := back (plc L s) hv
  have hlen : (plc L s).length = s.length := by simp [plc]
  rw [hlen] at hb
  have e1 : enc L (dec (plc L s)) = s ↔ pl (dec (plc L s)) = plc L s := by
    constructor
    · intro he
      have h1 := congrArg (plc L) he
      unfold enc at h1
      rwa [(plc_there hf (pl_lt _)).1] at h1
    · intro he
      unfold enc
      rw [he, plc_back h]
  rw [e1, hb]
  unfold decE
  rw [if_pos h]
  by_cases c : s.length % 4 = 1 ∨ rest (plc L s) ≠ 0
  · rw [if_pos c]
    constructor
    · rintro ⟨c1, c2⟩; rcases c with c | c
      · exact absurd c c1
      · exact absurd c2 c
    · intro h; exact absurd h (by decide)
  · rw [if_neg c]
    constructor
    · intro _; rfl
    · intro _
      refine ⟨fun h => c (.inl h), ?_⟩
      by_cases h0 : rest (plc L s) = 0
      · exact h0
      · exact absurd (.inr h0) c
theorem read_write {L : List UInt8} (hf : Fine L) {s : List UInt8} (h : decE L s = 0) : enc L (decL L s) = s := by
  have ha : all L s = true := by
    cases hc : all L s with
    | true => rfl
    | false => exfalso; unfold decE at h; rw [hc] at h; simp at h
  unfold decL
  rw [if_pos h]
  exact (dec_enc hf ha).2 h
end Sx
end Go.Proofs.Ytjknpbaegnkdnaa
