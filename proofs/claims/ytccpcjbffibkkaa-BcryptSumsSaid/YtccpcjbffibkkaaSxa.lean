/- Bits six by six and eight by eight, purely: bytes as letters of six bits and back. No condition. A coder in memory: 64 letters, and a value for each byte; why letters are none for a coder. No condition. New, Letters and total of package sextet by their contracts. Conditions: those typed. The machine's words of 32 bits, into which bits come from the right. No condition but those typed. -/
import Derived.Test.YtccpcjbffibkkaaFh
import Derived.Test.YtccpcjbffibkkaaArr
import Derived.Test.YtccpcjbffibkkaaHx
import Derived.LoopTactic
import Derived.IntWalk
import Derived.Laws.BitsLemmas
import Derived.Laws.BitsAllLaws
namespace Go.Proofs.Ytccpcjbffibkkaa
set_option maxRecDepth 50000
open Go.RowKit

namespace Sx
/-- numbers of w bits each as one number, the first of them the highest -/
def vl (w : Nat) (l : List Nat) : Nat := l.foldl (fun a v => a * 2 ^ w + v) 0
theorem vl_snoc (w : Nat) (l : List Nat) (x : Nat) : vl w (l ++ [x]) = vl w l * 2 ^ w + x := by simp [vl, List.foldl_append]
theorem snoc_ind {α : Type} {M : List α → Prop} (h0 : M []) (h1 : ∀ l x, M l → M (l ++ [x])) : ∀ l, M l := fun l => by
  have : ∀ n (l : List α), l.length = n → M l := by
    intro n
    induction n with
    | zero => intro l h; rw [List.eq_nil_of_length_eq_zero h]; exact h0
    | succ n ih =>
      intro l h
      rcases List.eq_nil_or_concat l with rfl | ⟨l', x, rfl⟩
      · exact h0
      · simp only [List.concat_eq_append] at *
        exact h1 l' x (ih l' (by simpa using h))
  exact this _ l rfl
theorem vl_lt (w : Nat) (l : List Nat) : (∀ x ∈ l, x < 2 ^ w) → vl w l < 2 ^ (w * l.length) := by
  induction l using snoc_ind with
  | h0 => intro _; simp [vl]
  | h1 l x ih =>
    intro h
    have h1 := ih fun y hy => h y (by simp [hy])
    have h2 := h x (by simp)
    rw [vl_snoc, List.length_append, List.length_singleton, Nat.mul_add, Nat.mul_one, Nat.pow_add]
    calc vl w l * 2 ^ w + x < vl w l * 2 ^ w + 2 ^ w := by omega
      _ = (vl w l + 1) * 2 ^ w := by rw [Nat.succ_mul]
      _ ≤ 2 ^ (w * l.length) * 2 ^ w := Nat.mul_le_mul_right _ h1
/-- the i-th of n numbers of w bits that a number is -/
def dg (w n V i : Nat) : Nat := V / 2 ^ (w * (n - 1 - i)) % 2 ^ w
def dgs (w n V : Nat) : List Nat := (List.range n).map (dg w n V)
theorem dgs_length (w n V : Nat) : (dgs w n V).length = n := by simp [dgs]
theorem dgs_lt (w n V : Nat) : ∀ x ∈ dgs w n V, x < 2 ^ w := by
  intro x hx
  simp only [dgs, List.mem_map] at hx
  obtain ⟨i, _, rfl⟩ := hx
  exact Nat.mod_lt _ (Nat.two_pow_pos w)
theorem dgs_succ (w n V : Nat) : dgs w (n + 1) V = dgs w n (V / 2 ^ w) ++ [V % 2 ^ w] := by
  unfold dgs
  rw [List.range_succ, List.map_append]
  congr 1
  · apply List.map_congr_left
    intro i hi
    have hi : i < n := by simpa using hi
    unfold dg
    rw [show n + 1 - 1 - i = (n - 1 - i) + 1 by omega, Nat.mul_add, Nat.mul_one, Nat.add_comm, Nat.pow_add, Nat.div_div_eq_div_mul]
  · simp [dg]
theorem dgs_vl (w : Nat) (l : List Nat) : (∀ x ∈ l, x < 2 ^ w) → dgs w l.length (vl w l) = l := by
  induction l using snoc_ind with
  | h0 => intro _; rfl
  | h1 l x ih =>
    intro h
    have h1 := ih fun y hy => h y (by simp [hy])
    have h2 := h x (by simp)
    have hp := Nat.two_pow_pos w
    rw [List.length_append, List.length_singleton, dgs_succ, vl_snoc, Nat.mul_comm, Nat.mul_add_div hp, Nat.div_eq_of_lt h2, Nat.add_zero, h1, Nat.mul_add_mod, Nat.mod_eq_of_lt h2]
theorem vl_dgs (w n : Nat) : ∀ V, vl w (dgs w n V) = V % 2 ^ (w * n) := by
  induction n with
  | zero => intro V; simp [dgs, vl, Nat.mod_one]
  | succ n ih =>
    intro V
    rw [dgs_succ, vl_snoc, ih, Nat.mul_add, Nat.mul_one, Nat.add_comm (w * n) w, Nat.pow_add, Nat.mod_mul, Nat.mul_comm (2 ^ w), Nat.add_comm]

/-- bytes as one number -/
def bv (l : List UInt8) : Nat := vl 8 (l.map UInt8.toNat)
theorem bv_snoc (l : List UInt8) (b : UInt8) : bv (l ++ [b]) = bv l * 256 + b.toNat := by unfold bv; rw [List.map_append, List.map_singleton, vl_snoc]
theorem bytes_lt (l : List UInt8) : ∀ x ∈ l.map UInt8.toNat, x < 2 ^ 8 := by
  intro x hx
  obtain ⟨b, _, rfl⟩ := List.mem_map.1 hx
  exact b.toNat_lt
theorem bv_lt (l : List UInt8) : bv l < 2 ^ (8 * l.length) := by
  have := vl_lt 8 _ (bytes_lt l)
  rwa [List.length_map] at this
/-- how many letters bytes have -/
def ne (n : Nat) : Nat := (8 * n + 5) / 6
/-- the places of bytes' letters -/
def pl (l : List UInt8) : List Nat := dgs 6 (ne l.length) (bv l * 2 ^ (6 * ne l.length - 8 * l.length))
theorem pl_length (l : List UInt8) : (pl l).length = ne l.length := dgs_length _ _ _
theorem pl_lt (l : List UInt8) : ∀ x ∈ pl l, x < 64 := dgs_lt 6 _ _
/-- the place of the i-th letter -/
def gr (l : List UInt8) (i : Nat) : Nat := bv l * 64 / 2 ^ (8 * l.length - 6 * i) % 64
theorem gr_lt (l : List UInt8) (i : Nat) : gr l i < 64 := Nat.mod_lt _ (by decide)
theorem dg_gr (l : List UInt8) (i : Nat) (h : i < ne l.length) : dg 6 (ne l.length) (bv l * 2 ^ (6 * ne l.length - 8 * l.length)) i = gr l i := by
  unfold dg gr
  have h1 : 8 * l.length ≤ 6 * ne l.length := by unfold ne; omega
  have h2 : 6 * i ≤ 8 * l.length := by unfold ne at h; omega
  congr 1
  rw [← Nat.mul_div_mul_right (bv l * 2 ^ (6 * ne l.length - 8 * l.length)) _ (show 0 < 2 ^ 6 by decide), ← Nat.pow_add,
    show 6 * (ne l.length - 1 - i) + 6 = (8 * l.length - 6 * i) + (6 * ne l.length - 8 * l.length) by omega, Nat.pow_add,
    show bv l * 2 ^ (6 * ne l.length - 8 * l.length) * 2 ^ 6 = bv l * 64 * 2 ^ (6 * ne l.length - 8 * l.length) by
      rw [Nat.mul_assoc, Nat.mul_assoc, Nat.mul_comm (2 ^ _) (2 ^ 6)],
    Nat.mul_div_mul_right _ _ (Nat.two_pow_pos _)]
theorem pl_gr (l : List UInt8) : pl l = (List.range (ne l.length)).map (gr l) := by
  unfold pl dgs
  apply List.map_congr_left
  intro i hi
  exact dg_gr l i (by simpa using hi)
theorem gr_snoc (l : List UInt8) (b : UInt8) (i : Nat) (h : 6 * i + 6 ≤ 8 * l.length) : gr (l ++ [b]) i = gr l i := by
  unfold gr
  congr 1
  have hb := b.toNat_lt
  obtain ⟨r, hr⟩ : ∃ r, r = 8 * l.length - 6 * i - 6 := ⟨_, rfl⟩
  have e1 : 2 ^ (8 * (l.length + 1) - 6 * i) = 64 * (256 * 2 ^ r) := by
    rw [show 8 * (l.length + 1) - 6 * i = 6 + (8 + r) by omega, Nat.pow_add, Nat.pow_add]
  have e2 : 2 ^ (8 * l.length - 6 * i) = 64 * 2 ^ r := by rw [show 8 * l.length - 6 * i = 6 + r by omega, Nat.pow_add]
  rw [bv_snoc, List.length_append, List.length_singleton, e1, e2, ← Nat.div_div_eq_div_mul, Nat.mul_div_cancel _ (by decide), ← Nat.div_div_eq_div_mul, ← Nat.div_div_eq_div_mul, Nat.mul_div_cancel _ (by decide), Nat.mul_comm (bv l) 256, Nat.mul_add_div (by decide), show b.toNat / 256 = 0 by omega, Nat.add_zero]

/-- the bytes of places -/
def dec (vs : List Nat) : List UInt8 := (dgs 8 (6 * vs.length / 8) (vl 6 vs / 2 ^ (6 * vs.length % 8))).map UInt8.ofNat
theorem dec_length (vs : List Nat) : (dec vs).length = 6 * vs.length / 8 := by simp [dec, dgs_length]
theorem ofNat_toNat (l : List Nat) (h : ∀ x ∈ l, x < 2 ^ 8) : (l.map UInt8.ofNat).map UInt8.toNat = l := by
  rw [List.map_map]
  conv => rhs; rw [← List.map_id l]
  apply List.map_congr_left
  intro x hx
  have := h x hx
  simp only [Function.comp, id]
  exact UInt8.toNat_ofNat_of_lt' this
theorem toNat_ofNat (l : List UInt8) : (l.map UInt8.toNat).map UInt8.ofNat = l := by
  rw [List.map_map]
  conv => rhs; rw [← List.map_id l]
  apply List.map_congr_left
  intro x _
  simp
/-- what is left over of places behind the last whole byte -/
def rest (vs : List Nat) : Nat := vl 6 vs % 2 ^ (6 * vs.length % 8)
theorem vl_pl (l : List UInt8) : vl 6 (pl l) = bv l * 2 ^ (6 * ne l.length - 8 * l.length) := by
  unfold pl
  rw [vl_dgs, Nat.mod_eq_of_lt]
  have h1 : 6 * ne l.length = 8 * l.length + (6 * ne l.length - 8 * l.length) := by unfold ne; omega
  conv => rhs; rw [h1, Nat.pow_add]
  exact (Nat.mul_lt_mul_right (Nat.two_pow_pos _)).2 (bv_lt l)
theorem ne_facts (n : Nat) : 6 * ne n / 8 = n ∧ 6 * ne n % 8 = 6 * ne n - 8 * n ∧ ne n % 4 ≠ 1 := by unfold ne; omega
/-- what is encoded is decoded -/
theorem there (l : List UInt8) : dec (pl l) = l ∧ rest (pl l) = 0 ∧ (pl l).length % 4 ≠ 1 := by
  obtain ⟨h1, h2, h3⟩ := ne_facts l.length
  refine ⟨?_, ?_, by rw [pl_length]; exact h3⟩
  · unfold dec
    rw [pl_length, h1, h2, vl_pl, Nat.mul_div_cancel _ (Nat.two_pow_pos _)]
    have := dgs_vl 8 (l.map UInt8.toNat) (bytes_lt l)
    rw [List.length_map] at this
    show (dgs 8 l.length (vl 8 (l.map UInt8.toNat))).map UInt8.ofNat = l
    rw [this, toNat_ofNat]
  · unfold rest
    rw [pl_length, h2, vl_pl, Nat.mul_mod_left]
theorem bv_dec (vs : List Nat) (h : ∀ x ∈ vs, x < 64) : bv (dec vs) = vl 6 vs / 2 ^ (6 * vs.length % 8) := by
  unfold bv dec
  rw [ofNat_toNat _ (dgs_lt 8 _ _), vl_dgs, Nat.mod_eq_of_lt]
  have h1 := vl_lt 6 vs h
  rw [Nat.div_lt_iff_lt_mul (Nat.two_pow_pos _), ← Nat.pow_add]
  rwa [Nat.div_add_mod]
theorem ne_back (n : Nat) : ne (6 * n / 8) = n ↔ n % 4 ≠ 1 := by
  obtain ⟨q, r, hr, rfl⟩ : ∃ q r, r < 4 ∧ n = 4 * q + r := ⟨n / 4, n % 4, by omega, by omega⟩
  have h : r = 0 ∨ r = 1 ∨ r = 2 ∨ r = 3 := by omega
  unfold ne
  rcases h with rfl | rfl | rfl | rfl <;> omega
/-- places are those of the bytes that they are read as just if nothing is left over -/
theorem back (vs : List Nat) (h : ∀ x ∈ vs, x < 64) : pl (dec vs) = vs ↔ vs.length % 4 ≠ 1 ∧ rest vs = 0 := by
  have hlt := vl_lt 6 vs h
  have key : vs.length % 4 ≠ 1 → pl (dec vs) = dgs 6 vs.length (vl 6 vs / 2 ^ (6 * vs.length % 8) * 2 ^ (6 * vs.length % 8)) := fun h4 => by
    unfold pl
    rw [bv_dec vs h, dec_length, (ne_back vs.length).2 h4, show 6 * vs.length - 8 * (6 * vs.length / 8) = 6 * vs.length % 8 by omega]
  constructor
  · intro he
    have hl := congrArg List.length he
    rw [pl_length, dec_length] at hl
    have h4 := (ne_back vs.length).1 hl
    refine ⟨h4, ?_⟩
    rw [key h4] at he
    have h5 := congrArg (vl 6) he
    rw [vl_dgs, Nat.mod_eq_of_lt (Nat.lt_of_le_of_lt (Nat.div_mul_le_self _ _) hlt)] at h5
    unfold rest
    have h6 := Nat.div_add_mod (vl 6 vs) (2 ^ (6 * vs.length % 8))
    rw [Nat.mul_comm] at h6
    omega
  · rintro ⟨h4, h5⟩
    rw [key h4]
    unfold rest at h5
    have h6 := Nat.div_add_mod (vl 6 vs) (2 ^ (6 * vs.length % 8))
    rw [Nat.mul_comm, h5, Nat.add_zero] at h6
    rw [h6, dgs_vl 6 vs h]

/-- the letter at a place -/
def lt (L : List UInt8) (k : Nat) : UInt8 := L.getD k 0
def enc (L : List UInt8) (l : List UInt8) : List UInt8 := (pl l).map (lt L)
theorem enc_length (L l : List UInt8) : (enc L l).length = ne l.length := by unfold enc; rw [List.length_map, pl_length]
/-- the first letters of bytes -/
def encTo (L l : List UInt8) (k : Nat) : List UInt8 := (List.range k).map fun i => lt L (gr l i)
theorem enc_to (L l : List UInt8) : enc L l = encTo L l (ne l.length) := by unfold enc encTo; rw [pl_gr, List.map_map]; rfl
theorem encTo_snoc (L l : List UInt8) (k : Nat) : encTo L l (k + 1) = encTo L l k ++ [lt L (gr l k)] := by unfold encTo; rw [List.range_succ, List.map_append]; rfl
theorem encTo_length (L l : List UInt8) (k : Nat) : (encTo L l k).length = k := by simp [encTo]
theorem encTo_next (L l : List UInt8) (b : UInt8) (k : Nat) (h : 6 * k ≤ 8 * l.length) : encTo L (l ++ [b]) k = encTo L l k := by
  unfold encTo
  apply List.map_congr_left
  intro i hi
  have hi : i < k := by simpa using hi
  rw [gr_snoc l b i (by omega)]
/-- a letter's place -/
def pos (L : List UInt8) (b : UInt8) : Nat := L.idxOf b
/-- letters that are a coder's -/
def Fine (L : List UInt8) : Prop := L.length = 64 ∧ L.Nodup
theorem pos_lt {L : List UInt8} {b : UInt8} (h : b ∈ L) : pos L b < L.length := List.idxOf_lt_length_of_mem h
theorem lt_pos {L : List UInt8} {b : UInt8} (h : b ∈ L) : lt L (pos L b) = b := by
  unfold lt pos
  rw [List.getD_eq_getElem?_getD, List.getElem?_eq_getElem (List.idxOf_lt_length_of_mem h)]
  simp
theorem pos_at {L : List UInt8} (hf : L.Nodup) {k : Nat} (h : k < L.length) : pos L (lt L k) = k := by
  unfold lt pos
  rw [List.getD_eq_getElem?_getD, List.getElem?_eq_getElem h]
  simp only [Option.getD_some]
  have h1 : L[k] ∈ L := List.getElem_mem h
  have h2 := List.idxOf_lt_length_of_mem h1
  have h3 : L[L.idxOf L[k]] = L[k] := List.getElem_idxOf h2
  exact (List.getElem_inj hf).1 h3
theorem lt_mem {L : List UInt8} {k : Nat} (h : k < L.length) : lt L k ∈ L := by
  unfold lt
  rw [List.getD_eq_getElem?_getD, List.getElem?_eq_getElem h]
  exact List.getElem_mem h
/-- is all of it letters -/
def all (L s : List UInt8) : Bool := s.all fun b => L.contains b
def plc (L s : List UInt8) : List Nat := s.map (pos L)
def decE (L s : List UInt8) : Int := if all L s then (if s.length % 4 = 1 ∨ rest (plc L s) ≠ 0 then 5 else 0) else 8
def decL (L s : List UInt8) : List UInt8 := if decE L s = 0 then dec (plc L s) else []
theorem all_mem {L s : List UInt8} (h : all L s = true) : ∀ b ∈ s, b ∈ L := fun b hb => by
  have := List.all_eq_true.1 h b hb
  simpa using this
theorem plc_lt {L s : List UInt8} (hf : Fine L) (h : all L s = true) : ∀ x ∈ plc L s, x < 64 := fun x hx => by
  obtain ⟨b, hb, rfl⟩ := List.mem_map.1 hx
  have := pos_lt (all_mem h b hb)
  rw [hf.1] at this
  exact this
theorem plc_back {L s : List UInt8} (h : all L s = true) : (plc L s).map (lt L) = s := by
  unfold plc
  rw [List.map_map]
  conv => rhs; rw [← List.map_id s]
  apply List.map_congr_left
  intro b hb
  exact lt_pos (all_mem h b hb)
theorem plc_there {L : List UInt8} (hf : Fine L) {vs : List Nat} (h : ∀ x ∈ vs, x < 64) : plc L (vs.map (lt L)) = vs ∧ all L (vs.map (lt L)) = true := by
  constructor
  · unfold plc
    rw [List.map_map]
    conv => rhs; rw [← List.map_id vs]
    apply List.map_congr_left
    intro x hx
    exact pos_at hf.2 (by rw [hf.1]; exact h x hx)
  · unfold all
    rw [List.all_map, List.all_eq_true]
    intro x hx
    simp only [Function.comp]
    have := lt_mem (L := L) (k := x) (by rw [hf.1]; exact h x hx)
    simpa using this
theorem decL_length (L s : List UInt8) : (decL L s).length ≤ s.length := by
  unfold decL
  split
  · rw [dec_length]; unfold plc; rw [List.length_map]; omega
  · simp
/-- what is written is read -/
theorem enc_dec {L : List UInt8} (hf : Fine L) (l : List UInt8) : decE L (enc L l) = 0 ∧ decL L (enc L l) = l := by
  obtain ⟨h1, h2⟩ := plc_there hf (pl_lt l)
  obtain ⟨t1, t2, t3⟩ := there l
  have hE : decE L (enc L l) = 0 := by
    unfold decE enc
    rw [if_pos h2, if_neg]
    rw [h1, t2, List.length_map]
    simp only [ne_eq, not_true_eq_false, or_false]
    exact t3
  refine ⟨hE, ?_⟩
  unfold decL
  rw [if_pos hE]
  unfold enc
  rw [h1, t1]
/-- what is read was written just so, and else there is none -/
theorem dec_enc {L : List UInt8} (hf : Fine L) {s : List UInt8} (h : all L s = true) : enc L (dec (plc L s)) = s ↔ decE L s = 0 := by
  have hv := plc_lt hf h
  have hb := back (plc L s) hv
  have hlen : (plc L s).length = s.length := by simp [plc]
  rw [hlen] at hb
  have e1 : enc L (dec (plc L s)) = s ↔ pl (dec (plc L s)) = plc L s := by
    constructor
    · intro he
      have h1 := congrArg (plc L) he
      unfold enc at h1
      rwa [(plc_there hf (pl_lt _)).1] at h1
    · intro he
      unfold enc
      rw [he, plc_back h]
  rw [e1, hb]
  unfold decE
  rw [if_pos h]
  by_cases c : s.length % 4 = 1 ∨ rest (plc L s) ≠ 0
  · rw [if_pos c]
    constructor
    · rintro ⟨c1, c2⟩; rcases c with c | c
      · exact absurd c c1
      · exact absurd c2 c
    · intro h; exact absurd h (by decide)
  · rw [if_neg c]
    constructor
    · intro _; rfl
    · intro _
      refine ⟨fun h => c (.inl h), ?_⟩
      by_cases h0 : rest (plc L s) = 0
      · exact h0
      · exact absurd (.inr h0) c
theorem read_write {L : List UInt8} (hf : Fine L) {s : List UInt8} (h : decE L s = 0) : enc L (decL L s) = s := by
  have ha : all L s = true := by
    cases hc : all L s with
    | true => rfl
    | false => exfalso; unfold decE at h; rw [hc] at h; simp at h
  unfold decL
  rw [if_pos h]
  exact (dec_enc hf ha).2 h
end Sx
end Go.Proofs.Ytccpcjbffibkkaa

namespace Go.Proofs.Ytccpcjbffibkkaa
set_option maxRecDepth 50000
open Go.RowKit

namespace Sx
/-- what is wrong in the letter at a place, but for those ahead -/
def wrong (l : List UInt8) (i : Nat) : Int := if (lt l i).toNat < 33 ∨ 126 < (lt l i).toNat then 8 else if lt l i ∈ l.take i then 15 else 0
/-- .. in the first one of k that is wrong -/
def scan (l : List UInt8) : Nat → Int
  | 0 => 0
  | k + 1 => if scan l k = 0 then wrong l k else scan l k
theorem scan_next {l : List UInt8} {k : Nat} (h : scan l k = 0) : scan l (k + 1) = wrong l k := by unfold scan; rw [if_pos h]
theorem scan_stop {l : List UInt8} {k : Nat} (h : scan l k ≠ 0) : ∀ j, k ≤ j → scan l j = scan l k
  | 0, hj => by obtain rfl : k = 0 := by omega
                rfl
  | j + 1, hj => by
    rcases Nat.lt_or_ge j k with h1 | h1
    · obtain rfl : k = j + 1 := by omega
      rfl
    · have h2 := scan_stop h j h1
      rw [scan, if_neg (by rw [h2]; exact h), h2]
theorem scan_wrong {l : List UInt8} {k : Nat} (h : scan l k = 0) (hw : wrong l k ≠ 0) {j : Nat} (hj : k < j) : scan l j = wrong l k := by
  have h1 := scan_next h
  rw [← h1] at hw
  rw [scan_stop hw j hj, h1]
/-- why letters are none for a coder -/
def lettE (l : List UInt8) : Int := if l.length = 64 then scan l 64 else 9
theorem take_next {l : List UInt8} {k : Nat} (h : k < l.length) : l.take (k + 1) = l.take k ++ [lt l k] := by
  rw [List.take_succ_eq_append_getElem h]
  unfold lt
  rw [List.getD_eq_getElem?_getD, List.getElem?_eq_getElem h]; rfl
theorem scan_nodup (l : List UInt8) : ∀ k, k ≤ l.length → scan l k = 0 → (l.take k).Nodup
  | 0, _, _ => by simp
  | k + 1, hk, h => by
    have h0 : scan l k = 0 := by
      by_cases h0 : scan l k = 0
      · exact h0
      · rw [scan, if_neg h0] at h; exact h
    rw [scan_next h0] at h
    have hn : lt l k ∉ l.take k := by
      intro hm
      unfold wrong at h
      split at h
      · exact absurd h (by decide)
      · exact absurd h (by decide)
    rw [take_next (by omega), List.nodup_append]
    refine ⟨scan_nodup l k (by omega) h0, by simp, ?_⟩
    intro a ha b hb
    rw [List.mem_singleton] at hb
    rintro rfl
    exact hn (hb ▸ ha)
theorem lettE_fine {l : List UInt8} (h : lettE l = 0) : Fine l := by
  unfold lettE at h
  split at h
  · rename_i hl
    have := scan_nodup l 64 (by omega) h
    rw [List.take_of_length_le (by omega)] at this
    exact ⟨hl, this⟩
  · exact absurd h (by decide)
/-- a byte's value: its place and one more, or 0 -/
def vv (l : List UInt8) (b : UInt8) : Nat := if b ∈ l then pos l b + 1 else 0
theorem vv_le {l : List UInt8} (b : UInt8) (h : l.length ≤ 64) : vv l b ≤ 64 := by
  unfold vv
  split
  · have := pos_lt (by assumption : b ∈ l); omega
  · omega
theorem vv_next {l : List UInt8} {x : UInt8} (hn : x ∉ l) (b : UInt8) : vv (l ++ [x]) b = if b = x then l.length + 1 else vv l b := by
  unfold vv pos
  rw [List.idxOf_append]
  by_cases hb : b = x
  · subst hb
    rw [if_pos (by simp), if_pos rfl, if_neg hn]
    simp
  · rw [if_neg hb]
    by_cases hm : b ∈ l
    · rw [if_pos (by simp [hm]), if_pos hm, if_pos hm]
    · rw [if_neg (by simp [hm, hb]), if_neg hm]
def upd (g : Nat → Nat) (i v : Nat) : Nat → Nat := fun j => if j = i then v else g j
/-- a coder's cells: letters, and behind them values -/
def cg (l : List UInt8) : Nat → Nat := fun i => if i < 64 then (lt l i).toNat else vv l (UInt8.ofNat (i - 64))
theorem cg_lett (l : List UInt8) (i : Nat) (h : i < 64) : cg l i = (lt l i).toNat := if_pos h
theorem cg_val (l : List UInt8) (x : UInt8) : cg l (64 + x.toNat) = vv l x := by
  unfold cg
  rw [if_neg (by omega), Nat.add_sub_cancel_left]; simp
theorem lt_take (l : List UInt8) (k i : Nat) : lt (l.take k) i = if i < k then lt l i else 0 := by
  unfold lt
  rw [List.getD_eq_getElem?_getD, List.getElem?_take, List.getD_eq_getElem?_getD]
  split <;> rfl
theorem cg_next {l : List UInt8} {k : Nat} (hk : k < l.length) (hl : l.length = 64) (hn : lt l k ∉ l.take k) (i : Nat) (hi : i < 320) :
    upd (upd (cg (l.take k)) k (lt l k).toNat) (64 + (lt l k).toNat) (k + 1) i = cg (l.take (k + 1)) i := by
  have hx := (lt l k).toNat_lt
  unfold upd
  by_cases h1 : i < 64
  · rw [if_neg (by omega), cg_lett (l.take (k + 1)) i h1, cg_lett (l.take k) i h1, lt_take, lt_take]
    by_cases h2 : i = k
    · subst h2; rw [if_pos rfl, if_pos (by omega)]
    · rw [if_neg h2]
      by_cases h3 : i < k
      · rw [if_pos h3, if_pos (by omega)]
      · rw [if_neg h3, if_neg (by omega)]
  · have e1 : ∀ m : List UInt8, cg m i = vv m (UInt8.ofNat (i - 64)) := fun m => if_neg h1
    rw [e1, e1, take_next hk, vv_next hn, List.length_take]
    by_cases h2 : i = 64 + (lt l k).toNat
    · rw [if_pos h2, if_pos (by rw [h2, Nat.add_sub_cancel_left]; simp)]; omega
    · rw [if_neg h2, if_neg (by omega), if_neg]
      intro he
      apply h2
      have := congrArg UInt8.toNat he
      rw [UInt8.toNat_ofNat_of_lt' (show i - 64 < 2 ^ 8 by omega)] at this
      omega
end Sx
open Sx

def ca (g : Nat → Nat) : Array Value := ((List.range 320).map fun i => Value.int .u8 (g i : Int)).toArray
theorem ca_size (g : Nat → Nat) : (ca g).size = 320 := by simp [ca]
theorem ca_at (g : Nat → Nat) (i : Nat) (h : i < 320) : (ca g)[i]? = some (.int .u8 (g i : Int)) := by simp [ca, h]
theorem ca_set (g : Nat → Nat) (i v : Nat) : (ca g).setIfInBounds i (.int .u8 (v : Int)) = ca (upd g i v) := by
  apply Array.ext
  · simp [ca]
  · intro j h1 h2
    simp [ca_size] at h1
    have a1 : (ca (upd g i v))[j]? = some (.int .u8 (upd g i v j : Int)) := ca_at _ j h1
    rw [Array.getElem?_eq_getElem h2] at a1
    injection a1 with a1
    rw [a1, Array.getElem_setIfInBounds (by rw [ca_size]; exact h1)]
    unfold upd
    by_cases hj : i = j
    · subst hj; simp
    · rw [if_neg hj, if_neg (Ne.symm hj)]
      have a2 := ca_at g j h1
      rw [Array.getElem?_eq_getElem (by rw [ca_size]; exact h1)] at a2
      injection a2
theorem ca_congr (g h : Nat → Nat) (e : ∀ i, i < 320 → g i = h i) : ca g = ca h := by
  unfold ca
  congr 1
  apply List.map_congr_left
  intro i hi
  rw [e i (by simpa using hi)]
/-- block b is a coder of these letters, so far as they go -/
def Cdr (w : World) (b : Nat) (l : List UInt8) : Prop := RowAt w b 66 (ca (cg l))
theorem Cdr.lett {w : World} {b : Nat} {l : List UInt8} (h : Cdr w b l) (i : Nat) (hi : i < 64) : w.cell? ⟨b, i, none⟩ = some (.int .u8 ((lt l i).toNat : Int)) := by
  rw [RowAt.cell h, ca_at _ i (by omega), cg_lett l i hi]
theorem Cdr.val {w : World} {b : Nat} {l : List UInt8} (h : Cdr w b l) (x : UInt8) : w.cell? ⟨b, 64 + x.toNat, none⟩ = some (.int .u8 (vv l x : Int)) := by
  have := x.toNat_lt
  rw [RowAt.cell h, ca_at _ _ (by omega), cg_val]
theorem Cdr.free {w : World} {b : Nat} {l : List UInt8} (h : Cdr w b l) (i : Nat) : w.frozen? ⟨b, i, none⟩ = false := RowAt.frozen h i
theorem Cdr.below {w w' : World} {b B : Nat} {l : List UInt8} (h : Cdr w b l) (hb : Below B w w') (hB : b < B) : Cdr w' b l := RowAt.below h hb hB
theorem Cdr.lt {w : World} {b : Nat} {l : List UInt8} (h : Cdr w b l) : b < w.heap.size := RowAt.lt h
theorem Cdr.alloc {w : World} {b : Nat} {l : List UInt8} (h : Cdr w b l) (o : Obj) : Cdr (w.alloc o) b l := RowAt.alloc h o
/-- the next letter is put in -/
theorem Cdr.next {w : World} {b : Nat} {l : List UInt8} {k : Nat} (h : Cdr w b (l.take k)) (hk : k < l.length) (hl : l.length = 64) (hn : Sx.lt l k ∉ l.take k) :
    Cdr ((w.setCell ⟨b, k, none⟩ (.int .u8 ((Sx.lt l k).toNat : Int))).setCell ⟨b, 64 + (Sx.lt l k).toNat, none⟩ (.int .u8 ((k + 1 : Nat) : Int))) b (l.take (k + 1)) := by
  unfold Cdr
  rw [← ca_congr _ _ (cg_next hk hl hn), ← ca_set, ← ca_set]
  exact (RowAt.setCell h k _).setCell _ _
theorem zero_coder : (Try.prog.info? 66).map (·.zero) = some (some (.agg (ca fun _ => 0))) := by kernel_rfl
theorem zero_coder_run (w : World) : (zeroValue 66).run Try.prog w = .ok (.agg (ca fun _ => 0)) w := by
  have hz := zero_coder
  cases hq : Try.prog.info? 66 with
  | none => rw [hq] at hz; simp at hz
  | some i =>
    rw [hq] at hz
    have hz2 : i.zero = some (.agg (ca fun _ => 0)) := by simpa using hz
    simp [zeroValue, typeInfo, Sem.run_bind, hq, hz2]
theorem ca_none : ca (fun _ => 0) = ca (cg []) := ca_congr _ _ fun i _ => by unfold cg; split <;> simp [Sx.lt, vv]
theorem Cdr.new (w : World) (l : List UInt8) : Cdr (w.alloc (.cells (ca fun _ => 0) 66)) w.heap.size (l.take 0) := by
  rw [ca_none]; exact RowAt.new _ _ _
end Go.Proofs.Ytccpcjbffibkkaa

namespace Go.Proofs.Ytccpcjbffibkkaa
set_option maxRecDepth 50000
open Go.RowKit Sx

/-- how many letters so many bytes have -/
def lettN (n : Int) : Int := if n < 0 ∨ 576460752303423488 < n then 0 else (n * 8 + 5) / 6
theorem lettN_nat (n : Nat) (h : n ≤ 576460752303423488) : lettN (n : Int) = ((ne n : Nat) : Int) := by
  unfold lettN ne
  rw [if_neg (by omega)]
  omega
theorem letters_nil (n : Int) (w : World) : Calls Try.prog 29 #[.pointer none, .int .i64 n] w fun e w' => e = .returned (.int .i64 0) ∧ w' = w := by
  go_enter Try.func29, Try.ntmps29
  go_wp2
  go_ret
  exact ⟨rfl, rfl⟩
theorem letters_any (b : Nat) (n : Int) (w : World) : Calls Try.prog 29 #[.pointer (some ⟨b, 0, none⟩), .int .i64 n] w fun e w' => e = .returned (.int .i64 (lettN n)) ∧ w' = w := by
  by_cases h1 : n < 0
  · have HV : Hid (lettN n = 0) := Lib.hid (if_pos (.inl h1))
    go_enter Try.func29, Try.ntmps29
    go_wp2
    go_ret
    exact ⟨by rw [HV.out]; rfl, rfl⟩
  · have d1 : decide (n < 0) = false := by simp; omega
    by_cases h2 : 576460752303423488 < n
    · have HV : Hid (lettN n = 0) := Lib.hid (if_pos (.inr h2))
      have d2 : decide (576460752303423488 < n) = true := by simp; omega
      go_enter Try.func29, Try.ntmps29
      go_wp2
      go_ret
      exact ⟨by rw [HV.out]; rfl, rfl⟩
    · have HV : Hid (lettN n = (n * 8 + 5) / 6) := Lib.hid (if_neg (by omega))
      have d2 : decide (576460752303423488 < n) = false := by simp; omega
      have e1 : IntKind.i64.wrap (n * 8) = n * 8 := by rw [IntKind.wrap_i64]; omega
      have e2 : IntKind.i64.wrap (n * 8 + 5) = n * 8 + 5 := by rw [IntKind.wrap_i64]; omega
      obtain ⟨q, hq⟩ : ∃ q, q = (n * 8 + 5) / 6 := ⟨_, rfl⟩
      have e3 : (n * 8 + 5).tdiv 6 = q := by rw [Int.tdiv_eq_ediv_of_nonneg (by omega), hq]
      have e5 : IntKind.i64.wrap q = q := by rw [IntKind.wrap_i64]; omega
      rw [← hq] at HV
      clear hq
      go_enter Try.func29, Try.ntmps29
      go_wp2
      go_ret
      exact ⟨by rw [HV.out]; rfl, rfl⟩

theorem total_any (A : Option Addr) (c : Nat) (ps : List ByteArray) (w : World) (hr : Reads w w.heap.size A (stv ps)) (hn : ps.length ≤ 1000000) (hs : (jn ps).length ≤ 140737488355328) :
    Calls Try.prog 30 #[.slice A ps.length c] w fun e w' => e = .returned (.int .i64 ((jn ps).length : Int)) ∧ w' = w := by
  have HR := Lib.hid hr
  clear hr
  go_enter Try.func30, Try.ntmps30
  go_wp2
  go_loopw [3, 8] (fun n i wr => ∃ k : Nat, k ≤ ps.length ∧ i = .int .i64 k ∧ n = .int .i64 ((jn (ps.take k)).length : Int) ∧ wr = w) (fun _ i _ => ps.length - (intOf i).toNat)
  case atStart => exact ⟨0, Nat.zero_le _, rfl, rfl, rfl⟩
  case round =>
    obtain ⟨k, hk, rfl, rfl, rfl⟩ := hrel
    by_cases hlt : k < ps.length
    · obtain ⟨b, off, rfl, hbB, hcell⟩ := HR.out k (by rw [stv_length]; exact hlt)
      rw [stv_at] at hcell
      have h1 := jn_take_le ps (k + 1)
      rw [jn_snoc ps k hlt, List.length_append, tl_length] at h1
      have Hsn : Hid ((jn (ps.take (k + 1))).length = (jn (ps.take k)).length + ps[k].size) := Lib.hid (by rw [jn_snoc ps k hlt, List.length_append, tl_length])
      generalize (jn (ps.take k)).length = J at *
      generalize ps[k] = s at *
      have i0 : (0 : Int) ≤ (k : Int) := by omega
      have i1 : (k : Int) < (ps.length : Int) := by omega
      go_wp2
      go_roundw
      case rel => exact ⟨k + 1, by omega, by go_num, by rw [Hsn.out]; go_num, by trivial⟩
      case measure => simp [intOf]; omega
    · obtain rfl : k = ps.length := by omega
      rw [List.take_length]
      go_wp2
      go_ret
      exact ⟨rfl, rfl⟩

/-- New of letters that are none -/
theorem new_size (s : ByteArray) (h : s.size ≠ 64) (w : World) : Calls Try.prog 25 #[.string s] w fun e w' => e = .returned (.tuple #[.pointer none, .int .i64 (lettE (tl s))]) ∧ w' = w := by
  have HV : Hid (lettE (tl s) = 9) := Lib.hid (if_neg (by rw [tl_length]; exact h))
  have d : ((s.size : Int) != 64) = true := by simp; omega
  go_enter Try.func25, Try.ntmps25
  go_wp2
  go_ret2
  exact ⟨by rw [HV.out]; rfl, rfl⟩
/-- what New answers: a coder, or why there is none -/
def NewIs (w : World) (L : List UInt8) (e : Ending) (w' : World) : Prop :=
  (lettE L ≠ 0 ∧ e = .returned (.tuple #[.pointer none, .int .i64 (lettE L)]) ∨ lettE L = 0 ∧ e = .returned (.tuple #[.pointer (some ⟨w.heap.size, 0, none⟩), .int .i64 (lettE L)]) ∧ Cdr w' w.heap.size L) ∧ Below w.heap.size w w'
set_option maxHeartbeats 3200000 in
theorem new_any (s : ByteArray) (w : World) : Calls Try.prog 25 #[.string s] w (NewIs w (tl s)) := by
  by_cases h : s.size = 64
  · have hl : (tl s).length = 64 := by rw [tl_length]; exact h
    have HV : Hid (lettE (tl s) = scan (tl s) 64) := Lib.hid (if_pos hl)
    have hz := zero_coder_run
    have HN := Lib.hid (Cdr.new w (tl s))
    have d : ((s.size : Int) != 64) = false := by simp; omega
    go_enter Try.func25, Try.ntmps25
    go_wp2
    generalize hW0 : World.alloc _ _ = w0
    have B0 : Hid (Below w.heap.size w w0) := Lib.hid (by subst hW0; exact (Below.refl _ _).alloc (Nat.le_refl _) _)
    have N0 : Hid (Cdr w0 w.heap.size ((tl s).take 0)) := Lib.hid (by subst hW0; exact HN.out)
    clear hW0 HN hz
    go_loopw [11] (fun v11 wr => ∃ k : Nat, k ≤ 64 ∧ v11 = .int .i64 (k : Int) ∧ Hid (scan (tl s) k = 0) ∧ Hid (Cdr wr w.heap.size ((tl s).take k) ∧ Below w.heap.size w wr)) (fun v11 _ => 64 - (intOf v11).toNat)
    case atStart => exact ⟨0, Nat.zero_le _, rfl, Lib.hid rfl, Lib.hid ⟨N0.out, B0.out⟩⟩
    case round =>
      clear N0 B0
      obtain ⟨k, hk, rfl, HS, HK⟩ := hrel
      by_cases hlt : k < 64
      · have hks : k < s.size := by omega
        obtain ⟨x, hx⟩ : ∃ x, x = s[k]'hks := ⟨_, rfl⟩
        have hat : ((s[k]'hks).toNat : Int) = (x.toNat : Int) := by rw [hx]
        have hxl : x = Sx.lt (tl s) k := by
          rw [hx]
          unfold Sx.lt
          rw [List.getD_eq_getElem?_getD, List.getElem?_eq_getElem (by rw [hl]; exact hlt)]; rfl
        have hxb := x.toNat_lt
        by_cases hr : x.toNat < 33 ∨ 126 < x.toNat
        · have HB : Hid (lettE (tl s) = 8 ∧ lettE (tl s) ≠ 0) := Lib.hid (by
            have hw : wrong (tl s) k = 8 := by unfold wrong; rw [if_pos (by rw [← hxl]; exact hr)]
            have : lettE (tl s) = 8 := by rw [HV.out, scan_wrong HS.out (by rw [hw]; decide) hlt, hw]
            exact ⟨this, by rw [this]; decide⟩)
          have HW := Lib.hid HK.out.2
          clear hxl hx HS HK HV
          generalize x.toNat = y at *
          rcases hr with hr | hr
          · have d1 : decide ((y : Int) < 33) = true := by simp; omega
            go_wp2
            go_ret2
            exact ⟨.inl ⟨HB.out.2, by rw [HB.out.1]; rfl⟩, HW.out⟩
          · have d1 : decide ((y : Int) < 33) = false := by simp; omega
            have d2 : decide ((126 : Int) < (y : Int)) = true := by simp; omega
            go_wp2
            go_ret2
            exact ⟨.inl ⟨HB.out.2, by rw [HB.out.1]; rfl⟩, HW.out⟩
        · have d1 : decide ((x.toNat : Int) < 33) = false := by simp; omega
          have d2 : decide ((126 : Int) < (x.toNat : Int)) = false := by simp; omega
          have hc := HK.out.1.val x
          by_cases hm : x ∈ (tl s).take k
          · have HB : Hid (lettE (tl s) = 15 ∧ lettE (tl s) ≠ 0) := Lib.hid (by
              have hw : wrong (tl s) k = 15 := by unfold wrong; rw [if_neg (by rw [← hxl]; exact hr), if_pos (by rw [← hxl]; exact hm)]
              have : lettE (tl s) = 15 := by rw [HV.out, scan_wrong HS.out (by rw [hw]; decide) hlt, hw]
              exact ⟨this, by rw [this]; decide⟩)
            have HW := Lib.hid HK.out.2
            obtain ⟨v, hv⟩ : ∃ v, v = pos ((tl s).take k) x := ⟨_, rfl⟩
            have hvv : vv ((tl s).take k) x = v + 1 := by rw [hv]; exact if_pos hm
            rw [hvv] at hc
            have d3 : (((v + 1 : Nat) : Int) != 0) = true := by simp; omega
            clear hxl hx HS HK HV hvv hm hr hv
            generalize x.toNat = y at *
            go_wp2
            go_ret2
            exact ⟨.inl ⟨HB.out.2, by rw [HB.out.1]; rfl⟩, HW.out⟩
          · have HS2 : Hid (scan (tl s) (k + 1) = 0) := Lib.hid (by
              rw [scan_next HS.out]
              unfold wrong
              rw [if_neg (by rw [← hxl]; exact hr), if_neg (by rw [← hxl]; exact hm)])
            have hvv : vv ((tl s).take k) x = 0 := if_neg hm
            rw [hvv, show ((0 : Nat) : Int) = 0 from rfl] at hc
            have hf := HK.out.1.free
            have hf2 : ∀ i, (wr.setCell ⟨w.heap.size, k, none⟩ (.int .u8 (x.toNat : Int))).frozen? ⟨w.heap.size, i, none⟩ = false := fun i => RowAt.frozen (RowAt.setCell HK.out.1 k _) i
            have hc2 : (wr.setCell ⟨w.heap.size, k, none⟩ (.int .u8 (x.toNat : Int))).cell? ⟨w.heap.size, 64 + x.toNat, none⟩ = some (.int .u8 0) := by
              rw [RowAt.cell (RowAt.setCell HK.out.1 k _), Array.getElem?_setIfInBounds_ne (by omega), ← RowAt.cell HK.out.1]; exact hc
            have hc1 := HK.out.1.lett k hlt
            have HNX := Lib.hid (HK.out.1.next (l := tl s) (by rw [hl]; exact hlt) hl (by rw [← hxl]; exact hm))
            rw [← hxl] at HNX
            have HW := Lib.hid HK.out.2
            have e1 : IntKind.u8.wrap ((k : Int) + 1) = ((k + 1 : Nat) : Int) := by rw [IntKind.wrap_u8]; omega
            clear hxl hx HS HK HV hvv hm hr
            generalize x.toNat = y at *
            go_wp2
            go_roundw
            case rel => exact ⟨k + 1, by omega, by go_num, HS2, Lib.hid ⟨HNX.out, (HW.out.setCell (p := ⟨w.heap.size, k, none⟩) (Nat.le_refl _) _).setCell (p := ⟨w.heap.size, 64 + y, none⟩) (Nat.le_refl _) _⟩⟩
            case measure => simp [intOf]; omega
      · obtain rfl : k = 64 := by omega
        have HE : Hid (lettE (tl s) = 0) := Lib.hid (by rw [HV.out]; exact HS.out)
        have HC : Hid (Cdr wr w.heap.size (tl s)) := Lib.hid (by
          have := HK.out.1
          rwa [List.take_of_length_le (by omega)] at this)
        have HW := Lib.hid HK.out.2
        clear HV HS HK
        go_wp2
        go_ret2
        exact ⟨.inr ⟨HE.out, by rw [HE.out]; rfl, HC.out⟩, HW.out⟩
  · have HV : Hid (lettE (tl s) = 9) := Lib.hid (if_neg (by rw [tl_length]; exact h))
    refine (new_size s h w).mono ?_
    rintro e w' ⟨rfl, rfl⟩
    exact ⟨.inl ⟨by rw [HV.out]; decide, rfl⟩, Below.refl _ _⟩
end Go.Proofs.Ytccpcjbffibkkaa

namespace Go.Proofs.Ytccpcjbffibkkaa
set_option maxRecDepth 50000
open Go.RowKit Sx
/-- the lowest 32 bits -/
def lo (v : Nat) : Nat := v % 4294967296
theorem lo_lt (v : Nat) : lo v < 4294967296 := Nat.mod_lt _ (by decide)
theorem lo_shl (v k : Nat) : lo v * 2 ^ k % 4294967296 = lo (v * 2 ^ k) := by unfold lo; rw [Nat.mod_mul_mod]
/-- so many bits more -/
theorem lo_or8 (v x : Nat) (hx : x < 256) : bits .or .u32 ((lo (v * 256) : Nat) : Int) (x : Int) = ((lo (v * 256 + x) : Nat) : Int) := by
  have e : lo (v * 256) = 256 * (v % 16777216) := by unfold lo; omega
  have e2 : lo (v * 256 + x) = 256 * (v % 16777216) + x := by unfold lo; omega
  rw [u32_or_nat _ _ (lo_lt _) (by omega), e, show (256 : Nat) * (v % 16777216) = 2 ^ 8 * (v % 16777216) from rfl, ← Nat.two_pow_add_eq_or_of_lt (show x < 2 ^ 8 from hx), e2]
theorem lo_or6 (v x : Nat) (hx : x < 64) : bits .or .u32 ((lo (v * 64) : Nat) : Int) (x : Int) = ((lo (v * 64 + x) : Nat) : Int) := by
  have e : lo (v * 64) = 64 * (v % 67108864) := by unfold lo; omega
  have e2 : lo (v * 64 + x) = 64 * (v % 67108864) + x := by unfold lo; omega
  rw [u32_or_nat _ _ (lo_lt _) (by omega), e, show (64 : Nat) * (v % 67108864) = 2 ^ 6 * (v % 67108864) from rfl, ← Nat.two_pow_add_eq_or_of_lt (show x < 2 ^ 6 from hx), e2]
/-- bits from a place on -/
theorem lo_div (v k m : Nat) (h : k + m ≤ 32) : lo v / 2 ^ k % 2 ^ m = v / 2 ^ k % 2 ^ m := by
  have e : (4294967296 : Nat) = 2 ^ k * (2 ^ m * 2 ^ (32 - k - m)) := by rw [← Nat.pow_add, ← Nat.pow_add, show k + (m + (32 - k - m)) = 32 by omega]
  unfold lo
  rw [e, Nat.mod_mul_right_div_self, Nat.mod_mul_right_mod]
end Go.Proofs.Ytccpcjbffibkkaa
