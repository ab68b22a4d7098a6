/- What a salt and a sum are joined and parted as (pure): bcrypt's letters. Conditions: those typed. -/
import Derived.Test.YtjknpbaegnkdnaaSxAwake
import Derived.Test.YtjknpbaegnkdnaaSxLetters
namespace Go.Proofs.Ytjknpbaegnkdnaa
set_option maxRecDepth 50000
open Go.RowKit Sx

def cryptS : ByteArray := ⟨#[46, 47, 65, 66, 67, 68, 69, 70, 71, 72, 73, 74, 75, 76, 77, 78, 79, 80, 81, 82, 83, 84, 85, 86, 87, 88, 89, 90, 97, 98, 99, 100, 101, 102, 103, 104, 105, 106, 107, 108, 109, 110, 111, 112, 113, 114, 115, 116, 117, 118, 119, 120, 121, 122, 48, 49, 50, 51, 52, 53, 54, 55, 56, 57]⟩
theorem crypt_good : lettE (tl cryptS) = 0 := by decide +kernel
theorem crypt_fine : Fine (tl cryptS) := lettE_fine crypt_good
theorem crypt_size : cryptS.size = 64 := by decide +kernel

/-- what Join answers, as a number and as a text -/
def jnE (s t : ByteArray) : Int := if s.size = 16 ∧ t.size = 23 then 0 else 9
def jnL (s t : ByteArray) : ByteArray := if s.size = 16 ∧ t.size = 23 then tx (enc (tl cryptS) (tl s)) ++ tx (enc (tl cryptS) (tl t)) else ⟨#[]⟩
/-- the first 22 letters, the others -/
def hdS (s : ByteArray) : ByteArray := s.extract 0 22
def tlS (s : ByteArray) : ByteArray := s.extract 22 s.size
def ptE (s : ByteArray) : Int := if s.size ≠ 53 then 9 else if decE (tl cryptS) (tl (hdS s)) ≠ 0 then decE (tl cryptS) (tl (hdS s)) else decE (tl cryptS) (tl (tlS s))
def ptA (s : ByteArray) : ByteArray := if ptE s = 0 then tx (decL (tl cryptS) (tl (hdS s))) else ⟨#[]⟩
def ptB (s : ByteArray) : ByteArray := if ptE s = 0 then tx (decL (tl cryptS) (tl (tlS s))) else ⟨#[]⟩

theorem jn_bad {s t : ByteArray} (h : ¬ (s.size = 16 ∧ t.size = 23)) : jnE s t = 9 ∧ jnL s t = ⟨#[]⟩ := ⟨if_neg h, if_neg h⟩
theorem jn_good {s t : ByteArray} (h1 : s.size = 16) (h2 : t.size = 23) : jnE s t = 0 ∧ jnL s t = tx (enc (tl cryptS) (tl s)) ++ tx (enc (tl cryptS) (tl t)) := ⟨if_pos ⟨h1, h2⟩, if_pos ⟨h1, h2⟩⟩
theorem pt_none {s : ByteArray} (h : ptE s ≠ 0) : ptA s = ⟨#[]⟩ ∧ ptB s = ⟨#[]⟩ := ⟨if_neg h, if_neg h⟩
theorem pt_size {s : ByteArray} (h : s.size ≠ 53) : ptE s = 9 ∧ ptA s = ⟨#[]⟩ ∧ ptB s = ⟨#[]⟩ := by
  have h1 : ptE s = 9 := if_pos h
  exact ⟨h1, pt_none (by rw [h1]; decide)⟩
theorem pt_first {s : ByteArray} (h : s.size = 53) (hx : decE (tl cryptS) (tl (hdS s)) ≠ 0) : ptE s = decE (tl cryptS) (tl (hdS s)) ∧ ptA s = ⟨#[]⟩ ∧ ptB s = ⟨#[]⟩ := by
  have h1 : ptE s = decE (tl cryptS) (tl (hdS s)) := by unfold ptE; rw [if_neg (by omega), if_pos hx]
  exact ⟨h1, pt_none (by rw [h1]; exact hx)⟩
theorem pt_both {s : ByteArray} (h : s.size = 53) (hx : decE (tl cryptS) (tl (hdS s)) = 0) : ptE s = decE (tl cryptS) (tl (tlS s)) := by
  unfold ptE; rw [if_neg (by omega), if_neg (by simpa using hx)]
theorem pt_second {s : ByteArray} (h : s.size = 53) (hx : decE (tl cryptS) (tl (hdS s)) = 0) (hy : decE (tl cryptS) (tl (tlS s)) ≠ 0) : ptE s = decE (tl cryptS) (tl (tlS s)) ∧ ptA s = ⟨#[]⟩ ∧ ptB s = ⟨#[]⟩ := by
  have h1 := pt_both h hx
  exact ⟨h1, pt_none (by rw [h1]; exact hy)⟩
theorem pt_good {s : ByteArray} (h : s.size = 53) (hx : decE (tl cryptS) (tl (hdS s)) = 0) (hy : decE (tl cryptS) (tl (tlS s)) = 0) : ptE s = 0 ∧ ptA s = tx (decL (tl cryptS) (tl (hdS s))) ∧ ptB s = tx (decL (tl cryptS) (tl (tlS s))) := by
  have h1 : ptE s = 0 := by rw [pt_both h hx, hy]
  exact ⟨h1, if_pos h1, if_pos h1⟩

theorem tl_extract (s : ByteArray) (i j : Nat) : tl (s.extract i j) = ((tl s).drop i).take (j - i) := by
  unfold tl
  rw [ByteArray.data_extract, Array.toList_extract, List.extract_eq_take_drop]
theorem tl_append (a b : ByteArray) : tl (a ++ b) = tl a ++ tl b := by rw [← tx_tl a, ← tx_tl b, ← tx_append, tl_tx, tl_tx, tl_tx]
theorem hd_tl (s : ByteArray) : tl (hdS s) ++ tl (tlS s) = tl s := by
  unfold hdS tlS
  rw [tl_extract, tl_extract, List.drop_zero, Nat.sub_zero, ← tl_length s, ← List.length_drop, List.take_length, List.take_append_drop]
theorem hd_size {s : ByteArray} (h : s.size = 53) : (tl (hdS s)).length = 22 := by unfold hdS; rw [tl_extract, List.length_take, List.length_drop, tl_length]; omega
theorem tl_size {s : ByteArray} (h : s.size = 53) : (tl (tlS s)).length = 31 := by unfold tlS; rw [tl_extract, List.length_take, List.length_drop, tl_length]; omega
theorem hd_append {a b : ByteArray} (h : a.size = 22) : hdS (a ++ b) = a ∧ tlS (a ++ b) = b := by
  have ha : (tl a).length = 22 := by rw [tl_length]; exact h
  constructor
  · apply tl_inj
    unfold hdS
    rw [tl_extract, tl_append, List.drop_zero, List.take_left' (by omega)]
  · apply tl_inj
    unfold tlS
    have hs : (a ++ b).size = 22 + (tl b).length := by rw [← tl_length, tl_append, List.length_append, ha]
    rw [tl_extract, tl_append, List.drop_left' ha, hs, Nat.add_sub_cancel_left, List.take_length]

/-- what is joined is parted -/
theorem jn_pt {s t : ByteArray} (h : jnE s t = 0) : ptE (jnL s t) = 0 ∧ ptA (jnL s t) = s ∧ ptB (jnL s t) = t ∧ (jnL s t).size = 53 := by
  have hg : s.size = 16 ∧ t.size = 23 := by
    rcases Classical.em (s.size = 16 ∧ t.size = 23) with h1 | h1
    · exact h1
    · rw [(jn_bad h1).1] at h; simp at h
  rw [(jn_good hg.1 hg.2).2]
  have z1 : (tx (enc (tl cryptS) (tl s))).size = 22 := by rw [tx_size, enc_length, tl_length, hg.1]; rfl
  have z2 : (tx (enc (tl cryptS) (tl t))).size = 31 := by rw [tx_size, enc_length, tl_length, hg.2]; rfl
  obtain ⟨e1, e2⟩ := enc_dec crypt_fine (tl s)
  obtain ⟨e3, e4⟩ := enc_dec crypt_fine (tl t)
  obtain ⟨c1, c2⟩ := hd_append (a := tx (enc (tl cryptS) (tl s))) (b := tx (enc (tl cryptS) (tl t))) z1
  have hz : (tx (enc (tl cryptS) (tl s)) ++ tx (enc (tl cryptS) (tl t))).size = 53 := by rw [ByteArray.size_append, z1, z2]
  obtain ⟨g1, g2, g3⟩ := pt_good hz (by rw [c1, tl_tx]; exact e1) (by rw [c2, tl_tx]; exact e3)
  refine ⟨g1, ?_, ?_, hz⟩
  · rw [g2, c1, tl_tx, e2, tx_tl]
  · rw [g3, c2, tl_tx, e4, tx_tl]
/-- what is parted was joined just so -/
theorem pt_jn {s : ByteArray} (h : ptE s = 0) : jnE (ptA s) (ptB s) = 0 ∧ jnL (ptA s) (ptB s) = s := by
  have h1 : s.size = 53 := by
    rcases Classical.em (s.size = 53) with h1 | h1
    · exact h1
    · rw [(pt_size h1).1] at h; simp at h
  have h2 : decE (tl cryptS) (tl (hdS s)) = 0 := by
    rcases Classical.em (decE (tl cryptS) (tl (hdS s)) = 0) with h2 | h2
    · exact h2
    · rw [(pt_first h1 h2).1] at h; exact absurd h h2
  have h3 : decE (tl cryptS) (tl (tlS s)) = 0 := by rw [← pt_both h1 h2]; exact h
  obtain ⟨_, g2, g3⟩ := pt_good h1 h2 h3
  have z1 : (ptA s).size = 16 := by rw [g2, tx_size, decL_good h2, dec_length, plc_length, hd_size h1]
  have z2 : (ptB s).size = 23 := by rw [g3, tx_size, decL_good h3, dec_length, plc_length, tl_size h1]
  obtain ⟨j1, j2⟩ := jn_good z1 z2
  refine ⟨j1, ?_⟩
  rw [j2, g2, g3, tl_tx, tl_tx, read_write crypt_fine h2, read_write crypt_fine h3, ← tx_append, hd_tl, tx_tl]
end Go.Proofs.Ytjknpbaegnkdnaa
