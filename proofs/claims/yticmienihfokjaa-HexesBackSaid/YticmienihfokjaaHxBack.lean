/- The law HexesBack by the calls' contracts. Condition: no text is longer than what may come in. -/
import Derived.Test.YticmienihfokjaaHxReads
namespace Go.Proofs.Yticmienihfokjaa
set_option maxRecDepth 50000
open Go.RowKit Hx

theorem tx_there (s : ByteArray) : decE (tx (enc (tl s))) = 0 ∧ tx (decL (tx (enc (tl s)))) = s := by
  obtain ⟨h1, h2⟩ := there (tl s)
  exact ⟨h1, by rw [h2, tx_tl]⟩
theorem tx_dash (s : ByteArray) : undE (tx (dashL (tl s))) = 0 ∧ tx (undL (tx (dashL (tl s)))) = s := by
  obtain ⟨h1, h2⟩ := dash_there (tl s)
  exact ⟨h1, by rw [h2, tx_tl]⟩
theorem dashL_length (l : List UInt8) : (dashL l).length ≤ 2 * l.length + 1 := by
  unfold dashL; split
  · simp
  · rw [enc_length]; omega
theorem undL_length (s : ByteArray) : (undL s).length ≤ s.size := by
  unfold undL
  split
  · simp
  · split
    · simp
    · have := decL_length s; omega

set_option maxHeartbeats 3200000 in
theorem back_any (s t : ByteArray) (hs : s.size ≤ 140737488351232) (ht : t.size ≤ 140737488351232) (w : World) :
    Calls Try.prog 5 #[.string s, .string t] w fun e w' => e = .returned (.bool true) ∧ Below w.heap.size w w' := by
  have CA := Lib.hid awake_any
  have C1 := Lib.hid (encode_one s (by omega))
  have C2 := Lib.hid (decode_any (tx (enc (tl s))) (by rw [tx_size, enc_length, tl_length]; omega))
  have C3 := Lib.hid (dash_any s (by omega))
  have C4 := Lib.hid (undash_any (tx (dashL (tl s))) (by have := dashL_length (tl s); rw [tl_length] at this; rw [tx_size]; omega))
  rw [(tx_there s).1, (tx_there s).2] at C2
  rw [(tx_dash s).1, (tx_dash s).2] at C4
  have C5 := Lib.hid (decode_any t (by omega))
  have C6 := Lib.hid (undash_any t (by omega))
  have C7 := Lib.hid (encode_one (tx (decL t)) (by have := decL_length t; rw [tx_size]; omega))
  have C8 := Lib.hid (dash_any (tx (undL t)) (by have := undL_length t; rw [tx_size]; omega))
  rw [tl_tx] at C7 C8
  have H7 : Hid (decE t = 0 → tx (enc (decL t)) = t) := Lib.hid fun h => by rw [back h, tx_tl]
  have H8 : Hid (undE t = 0 → tx (dashL (undL t)) = t) := Lib.hid fun h => by rw [dash_back h, tx_tl]
  have s1 := same_text s
  have s2 := same_text t
  generalize tx (enc (tl s)) = S1 at *
  generalize tx (dashL (tl s)) = S2 at *
  generalize tx (enc (decL t)) = T1 at *
  generalize tx (dashL (undL t)) = T2 at *
  generalize tx (decL t) = D at *
  generalize tx (undL t) = U at *
  generalize decE t = x at *
  generalize undE t = y at *
  have hx : (x = 0 ∧ (x == 0) = true ∧ (x != 0) = false) ∨ ((x == 0) = false ∧ (x != 0) = true) := by
    by_cases h : x = 0
    · exact .inl ⟨h, by simp [h], by simp [h]⟩
    · exact .inr ⟨by simp [h], by simp [h]⟩
  have hy : (y = 0 ∧ (y == 0) = true ∧ (y != 0) = false) ∨ ((y == 0) = false ∧ (y != 0) = true) := by
    by_cases h : y = 0
    · exact .inl ⟨h, by simp [h], by simp [h]⟩
    · exact .inr ⟨by simp [h], by simp [h]⟩
  rcases hx with ⟨rfl, x1, x2⟩ | ⟨x1, x2⟩ <;> rcases hy with ⟨rfl, y1, y2⟩ | ⟨y1, y2⟩
  case' inl.inl => rw [H7.out rfl] at C7; rw [H8.out rfl] at C8
  case' inl.inr => rw [H7.out rfl] at C7
  case' inr.inl => rw [H8.out rfl] at C8
  all_goals
    clear H7 H8
    go_enter Try.func5, Try.ntmps5
    go_wp2_with fail
    refine (CA.out _).mono ?_
    rintro e w1 ⟨rfl, hb⟩
    have B1 := Lib.hid hb
    clear hb
    go_wp2_with fail
    refine (C1.out _).mono ?_
    rintro e w2 ⟨rfl, hb⟩
    have B2 := Lib.hid (below_step B1.out hb)
    clear hb
    go_wp2_with fail
    refine (C2.out _).mono ?_
    rintro e w3 ⟨rfl, hb⟩
    have B3 := Lib.hid (below_step B2.out hb)
    clear hb
    go_wp2_with fail
    refine (C3.out _).mono ?_
    rintro e w4 ⟨rfl, hb⟩
    have B4 := Lib.hid (below_step B3.out hb)
    clear hb
    go_wp2_with fail
    refine (C4.out _).mono ?_
    rintro e w5 ⟨rfl, hb⟩
    have B5 := Lib.hid (below_step B4.out hb)
    clear hb
    go_wp2_with fail
    refine (C5.out _).mono ?_
    rintro e w6 ⟨rfl, hb⟩
    have B6 := Lib.hid (below_step B5.out hb)
    clear hb
    go_wp2_with fail
    refine (C6.out _).mono ?_
    rintro e w7 ⟨rfl, hb⟩
    have B7 := Lib.hid (below_step B6.out hb)
    clear hb
  all_goals
    first
    | (go_wp2_with fail
       refine (C7.out _).mono ?_
       rintro e w8 ⟨rfl, hb⟩
       have B8 := Lib.hid (below_step B7.out hb)
       clear hb
       go_wp2_with fail
       refine (C8.out _).mono ?_
       rintro e w9 ⟨rfl, hb⟩
       have B9 := Lib.hid (below_step B8.out hb)
       clear hb
       go_wp2
       go_ret
       exact ⟨rfl, B9.out⟩)
    | (go_wp2_with fail
       refine (C7.out _).mono ?_
       rintro e w9 ⟨rfl, hb⟩
       have B9 := Lib.hid (below_step B7.out hb)
       clear hb
       go_wp2
       go_ret
       exact ⟨rfl, B9.out⟩)
    | (go_wp2_with fail
       refine (C8.out _).mono ?_
       rintro e w9 ⟨rfl, hb⟩
       have B9 := Lib.hid (below_step B7.out hb)
       clear hb
       go_wp2
       go_ret
       exact ⟨rfl, B9.out⟩)
    | (go_wp2
       go_ret
       exact ⟨rfl, B7.out⟩)
end Go.Proofs.Yticmienihfokjaa
