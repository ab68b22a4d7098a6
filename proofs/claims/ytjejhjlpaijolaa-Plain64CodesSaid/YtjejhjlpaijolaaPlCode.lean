/- What a code of texts of some lengths writes and reads (pure), and New, Write, Read and Bounds of package plain64 by their contracts. Conditions: those typed. -/
import Derived.Test.YtjejhjlpaijolaaSxAwake
import Derived.Test.YtjejhjlpaijolaaSxLetters
namespace Go.Proofs.Ytjejhjlpaijolaa
set_option maxRecDepth 50000
open Go.RowKit Sx

/-- what Write answers of a text of n bytes, as a number -/
def wrE (m M n : Nat) : Int := if n < m ∨ M < n then 9 else 0
def wrL (m M : Nat) (s : ByteArray) : ByteArray := if s.size < m ∨ M < s.size then ⟨#[]⟩ else tx (enc (tl plainS) (tl s))
/-- what Read answers, as a number -/
def rdE (m M : Nat) (s : ByteArray) : Int := if ne M < s.size then 9 else if decE (tl plainS) (tl s) ≠ 0 then decE (tl plainS) (tl s) else if (decL (tl plainS) (tl s)).length < m then 9 else 0
def rdL (m M : Nat) (s : ByteArray) : ByteArray := if rdE m M s = 0 then tx (decL (tl plainS) (tl s)) else ⟨#[]⟩

theorem wr_bad {m M : Nat} {s : ByteArray} (h : s.size < m ∨ M < s.size) : wrE m M s.size = 9 ∧ wrL m M s = ⟨#[]⟩ := ⟨if_pos h, if_pos h⟩
theorem wr_good {m M : Nat} {s : ByteArray} (h1 : m ≤ s.size) (h2 : s.size ≤ M) : wrE m M s.size = 0 ∧ wrL m M s = tx (enc (tl plainS) (tl s)) := ⟨if_neg (by omega), if_neg (by omega)⟩
theorem rd_long {m M : Nat} {s : ByteArray} (h : ne M < s.size) : rdE m M s = 9 ∧ rdL m M s = ⟨#[]⟩ := by
  have h1 : rdE m M s = 9 := if_pos h
  exact ⟨h1, if_neg (by rw [h1]; decide)⟩
theorem rd_wrong {m M : Nat} {s : ByteArray} (h : s.size ≤ ne M) (hx : decE (tl plainS) (tl s) ≠ 0) : rdE m M s = decE (tl plainS) (tl s) ∧ rdL m M s = ⟨#[]⟩ := by
  have h1 : rdE m M s = decE (tl plainS) (tl s) := by unfold rdE; rw [if_neg (by omega), if_pos hx]
  exact ⟨h1, if_neg (by rw [h1]; exact hx)⟩
theorem rd_short {m M : Nat} {s : ByteArray} (h : s.size ≤ ne M) (hx : decE (tl plainS) (tl s) = 0) (hl : (decL (tl plainS) (tl s)).length < m) : rdE m M s = 9 ∧ rdL m M s = ⟨#[]⟩ := by
  have h1 : rdE m M s = 9 := by unfold rdE; rw [if_neg (by omega), if_neg (by simpa using hx), if_pos hl]
  exact ⟨h1, if_neg (by rw [h1]; decide)⟩
theorem rd_good {m M : Nat} {s : ByteArray} (h : s.size ≤ ne M) (hx : decE (tl plainS) (tl s) = 0) (hl : m ≤ (decL (tl plainS) (tl s)).length) : rdE m M s = 0 ∧ rdL m M s = tx (decL (tl plainS) (tl s)) := by
  have h1 : rdE m M s = 0 := by unfold rdE; rw [if_neg (by omega), if_neg (by simpa using hx), if_neg (by omega)]
  exact ⟨h1, if_pos h1⟩
theorem ne_le {a b : Nat} (h : a ≤ b) : ne a ≤ ne b := by unfold ne; omega
/-- what is written is read -/
theorem wr_rd {m M : Nat} {s : ByteArray} (h : wrE m M s.size = 0) : rdE m M (wrL m M s) = 0 ∧ rdL m M (wrL m M s) = s ∧ m ≤ s.size ∧ s.size ≤ M := by
  have hb : ¬ (s.size < m ∨ M < s.size) := fun hb => by rw [(wr_bad hb).1] at h; simp at h
  have h1 : m ≤ s.size := by omega
  have h2 : s.size ≤ M := by omega
  obtain ⟨e1, e2⟩ := enc_dec plain_fine (tl s)
  rw [(wr_good h1 h2).2]
  have hz : (tx (enc (tl plainS) (tl s))).size ≤ ne M := by rw [tx_size, enc_length, tl_length]; exact ne_le h2
  have hg : rdE m M (tx (enc (tl plainS) (tl s))) = 0 ∧ _ := rd_good hz (by rw [tl_tx]; exact e1) (by rw [tl_tx, e2, tl_length]; exact h1)
  refine ⟨hg.1, ?_, h1, h2⟩
  rw [hg.2, tl_tx, e2, tx_tl]
/-- what is read is written just so -/
theorem rd_wr {m M : Nat} {s : ByteArray} (h : rdE m M s = 0) : wrE m M (rdL m M s).size = 0 ∧ wrL m M (rdL m M s) = s := by
  have h1 : s.size ≤ ne M := by
    rcases Nat.lt_or_ge (ne M) s.size with h1 | h1
    · rw [(rd_long h1).1] at h; simp at h
    · exact h1
  have h2 : decE (tl plainS) (tl s) = 0 := by
    rcases Classical.em (decE (tl plainS) (tl s) = 0) with h2 | h2
    · exact h2
    · rw [(rd_wrong h1 h2).1] at h; exact absurd h h2
  have h3 : m ≤ (decL (tl plainS) (tl s)).length := by
    rcases Nat.lt_or_ge (decL (tl plainS) (tl s)).length m with h3 | h3
    · rw [(rd_short h1 h2 h3).1] at h; simp at h
    · exact h3
  have h4 : (decL (tl plainS) (tl s)).length ≤ M := by
    rw [decL_good h2, dec_length, plc_length, tl_length]
    have := (ne_facts M).1
    omega
  rw [(rd_good h1 h2 h3).2]
  have hz : (tx (decL (tl plainS) (tl s))).size = (decL (tl plainS) (tl s)).length := tx_size _
  obtain ⟨g1, g2⟩ := wr_good (m := m) (M := M) (s := tx (decL (tl plainS) (tl s))) (by omega) (by omega)
  exact ⟨g1, by rw [g2, tl_tx, read_write plain_fine h2, tx_tl]⟩

/-- a code of texts of from m to M bytes at block d, its coder at block b -/
structure CodeRow (w : World) (d b m M : Nat) : Prop where
  row : RowAt w d 39 #[.pointer (some ⟨b, 0, none⟩), .int .i64 m, .int .i64 M]
  cod : Cdr w b (tl plainS)
theorem CodeRow.below {w w' : World} {d b m M : Nat} (h : CodeRow w d b m M) (hb : Below w.heap.size w w') : CodeRow w' d b m M := ⟨h.row.below hb h.row.lt, h.cod.below hb h.cod.lt⟩

theorem pnew_bad (m M : Int) (h : m < 0 ∨ M < m ∨ 65536 < M) (w : World) : Calls Try.prog 6 #[.int .i64 m, .int .i64 M] w fun e w' => e = .returned (.tuple #[.pointer none, .int .i64 1]) ∧ Below w.heap.size w w' := by
  have hh : decide (m < 0) = true ∨ decide (m < 0) = false ∧ decide (M < m) = true ∨ decide (m < 0) = false ∧ decide (M < m) = false ∧ decide (65536 < M) = true := by simp; omega
  rcases hh with d1 | ⟨d1, d2⟩ | ⟨d1, d2, d3⟩
  all_goals
    go_enter Try.func6, Try.ntmps6
    go_wp2
    go_ret2
    exact ⟨rfl, Below.refl _ _⟩

set_option maxHeartbeats 800000 in
theorem pnew_good (m M : Nat) (h1 : m ≤ M) (h2 : M ≤ 65536) (w : World) : Calls Try.prog 6 #[.int .i64 m, .int .i64 M] w fun e w' => (∃ d b, e = .returned (.tuple #[.pointer (some ⟨d, 0, none⟩), .int .i64 0]) ∧ CodeRow w' d b m M) ∧ Below w.heap.size w w' := by
  have d1 : decide ((m : Int) < 0) = false := by simp
  have d2 : decide ((M : Int) < (m : Int)) = false := by simp; omega
  have d3 : decide ((65536 : Int) < (M : Int)) = false := by simp; omega
  have d4 : decide (M < m) = false := by simp; omega
  have d5 : decide (65536 < M) = false := by simp; omega
  have CN := Lib.hid (new_good plainS plain_good)
  go_enter Try.func6, Try.ntmps6
  go_wp2_with fail
  refine (CN.out w).mono ?_
  rintro e w1 ⟨rfl, hC, hb⟩
  have HC := Lib.hid hC
  have B1 := Lib.hid hb
  clear hC hb
  go_wp2
  go_ret2
  exact ⟨⟨_, _, rfl, RowAt.new _ _ _, HC.out.alloc _⟩, B1.out.alloc B1.out.size _⟩

theorem pwrite_nil (s : ByteArray) (w : World) : Calls Try.prog 7 #[.pointer none, .string s] w fun e w' => e = .returned (.tuple #[.string ⟨#[]⟩, .int .i64 11]) ∧ w' = w := by
  go_enter Try.func7, Try.ntmps7
  go_wp2
  go_ret2
  exact ⟨rfl, rfl⟩
theorem pread_nil (s : ByteArray) (w : World) : Calls Try.prog 9 #[.pointer none, .string s] w fun e w' => e = .returned (.tuple #[.string ⟨#[]⟩, .int .i64 11]) ∧ w' = w := by
  go_enter Try.func9, Try.ntmps9
  go_wp2
  go_ret2
  exact ⟨rfl, rfl⟩
theorem pbounds_nil (w : World) : Calls Try.prog 11 #[.pointer none] w fun e w' => e = .returned (.tuple #[.int .i64 0, .int .i64 0]) ∧ w' = w := by
  go_enter Try.func11, Try.ntmps11
  go_wp2
  go_ret2
  exact ⟨rfl, rfl⟩

set_option maxHeartbeats 800000 in
theorem pwrite_any (d b m M : Nat) (s : ByteArray) (w : World) (hC : CodeRow w d b m M) (hM : M ≤ 65536) :
    Calls Try.prog 7 #[.pointer (some ⟨d, 0, none⟩), .string s] w fun e w' => e = .returned (.tuple #[.string (wrL m M s), .int .i64 (wrE m M s.size)]) ∧ Below w.heap.size w w' := by
  have c0 := hC.row.cell 0
  have c1 := hC.row.cell 1
  have c2 := hC.row.cell 2
  simp only [List.getElem?_toArray, List.getElem?_cons_zero, List.getElem?_cons_succ] at c0 c1 c2
  have HC := Lib.hid hC
  clear hC
  by_cases hb : s.size < m ∨ M < s.size
  · obtain ⟨hE, hL⟩ := wr_bad hb
    have HE := Lib.hid hE
    have HL := Lib.hid hL
    have hh : (decide (s.size < m) = true ∧ s.size < m) ∨ (decide (s.size < m) = false ∧ m ≤ s.size) ∧ (decide (M < s.size) = true ∧ M < s.size) := by simp; omega
    clear hE hL hb
    rcases hh with ⟨d1, g1⟩ | ⟨⟨d1, g1⟩, d2, g2⟩
    all_goals
      go_enter Try.func7, Try.ntmps7
      go_wp2
      go_ret2
      exact ⟨by rw [HE.out, HL.out]; rfl, Below.refl _ _⟩
  · obtain ⟨hE, hL⟩ := wr_good (m := m) (M := M) (s := s) (by omega) (by omega)
    have HE := Lib.hid hE
    have HL := Lib.hid hL
    have g1 : m ≤ s.size := by omega
    have g2 : s.size ≤ M := by omega
    have d1 : decide (s.size < m) = false := by simp; omega
    have d2 : decide (M < s.size) = false := by simp; omega
    have CE := Lib.hid (fun hC => encode_one b (tl plainS) s w hC (by omega))
    clear hE hL hb
    go_enter Try.func7, Try.ntmps7
    go_wp2_with fail
    refine (CE.out HC.out.cod).mono ?_
    rintro e w1 ⟨rfl, hb⟩
    have B1 := Lib.hid hb
    clear hb
    go_wp2
    go_ret2
    exact ⟨by rw [HE.out, HL.out]; rfl, B1.out⟩
end Go.Proofs.Ytjejhjlpaijolaa
