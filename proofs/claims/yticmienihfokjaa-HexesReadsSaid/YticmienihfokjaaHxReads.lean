/- The law HexesReads by the calls' contracts. Condition: the text is no longer than what may come in. -/
import Derived.Test.YticmienihfokjaaHxDash
namespace Go.Proofs.Yticmienihfokjaa
set_option maxRecDepth 50000
open Go.RowKit Hx

theorem same_text (s : ByteArray) : (s.toList == s.toList) = true := by simp
set_option maxHeartbeats 1600000 in
theorem reads_any (s : ByteArray) (hs : s.size ≤ 140737488351232) (w : World) :
    Calls Try.prog 3 #[.string s] w fun e w' => e = .returned (.bool true) ∧ Below w.heap.size w w' := by
  have CA := Lib.hid awake_any
  by_cases hl : s.size ≤ 500
  · have hd : decide ((500 : Int) < (s.size : Int)) = false := by simp; omega
    have C1 := Lib.hid (decode_any s (by omega))
    have C2 := Lib.hid (rdecode_any s (by omega))
    have C3 := Lib.hid (undash_any s (by omega))
    have C4 := Lib.hid (rundash_any s (by omega))
    generalize tx (decL s) = D at *
    generalize tx (undL s) = U at *
    generalize decE s = x at *
    generalize undE s = y at *
    have s1 := same_text D
    have s2 := same_text U
    have x1 : (x == x) = true := by simp
    have y1 : (y == y) = true := by simp
    go_enter Try.func3, Try.ntmps3
    go_wp2_with fail
    refine (CA.out _).mono ?_
    rintro e w1 ⟨rfl, hb⟩
    have B1 := Lib.hid hb
    clear hb
    go_wp2_with fail
    refine (C1.out _).mono ?_
    rintro e w2 ⟨rfl, hb⟩
    have B2 := Lib.hid (below_step B1.out hb)
    clear hb
    go_wp2_with fail
    refine (C2.out _).mono ?_
    rintro e w3 ⟨rfl, hb⟩
    have B3 := Lib.hid (below_step B2.out hb)
    clear hb
    go_wp2_with fail
    refine (C3.out _).mono ?_
    rintro e w4 ⟨rfl, hb⟩
    have B4 := Lib.hid (below_step B3.out hb)
    clear hb
    go_wp2_with fail
    refine (C4.out _).mono ?_
    rintro e w5 ⟨rfl, hb⟩
    have B5 := Lib.hid (below_step B4.out hb)
    clear hb
    go_wp2
    go_ret
    exact ⟨rfl, B5.out⟩
  · have hd : decide ((500 : Int) < (s.size : Int)) = true := by simp; omega
    go_enter Try.func3, Try.ntmps3
    go_wp2_with fail
    refine (CA.out _).mono ?_
    rintro e w1 ⟨rfl, hb⟩
    have B1 := Lib.hid hb
    clear hb
    go_wp2
    go_ret
    exact ⟨rfl, B1.out⟩
end Go.Proofs.Yticmienihfokjaa
