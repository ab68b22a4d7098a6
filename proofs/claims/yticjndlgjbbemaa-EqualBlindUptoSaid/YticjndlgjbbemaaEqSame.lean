/- The method same, and Trace and Same, by their contracts. Conditions: the texts are no longer than what may come in; where places are kept, no longer than 2^44. -/
import Derived.Test.YticjndlgjbbemaaEqLook
namespace Go.Proofs.Yticjndlgjbbemaa
set_option maxRecDepth 50000
open Go.RowKit

/-- how many places are kept behind another one -/
def kn (kept : Bool) (k : Nat) : Nat := if kept then k else 0
theorem look_both {w0 w : World} {F m : Nat} {kept : Bool} {v : Value} (a b : ByteArray) (k : Nat) (h : Lk w0 w F m kept v (kn kept k)) (hi : k < a.size) (hj : k < b.size) (ha : kept = true → a.size ≤ 17592186044416) (hm : m ≤ 1152921504606846976) :
    Calls Try.prog 13 #[.pointer (some ⟨F, 0, none⟩), .string a, .string b, .int .i64 (k : Int)] w fun e w' => e = .returned (.int .u8 ((bt a k ^^^ bt b k : Nat) : Int)) ∧ ∃ v', Lk w0 w' F (m + 1) kept v' (kn kept (k + 1)) := by
  cases kept with
  | true => exact look_kept h a b hi hj (ha rfl) hm
  | false => exact (look_any h a b k hi hj hm).mono fun e w' ⟨h1, h2⟩ => ⟨h1, v, h2⟩
/-- how many places are looked at -/
def cnt (a b : ByteArray) : Nat := if a.size = b.size then a.size else 0
def one (t : Bool) : Nat := if t then 1 else 0

set_option maxHeartbeats 1600000 in
theorem same_any {w0 w : World} {F m : Nat} {kept : Bool} {v : Value} (h : Lk w0 w F m kept v 0) (a b : ByteArray) (ha : a.size ≤ 140737488351232) (hk : kept = true → a.size ≤ 17592186044416) (hm : m ≤ 576460752303423488) :
    Calls Try.prog 12 #[.pointer (some ⟨F, 0, none⟩), .string a, .string b] w fun e w' => e = .returned (.int .i64 (one (eqB a b) : Nat)) ∧ ∃ v', Lk w0 w' F (m + cnt a b) kept v' (kn kept (cnt a b)) := by
  by_cases hs : a.size = b.size
  · have hsI : ((a.size : Int) == (b.size : Int)) = true := by rw [beq_iff_eq]; omega
    have hsN : ((a.size : Int) != (b.size : Int)) = false := by simp [bne, hsI]
    have HC : Hid (cnt a b = a.size) := Lib.hid (if_pos hs)
    have HS := Lib.hid hs
    have HE := Lib.hid (eqB_unl a b hs)
    have HL : Hid (Lk w0 w F (m + 0) kept v (kn kept 0)) := Lib.hid (by
      have e : kn kept 0 = 0 := by cases kept <;> rfl
      rw [e]; exact h)
    clear hs h
    go_enter Try.func12, Try.ntmps12
    go_wp2
    go_loopw [7, 16] (fun v7 v16 wr => ∃ k z : Nat, k ≤ a.size ∧ v16 = .int .i64 (k : Int) ∧ v7 = .int .u8 (z : Int) ∧ Hid (z = unl a b k) ∧ Hid (∃ v', Lk w0 wr F (m + k) kept v' (kn kept k))) (fun _ v16 _ => a.size - (intOf v16).toNat)
    case atStart => exact ⟨0, 0, Nat.zero_le _, rfl, rfl, Lib.hid rfl, Lib.hid ⟨v, HL.out⟩⟩
    case round =>
      clear HL
      obtain ⟨k, z, hkk, rfl, rfl, HZ, HK⟩ := hrel
      obtain ⟨v1, h1⟩ := HK.out
      have H1 := Lib.hid h1
      clear HK h1
      have hz : z < 256 := by rw [HZ.out]; exact unl_lt a b k
      by_cases hlt : k < a.size
      · have hjb : k < b.size := by have := HS.out; omega
        have CL := Lib.hid (look_both a b k H1.out hlt hjb hk (by omega))
        obtain ⟨x, hx⟩ : ∃ x : Nat, x = bt a k ^^^ bt b k := ⟨_, rfl⟩
        have hxb : x < 256 := by rw [hx]; exact Nat.xor_lt_two_pow (n := 8) (bt_lt a k) (bt_lt b k)
        have hor := u8_or_nat z x hz hxb
        have HZ2 : Hid (z ||| x = unl a b (k + 1)) := Lib.hid (by rw [unl, ← HZ.out, hx])
        have hzx : z ||| x < 256 := Nat.or_lt_two_pow (n := 8) hz hxb
        rw [← hx] at CL
        clear hx HZ
        generalize z ||| x = y at *
        go_wp2_with fail
        refine CL.out.mono ?_
        rintro e w2 ⟨rfl, v2, h2⟩
        have H2 := Lib.hid h2
        clear h2 CL H1
        go_wp2
        go_roundw
        case rel =>
          exact ⟨k + 1, y, by omega, by go_num, rfl, HZ2, Lib.hid ⟨v2, H2.out⟩⟩
        case measure => simp [intOf]; omega
      · obtain rfl : k = a.size := by omega
        have HR : Hid (eqB a b = decide (z = 0)) := Lib.hid (by rw [HE.out, HZ.out])
        clear HZ HE
        have H2 : Hid (Lk w0 wr F (m + cnt a b) kept v1 (kn kept (cnt a b))) := Lib.hid (by rw [HC.out]; exact H1.out)
        clear HC H1
        by_cases hz0 : z = 0
        · subst hz0
          go_wp2
          go_ret
          exact ⟨by rw [HR.out]; rfl, v1, H2.out⟩
        · obtain ⟨u, hu⟩ : ∃ u, z = u + 1 := ⟨z - 1, by omega⟩
          subst hu
          have hu1 : ((u + 1 : Nat) : Int) = (u : Int) + 1 := by omega
          rw [hu1]
          go_wp2
          go_ret
          refine ⟨?_, v1, H2.out⟩
          rw [HR.out]
          have e : (u : Int) / 2147483648 = 0 := by omega
          simp [e, one]
  · have hsI : ((a.size : Int) == (b.size : Int)) = false := by rw [beq_eq_false_iff_ne]; omega
    have HF := Lib.hid (eqB_len a b hs)
    have HL : Hid (Lk w0 w F (m + cnt a b) kept v (kn kept (cnt a b))) := Lib.hid (by
      have e : cnt a b = 0 := if_neg hs
      have e2 : kn kept 0 = 0 := by cases kept <;> rfl
      rw [e, e2]; exact h)
    clear hs h
    go_enter Try.func12, Try.ntmps12
    go_wp2
    go_ret
    exact ⟨by rw [HF.out]; rfl, v, HL.out⟩

set_option maxHeartbeats 1600000 in
theorem trace_any (a b : ByteArray) (ha : a.size ≤ 17592186044416) (w : World) :
    Calls Try.prog 7 #[.string a, .string b] w fun e w' => ∃ v, e = .returned (.tuple #[.bool (eqB a b), v]) ∧ w'.ownsRow w.heap.size 28 1 v (cnt a b) (stp (cnt a b)) ∧ Below w.heap.size w w' := by
  have HS := Lib.hid fun w1 (h : Lk w w1 w.heap.size 0 true (.slice none 0 0) 0) => same_any h a b (by omega) (fun _ => ha) (by omega)
  have HN := Lib.hid (Lk.new_ w true)
  cases he : eqB a b
  all_goals
    rw [he] at HS
    clear he
    go_enter Try.func7, Try.ntmps7
    go_wp2_with fail
    refine (HS.out _ HN.out).mono ?_
    rintro e w2 ⟨rfl, v, h2⟩
    have H2 := Lib.hid h2
    obtain ⟨A, c, rfl, hl, _, _⟩ := own_form h2.own
    have y2 := h2.at_.2.2.1
    clear h2 HS HN hl
    simp only [one]
    go_wp2
    go_quiet (fail)
    go_wp2
    go_ret2
    have e2 : kn true (cnt a b) = cnt a b := rfl
    rw [e2] at H2
    exact ⟨_, rfl, (H2.out.drewN _).own, (H2.out.drewN _).below⟩

set_option maxHeartbeats 1600000 in
theorem esame_any (a b : ByteArray) (ha : a.size ≤ 140737488351232) (w : World) :
    Calls Try.prog 9 #[.string a, .string b] w fun e w' => e = .returned (.bool (eqB a b)) ∧ Below w.heap.size w w' := by
  have HS := Lib.hid fun w1 (h : Lk w w1 w.heap.size 0 false (.slice none 0 0) 0) => same_any h a b ha (fun h => by cases h) (by omega)
  have HN := Lib.hid (Lk.new_ w false)
  cases he : eqB a b
  all_goals
    rw [he] at HS
    clear he
    go_enter Try.func9, Try.ntmps9
    go_wp2_with fail
    refine (HS.out _ HN.out).mono ?_
    rintro e w2 ⟨rfl, v, h2⟩
    have H2 := Lib.hid h2
    clear h2 HS HN
    simp only [one]
    go_wp2
    go_ret
    exact ⟨rfl, H2.out.below⟩
end Go.Proofs.Yticjndlgjbbemaa
