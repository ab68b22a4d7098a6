/- The statement WordsBack: for all lists a of 32-bit words and b of 64-bit words, the words that are taken from the bytes written are those words. No condition. -/
import Derived.Test.YtoknhmilhljadaaBack
import Derived.Test.YtoknhmilhljadaaAwake
import Derived.Deep.QuietTactic
import Derived.BigQuiet
namespace Go.Proofs.Ytoknhmilhljadaa
open Go.ChangeShapes Go.WideShapes Go.ChangeAt Go.RowKit

theorem Reads.step {w w' : World} {A : Option Addr} {xs : List Value} (h : Reads w w.heap.size A xs) (hb : Below w.heap.size w w') : Reads w' w'.heap.size A xs := (h.below hb).more hb.size
theorem step_trans {a b c : World} (h : Below a.heap.size a b) (k : Below b.heap.size b c) : Below a.heap.size a c := h.trans (k.mono h.size)
theorem step_drewN {B : Nat} {a w : World} (h : Below B a w) (n : Nat) : Below B a (w.drewN n) := ⟨h.os, h.tape, h.output, h.size, h.block⟩

/-- an owned row, as a slice value that reads -/
theorem own_reads {w : World} {base : Nat} {e : TypeId} {n : Nat} {v : Value} {xs : List Value} (h : w.ownsRow base e 1 v n xs) : ∃ A c, v = .slice A n c ∧ Reads w w.heap.size A xs := by
  obtain ⟨A, c, rfl, _, _, _⟩ := own_form h
  exact ⟨A, c, rfl, Reads.of_own h⟩

/-- little endian, there and back -/
theorem there32 (A : Option Addr) (c : Nat) (xs : List Nat) (w : World) (hr : Reads w w.heap.size A (u8s (xs.flatMap (bytesOf ups 4)))) (hlen : xs.length ≤ 200) (hx : ∀ x ∈ xs, x < 2 ^ 32) :
    Calls Try.prog 16 #[.slice A (4 * xs.length) c] w fun e w' => ∃ A' c', e = .returned (.tuple #[.slice A' xs.length c', .int .i64 0]) ∧ Reads w' w'.heap.size A' (u32s xs) ∧ Below w.heap.size w w' := by
  have C := take32_any A c (xs.flatMap (bytesOf ups 4)) xs.length (flat_length _ _ _) w hr (by rw [flat_length]; omega) (flat_lt _ _ _)
  rw [words_back ups 4 (onto_ups 4) xs (by simpa using hx), flat_length] at C
  refine C.mono ?_
  rintro e w' ⟨v, rfl, hown, hb⟩
  obtain ⟨A', c', rfl, h⟩ := own_reads hown
  exact ⟨A', c', rfl, h, hb⟩
theorem thereb32 (A : Option Addr) (c : Nat) (xs : List Nat) (w : World) (hr : Reads w w.heap.size A (u8s (xs.flatMap (bytesOf (downs 4) 4)))) (hlen : xs.length ≤ 200) (hx : ∀ x ∈ xs, x < 2 ^ 32) :
    Calls Try.prog 18 #[.slice A (4 * xs.length) c] w fun e w' => ∃ A' c', e = .returned (.tuple #[.slice A' xs.length c', .int .i64 0]) ∧ Reads w' w'.heap.size A' (u32s xs) ∧ Below w.heap.size w w' := by
  have C := takebig32_any A c (xs.flatMap (bytesOf (downs 4) 4)) xs.length (flat_length _ _ _) w hr (by rw [flat_length]; omega) (flat_lt _ _ _)
  rw [words_back (downs 4) 4 (onto_downs 4) xs (by simpa using hx), flat_length] at C
  refine C.mono ?_
  rintro e w' ⟨v, rfl, hown, hb⟩
  obtain ⟨A', c', rfl, h⟩ := own_reads hown
  exact ⟨A', c', rfl, h, hb⟩
theorem there64 (A : Option Addr) (c : Nat) (xs : List Nat) (w : World) (hr : Reads w w.heap.size A (u8s (xs.flatMap (bytesOf ups 8)))) (hlen : xs.length ≤ 200) (hx : ∀ x ∈ xs, x < 2 ^ 64) :
    Calls Try.prog 20 #[.slice A (8 * xs.length) c] w fun e w' => ∃ A' c', e = .returned (.tuple #[.slice A' xs.length c', .int .i64 0]) ∧ Reads w' w'.heap.size A' (u64s xs) ∧ Below w.heap.size w w' := by
  have C := take64_any A c (xs.flatMap (bytesOf ups 8)) xs.length (flat_length _ _ _) w hr (by rw [flat_length]; omega) (flat_lt _ _ _)
  rw [words_back ups 8 (onto_ups 8) xs (by simpa using hx), flat_length] at C
  refine C.mono ?_
  rintro e w' ⟨v, rfl, hown, hb⟩
  obtain ⟨A', c', rfl, h⟩ := own_reads hown
  exact ⟨A', c', rfl, h, hb⟩
/-- what is written, as a slice value that reads -/
theorem wrote32 (A : Option Addr) (c : Nat) (xs : List Nat) (w : World) (hr : Reads w w.heap.size A (u32s xs)) (hlen : xs.length ≤ 200) (hx : ∀ x ∈ xs, x < 2 ^ 32) :
    Calls Try.prog 12 #[.slice A xs.length c] w fun e w' => ∃ A' c', e = .returned (.slice A' (4 * xs.length) c') ∧ Reads w' w'.heap.size A' (u8s (xs.flatMap (bytesOf ups 4))) ∧ Below w.heap.size w w' := by
  refine (little32_any A c xs w hr (by omega) hx).mono ?_
  rintro e w' ⟨v, rfl, hown, hb⟩
  obtain ⟨A', c', rfl, h⟩ := own_reads hown
  exact ⟨A', c', rfl, h, hb⟩
theorem wroteb32 (A : Option Addr) (c : Nat) (xs : List Nat) (w : World) (hr : Reads w w.heap.size A (u32s xs)) (hlen : xs.length ≤ 200) (hx : ∀ x ∈ xs, x < 2 ^ 32) :
    Calls Try.prog 13 #[.slice A xs.length c] w fun e w' => ∃ A' c', e = .returned (.slice A' (4 * xs.length) c') ∧ Reads w' w'.heap.size A' (u8s (xs.flatMap (bytesOf (downs 4) 4))) ∧ Below w.heap.size w w' := by
  refine (big32_any A c xs w hr (by omega) hx).mono ?_
  rintro e w' ⟨v, rfl, hown, hb⟩
  obtain ⟨A', c', rfl, h⟩ := own_reads hown
  exact ⟨A', c', rfl, h, hb⟩
theorem wrote64 (A : Option Addr) (c : Nat) (xs : List Nat) (w : World) (hr : Reads w w.heap.size A (u64s xs)) (hlen : xs.length ≤ 200) (hx : ∀ x ∈ xs, x < 2 ^ 64) :
    Calls Try.prog 14 #[.slice A xs.length c] w fun e w' => ∃ A' c', e = .returned (.slice A' (8 * xs.length) c') ∧ Reads w' w'.heap.size A' (u8s (xs.flatMap (bytesOf ups 8))) ∧ Below w.heap.size w w' := by
  refine (little64_any A c xs w hr (by omega) hx).mono ?_
  rintro e w' ⟨v, rfl, hown, hb⟩
  obtain ⟨A', c', rfl, h⟩ := own_reads hown
  exact ⟨A', c', rfl, h, hb⟩

set_option maxHeartbeats 4000000 in
set_option maxRecDepth 100000 in
theorem back_any (A B : Option Addr) (c d : Nat) (xs ys : List Nat) (w : World) (hr : Reads w w.heap.size A (u32s xs)) (hs : Reads w w.heap.size B (u64s ys)) (hx : ∀ x ∈ xs, x < 2 ^ 32) (hy : ∀ y ∈ ys, y < 2 ^ 64) (m1 : xs.length ≤ maxLen) (m2 : ys.length ≤ maxLen) :
    Calls Try.prog 7 #[.slice A xs.length c, .slice B ys.length d] w fun e w' => e = .returned (.bool true) ∧ Below w.heap.size w w' := by
  unfold maxLen at m1 m2
  have n1 : xs.length ≤ 9223372036854775807 := m1
  have n2 : ys.length ≤ 9223372036854775807 := m2
  clear m1 m2
  have Hr := Lib.hid hr
  have Hs := Lib.hid hs
  have Hx := Lib.hid hx
  have Hy := Lib.hid hy
  clear hr hs hx hy
  by_cases ha : 200 < xs.length
  · go_enter Try.func7, Try.ntmps7
    go_wp2_with (go_at_call 8; refine (awake_any _).mono ?_; rintro e w1 ⟨rfl, hb⟩)
    go_ret
    exact ⟨rfl, hb⟩
  by_cases hb2 : 200 < ys.length
  · go_enter Try.func7, Try.ntmps7
    go_wp2_with (go_at_call 8; refine (awake_any _).mono ?_; rintro e w1 ⟨rfl, hb⟩)
    go_ret
    exact ⟨rfl, hb⟩
  have l1 : xs.length ≤ 200 := by omega
  have l2 : ys.length ≤ 200 := by omega
  clear ha hb2
  go_enter Try.func7, Try.ntmps7
  go_wp2_with (go_at_call 8; refine (awake_any _).mono ?_; rintro e w1 ⟨rfl, hb1⟩)
  refine (wrote32 A c xs _ (Hr.out.step hb1) l1 Hx.out).mono ?_
  rintro e w2 ⟨A2, c2, rfl, R2, hb2⟩
  have Hb2 := step_trans hb1 hb2
  go_wp2_with fail
  refine (there32 A2 c2 xs _ R2 l1 Hx.out).mono ?_
  rintro e w3 ⟨A3, c3, rfl, R3, hb3⟩
  have Hb3 := step_trans Hb2 hb3
  have HR3 := Lib.hid R3
  clear hb1 hb2 hb3 Hb2 R2 R3
  go_wp2_with fail
  refine (wroteb32 A c xs _ (Hr.out.step Hb3) l1 Hx.out).mono ?_
  rintro e w4 ⟨A4, c4, rfl, R4, hb4⟩
  go_wp2_with fail
  refine (thereb32 A4 c4 xs _ R4 l1 Hx.out).mono ?_
  rintro e w5 ⟨A5, c5, rfl, R5, hb5⟩
  have hb45 := step_trans hb4 hb5
  have Hb5 := step_trans Hb3 hb45
  have HR3' := Lib.hid (HR3.out.step hb45)
  have HR5 := Lib.hid R5
  clear hb4 hb5 hb45 Hb3 R4 R5 HR3
  go_wp2_with fail
  refine (wrote64 B d ys _ (Hs.out.step Hb5) l2 Hy.out).mono ?_
  rintro e w6 ⟨A6, c6, rfl, R6, hb6⟩
  go_wp2_with fail
  refine (there64 A6 c6 ys _ R6 l2 Hy.out).mono ?_
  rintro e w7 ⟨A7, c7, rfl, R7, hb7⟩
  have hb67 := step_trans hb6 hb7
  have Hb7 := step_trans Hb5 hb67
  have G3 := Lib.hid (HR3'.out.step hb67)
  have G5 := Lib.hid (HR5.out.step hb67)
  have G7 := Lib.hid R7
  have G0 := Lib.hid (Hr.out.step Hb7)
  have G1 := Lib.hid (Hs.out.step Hb7)
  clear hb6 hb7 hb67 Hb5 R6 R7 HR3' HR5 Hr Hs
  go_wp2_with fail
  go_loopw [74] (fun i wr => ∃ k : Nat, k ≤ xs.length ∧ i = .int .i64 k ∧ Below w7.heap.size w7 wr) (fun i _ => xs.length - (intOf i).toNat)
  case atStart => exact ⟨0, Nat.zero_le _, rfl, Below.refl _ _⟩
  case round =>
    obtain ⟨k, hk, rfl, hb⟩ := hrel
    by_cases hlt : k < xs.length
    · obtain ⟨b3, o3, rfl, _, h3⟩ := (G3.out.below hb) k (by rw [u32s_length]; exact hlt)
      obtain ⟨b5, o5, rfl, _, h5⟩ := (G5.out.below hb) k (by rw [u32s_length]; exact hlt)
      obtain ⟨b0, o0, rfl, _, h0⟩ := (G0.out.below hb) k (by rw [u32s_length]; exact hlt)
      rw [u32_at] at h3 h5 h0
      generalize xs[k] = x at *
      have i0 : (0 : Int) ≤ (k : Int) := by omega
      have i1 : (k : Int) < (xs.length : Int) := by omega
      go_wp2_with fail
      go_quiet (fail)
      go_wp2_with fail
      go_roundw
      case rel => exact ⟨k + 1, by omega, by go_num, step_drewN hb _⟩
      case measure => simp [intOf]; omega
    · obtain rfl : k = xs.length := by omega
      go_wp2_with fail
      obtain ⟨wo, rfl⟩ : ∃ wo : World, wo = wr := ⟨_, rfl⟩
      go_loopw [100] (fun i wr => ∃ k : Nat, k ≤ ys.length ∧ i = .int .i64 k ∧ Below w7.heap.size w7 wr) (fun i _ => ys.length - (intOf i).toNat)
      case atStart => exact ⟨0, Nat.zero_le _, rfl, hb⟩
      case round =>
        obtain ⟨k, hk, rfl, hb⟩ := hrel
        by_cases hlt : k < ys.length
        · obtain ⟨b7, o7, rfl, _, h7⟩ := (G7.out.below hb) k (by rw [u64s_length]; exact hlt)
          obtain ⟨b1, o1, rfl, _, h1⟩ := (G1.out.below hb) k (by rw [u64s_length]; exact hlt)
          rw [u64_at] at h7 h1
          generalize ys[k] = y at *
          have i0 : (0 : Int) ≤ (k : Int) := by omega
          have i1 : (k : Int) < (ys.length : Int) := by omega
          go_wp2_with fail
          go_quiet (fail)
          go_wp2_with fail
          go_roundw
          case rel => exact ⟨k + 1, by omega, by go_num, step_drewN hb _⟩
          case measure => simp [intOf]; omega
        · obtain rfl : k = ys.length := by omega
          go_wp2_with fail
          go_ret
          exact ⟨rfl, step_trans Hb7 hb⟩
end Go.Proofs.Ytoknhmilhljadaa
