/- The law LongSizes, for every number and list of texts. Conditions: each text is no longer than what may come in; the package's table lies at its place. -/
import Derived.Test.YtljijgihnoloeaaDoorLgSums
namespace Go.Proofs.YtljijgihnoloeaaDoor
set_option maxRecDepth 50000
open Go.RowKit Bl

set_option maxHeartbeats 800000 in
theorem lsizes_bad (z : Int) (hz : z < 1 ∨ 65536 < z) (A : Option Addr) (m c : Nat) (w : World) (hk : QAt w) :
    Calls Tryd.prog 5 #[.int .i64 z, .slice A m c] w fun e w' => e = .returned (.bool true) ∧ Below w.heap.size w w' := by
  have C := Lib.hid (awake8_any w hk)
  have CH := Lib.hid fun w1 => halves_bad z hz w1
  clear hk
  have hb : z < 1 ∨ (1 ≤ z ∧ 65536 < z) := by omega
  clear hz
  rcases hb with h | ⟨h, h2⟩
  all_goals
    go_enter Tryd.func5, Tryd.ntmps5
    go_wp2_with fail
    refine C.out.mono ?_
    rintro e w1 ⟨rfl, b1⟩
    go_wp2_with fail
    refine (CH.out _).mono ?_
    rintro e w2 ⟨rfl, rfl⟩
    go_wp2
    go_ret
    exact ⟨rfl, b1⟩
/-- what a length and its halves are to each other -/
theorem hN_facts (n : Nat) (hn : n ≤ 65536) : ((n : Int) ≤ 64 ∧ decide ((64 : Int) < (n : Int)) = false) ∨
    (decide ((64 : Int) < (n : Int)) = true ∧ (64 : Int) < (n : Int) ∧ ∃ p r : Nat, IntKind.i64.wrap ((32 : Int) * ((hN n : Nat) : Int)) = (p : Int) ∧ IntKind.i64.wrap ((n : Int) - (p : Int)) = (r : Int) ∧ decide ((r : Int) < 33) = false ∧ decide ((64 : Int) < (r : Int)) = false) := by
  by_cases h : n ≤ 64
  · exact .inl ⟨by omega, by simp; omega⟩
  · have hb : hN n ≤ 2046 ∧ 32 * hN n ≤ n ∧ 33 ≤ n - 32 * hN n ∧ n - 32 * hN n ≤ 64 := by unfold hN; omega
    refine .inr ⟨by simp; omega, by omega, 32 * hN n, n - 32 * hN n, ?_, ?_, by simp; omega, by simp; omega⟩
    · rw [← IntWalk.i64_in ((32 * hN n : Nat) : Int) (by omega)]; congr 1
    · rw [← IntWalk.i64_in ((n - 32 * hN n : Nat) : Int) (by omega)]; congr 1; omega
set_option maxHeartbeats 800000 in
theorem lsizes_size (n : Nat) (h1 : 3000 < n) (h2 : n ≤ 65536) (A : Option Addr) (m c : Nat) (w : World) (hk : QAt w) :
    Calls Tryd.prog 5 #[.int .i64 (n : Int), .slice A m c] w fun e w' => e = .returned (.bool true) ∧ Below w.heap.size w w' := by
  have C := Lib.hid (awake8_any w hk)
  have CH := Lib.hid fun w1 => halves_any n (by omega) h2 w1
  have CR := Lib.hid fun w1 => rhalves_any n h2 w1
  have hf := hN_facts n h2
  generalize hN n = H at *
  clear hk
  rcases hf with ⟨h, hd⟩ | ⟨hd, h, p, r, q1, q2, q3, q4⟩
  · omega
  · go_enter Tryd.func5, Tryd.ntmps5
    go_wp2_with fail
    refine C.out.mono ?_
    rintro e w1 ⟨rfl, b1⟩
    go_wp2_with fail
    refine (CH.out _).mono ?_
    rintro e w2 ⟨rfl, rfl⟩
    go_wp2_with fail
    refine (CR.out _).mono ?_
    rintro e w3 ⟨rfl, rfl⟩
    go_wp2
    go_ret
    exact ⟨rfl, b1⟩
set_option maxHeartbeats 800000 in
theorem lsizes_many (n : Nat) (h1 : 1 ≤ n) (h2 : n ≤ 3000) (A : Option Addr) (m c : Nat) (w : World) (hk : QAt w) (hm : 20 < m) (hm2 : m ≤ maxLen) :
    Calls Tryd.prog 5 #[.int .i64 (n : Int), .slice A m c] w fun e w' => e = .returned (.bool true) ∧ Below w.heap.size w w' := by
  unfold maxLen at hm2
  have C := Lib.hid (awake8_any w hk)
  have CH := Lib.hid fun w1 => halves_any n (by omega) (by omega) w1
  have CR := Lib.hid fun w1 => rhalves_any n (by omega) w1
  have hf := hN_facts n (by omega)
  generalize hN n = H at *
  clear hk
  rcases hf with ⟨h, hd⟩ | ⟨hd, h, p, r, q1, q2, q3, q4⟩
  all_goals
    go_enter Tryd.func5, Tryd.ntmps5
    go_wp2_with fail
    refine C.out.mono ?_
    rintro e w1 ⟨rfl, b1⟩
    go_wp2_with fail
    refine (CH.out _).mono ?_
    rintro e w2 ⟨rfl, rfl⟩
    go_wp2_with fail
    refine (CR.out _).mono ?_
    rintro e w3 ⟨rfl, rfl⟩
    go_wp2
    go_ret
    exact ⟨rfl, b1⟩
set_option maxHeartbeats 800000 in
theorem lsizes_long (n : Nat) (h1 : 1 ≤ n) (h2 : n ≤ 3000) (A : Option Addr) (c : Nat) (ps : List ByteArray) (w : World) (hk : QAt w) (hr : Reads w w.heap.size A (stv ps)) (hps : ps.length ≤ 20) (hj : 500 < (jn ps).length) (hsz : ∀ s ∈ ps, s.size ≤ 140737488351232) :
    Calls Tryd.prog 5 #[.int .i64 (n : Int), .slice A ps.length c] w fun e w' => e = .returned (.bool true) ∧ Below w.heap.size w w' := by
  have C := Lib.hid (awake8_any w hk)
  have CH := Lib.hid fun w1 => halves_any n (by omega) (by omega) w1
  have CR := Lib.hid fun w1 => rhalves_any n (by omega) w1
  have HR := Lib.hid hr
  have HS := Lib.hid hsz
  have hf := hN_facts n (by omega)
  generalize hN n = H at *
  clear hk hr hsz
  rcases hf with ⟨h, hd⟩ | ⟨hd, h, p, r, q1, q2, q3, q4⟩
  all_goals
    go_enter Tryd.func5, Tryd.ntmps5
    go_wp2_with fail
    refine C.out.mono ?_
    rintro e w1 ⟨rfl, b1⟩
    go_wp2_with fail
    refine (CH.out _).mono ?_
    rintro e w2 ⟨rfl, rfl⟩
    go_wp2_with fail
    refine (CR.out _).mono ?_
    rintro e w3 ⟨rfl, rfl⟩
    go_wp2_with fail
    refine (bytes_any A c ps _ ((HR.out.below b1).more b1.size) (by omega) HS.out).mono ?_
    rintro e w4 ⟨rfl, rfl⟩
    go_wp2
    go_ret
    exact ⟨rfl, b1⟩
theorem long_one (n : Nat) (h1 : 1 ≤ n) (h2 : n ≤ 65536) (w : World) (hk : QAt w) (X : List UInt8) (hX : X.length ≤ 100000) :
    Calls Tryd.prog 13 #[.int .i64 (n : Int), .slice (some ⟨w.heap.size, 0, none⟩) 1 1] (w.alloc (.cells #[.string (tx X)] 9)) fun e w' => e = .returned (.tuple #[.string (tx (longL n X)), .int .i64 0]) ∧ Below w.heap.size w w' := by
  have hb : Below w.heap.size w (w.alloc (.cells #[.string (tx X)] 9)) := (Below.refl _ w).alloc (Nat.le_refl _) _
  have h := long_any n h1 h2 (w.alloc (.cells #[.string (tx X)] 9)) (hk.next hb) (some ⟨w.heap.size, 0, none⟩) 1 [tx X] (reads_one w (tx X)) (by rw [jn_one', tl_tx]; exact hX) (by simp)
  rw [jn_one', tl_tx] at h
  exact h.mono fun e w' ⟨k1, k2⟩ => ⟨k1, below_step hb k2⟩
set_option maxHeartbeats 1600000 in
theorem lsizes_good (n : Nat) (h1 : 1 ≤ n) (h2 : n ≤ 3000) (A : Option Addr) (c : Nat) (ps : List ByteArray) (w : World) (hk : QAt w) (hr : Reads w w.heap.size A (stv ps)) (hps : ps.length ≤ 20) (hj : (jn ps).length ≤ 500) (hsz : ∀ s ∈ ps, s.size ≤ 140737488351232) :
    Calls Tryd.prog 5 #[.int .i64 (n : Int), .slice A ps.length c] w fun e w' => e = .returned (.bool true) ∧ Below w.heap.size w w' := by
  have C := Lib.hid (awake8_any w hk)
  have CH := Lib.hid fun w1 => halves_any n (by omega) (by omega) w1
  have CR := Lib.hid fun w1 => rhalves_any n (by omega) w1
  have CO := Lib.hid fun (w1 : World) (g1 : QAt w1) (g2 : Reads w1 w1.heap.size A (stv ps)) => long_any n h1 (by omega) w1 g1 A c ps g2 (by omega) (by omega)
  have CJ := Lib.hid fun (w5 : World) (g5 : Reads w5 w5.heap.size A (stv ps)) => joined_any A c ps w5 g5 (by omega) (by omega)
  have CO2 := Lib.hid fun (w1 : World) (g1 : QAt w1) => long_one n h1 (by omega) w1 g1 (jn ps) (by omega)
  have hlS := longL_tx n h1 (jn ps) (by omega)
  obtain ⟨S, hS⟩ : ∃ S, S = tx (longL n (jn ps)) := ⟨_, rfl⟩
  rw [← hS] at CO CO2 hlS
  clear hS
  have HK := Lib.hid hk
  have HR := Lib.hid hr
  have HS := Lib.hid hsz
  have hf := hN_facts n (by omega)
  generalize hN n = H at *
  generalize tx (jn ps) = TX at *
  clear hk hr hsz
  rcases hf with ⟨h, hd⟩ | ⟨hd, h, p, r, q1, q2, q3, q4⟩
  all_goals
    go_enter Tryd.func5, Tryd.ntmps5
    go_wp2_with fail
    refine C.out.mono ?_
    rintro e w1 ⟨rfl, b1⟩
    have B1 := Lib.hid b1
    clear b1
    go_wp2_with fail
    refine (CH.out _).mono ?_
    rintro e w2 ⟨rfl, rfl⟩
    go_wp2_with fail
    refine (CR.out _).mono ?_
    rintro e w3 ⟨rfl, rfl⟩
    go_wp2_with fail
    refine (bytes_any A c ps _ ((HR.out.below B1.out).more B1.out.size) (by omega) HS.out).mono ?_
    rintro e w4 ⟨rfl, rfl⟩
    go_wp2_with fail
    refine (CO.out _ (HK.out.next B1.out) ((HR.out.below B1.out).more B1.out.size)).mono ?_
    rintro e w5 ⟨rfl, b5⟩
    have B5 := Lib.hid (below_step B1.out b5)
    clear b5
    go_wp2_with fail
    refine (CJ.out _ ((HR.out.below B5.out).more B5.out.size)).mono ?_
    rintro e w6 ⟨rfl, rfl⟩
    go_wp2_with fail
    refine (CO2.out _ (HK.out.next B5.out)).mono ?_
    rintro e w7 ⟨rfl, b7⟩
    have B7 := Lib.hid (below_step B5.out b7)
    clear b7
    go_wp2
    go_ret
    exact ⟨rfl, B7.out⟩
theorem lsizes_any (z : Int) (A : Option Addr) (c : Nat) (ps : List ByteArray) (w : World) (hk : QAt w) (hr : Reads w w.heap.size A (stv ps)) (hm : ps.length ≤ maxLen) (hsz : ∀ s ∈ ps, s.size ≤ 140737488351232) :
    Calls Tryd.prog 5 #[.int .i64 z, .slice A ps.length c] w fun e w' => e = .returned (.bool true) ∧ Below w.heap.size w w' := by
  by_cases hbad : z < 1 ∨ 65536 < z
  · exact lsizes_bad z hbad A ps.length c w hk
  · obtain ⟨n, rfl⟩ : ∃ n : Nat, z = (n : Int) := ⟨z.toNat, by omega⟩
    by_cases h0 : 3000 < n
    · exact lsizes_size n h0 (by omega) A ps.length c w hk
    · by_cases h1 : 20 < ps.length
      · exact lsizes_many n (by omega) (by omega) A ps.length c w hk h1 hm
      · by_cases h2 : 500 < (jn ps).length
        · exact lsizes_long n (by omega) (by omega) A c ps w hk hr (by omega) h2 hsz
        · exact lsizes_good n (by omega) (by omega) A c ps w hk hr (by omega) (by omega) hsz
end Go.Proofs.YtljijgihnoloeaaDoor
