/- The law BlakeSums, for every number, key and list of texts. Conditions: each text is no longer than what may come in; the package's table lies at its place. -/
import Derived.Test.YtljijgihnoloeaaDoorBkRsum
import Derived.Test.YtljijgihnoloeaaDoorBkAwake
import Derived.Test.YtljijgihnoloeaaDoorBkAt
import Derived.Test.YtljijgihnoloeaaDoorFdRefs
namespace Go.Proofs.YtljijgihnoloeaaDoor
set_option maxRecDepth 50000
open Go.RowKit Bl

set_option maxHeartbeats 800000 in
theorem bsums_key (z : Int) (key : ByteArray) (A : Option Addr) (m c : Nat) (w : World) (hk : QAt w) (hk1 : 300 < key.size) (hk2 : key.size ≤ 140737488351232) :
    Calls Tryd.prog 3 #[.int .i64 z, .string key, .slice A m c] w fun e w' => e = .returned (.bool true) ∧ Below w.heap.size w w' := by
  have HK := Lib.hid hk
  clear hk
  go_enter Tryd.func3, Tryd.ntmps3
  go_wp2_with fail
  refine (awake_any w HK.out).mono ?_
  rintro e w1 ⟨rfl, b1⟩
  go_wp2
  go_ret
  exact ⟨rfl, b1⟩
set_option maxHeartbeats 800000 in
theorem bsums_many (z : Int) (key : ByteArray) (A : Option Addr) (m c : Nat) (w : World) (hk : QAt w) (hk1 : key.size ≤ 300) (hm : 20 < m) (hm2 : m ≤ maxLen) :
    Calls Tryd.prog 3 #[.int .i64 z, .string key, .slice A m c] w fun e w' => e = .returned (.bool true) ∧ Below w.heap.size w w' := by
  unfold maxLen at hm2
  have HK := Lib.hid hk
  clear hk
  go_enter Tryd.func3, Tryd.ntmps3
  go_wp2_with fail
  refine (awake_any w HK.out).mono ?_
  rintro e w1 ⟨rfl, b1⟩
  go_wp2
  go_ret
  exact ⟨rfl, b1⟩
set_option maxHeartbeats 800000 in
theorem bsums_long (z : Int) (key : ByteArray) (A : Option Addr) (c : Nat) (ps : List ByteArray) (w : World) (hk : QAt w) (hk1 : key.size ≤ 300) (hr : Reads w w.heap.size A (stv ps)) (hps : ps.length ≤ 20) (hj : 1000 < (jn ps).length) (hsz : ∀ s ∈ ps, s.size ≤ 140737488351232) :
    Calls Tryd.prog 3 #[.int .i64 z, .string key, .slice A ps.length c] w fun e w' => e = .returned (.bool true) ∧ Below w.heap.size w w' := by
  have HK := Lib.hid hk
  have HR := Lib.hid hr
  have HS := Lib.hid hsz
  clear hk hr hsz
  go_enter Tryd.func3, Tryd.ntmps3
  go_wp2_with fail
  refine (awake_any w HK.out).mono ?_
  rintro e w1 ⟨rfl, b1⟩
  go_wp2_with fail
  refine (bytes_any A c ps w1 ((HR.out.below b1).more b1.size) (by omega) HS.out).mono ?_
  rintro e w4 ⟨rfl, rfl⟩
  go_wp2
  go_ret
  exact ⟨rfl, b1⟩
set_option maxHeartbeats 1600000 in
theorem bsums_bad (z : Int) (key : ByteArray) (hbad : z < 1 ∨ 64 < z ∨ 64 < key.size) (A : Option Addr) (c : Nat) (ps : List ByteArray) (w : World) (hk : QAt w) (hk1 : key.size ≤ 300) (hr : Reads w w.heap.size A (stv ps)) (hps : ps.length ≤ 20) (hj : (jn ps).length ≤ 1000) (hsz : ∀ s ∈ ps, s.size ≤ 140737488351232) :
    Calls Tryd.prog 3 #[.int .i64 z, .string key, .slice A ps.length c] w fun e w' => e = .returned (.bool true) ∧ Below w.heap.size w w' := by
  have HK := Lib.hid hk
  have HR := Lib.hid hr
  have HS := Lib.hid hsz
  have CO := Lib.hid fun w1 => blakeof_bad w1 z key hbad A ps.length c
  clear hk hr hsz
  go_enter Tryd.func3, Tryd.ntmps3
  go_wp2_with fail
  refine (awake_any w HK.out).mono ?_
  rintro e w1 ⟨rfl, b1⟩
  go_wp2_with fail
  refine (bytes_any A c ps w1 ((HR.out.below b1).more b1.size) (by omega) HS.out).mono ?_
  rintro e w4 ⟨rfl, rfl⟩
  go_wp2_with fail
  refine (CO.out _).mono ?_
  rintro e w2 ⟨rfl, rfl⟩
  have hcase : z < 1 ∨ (1 ≤ z ∧ 64 < z) ∨ (1 ≤ z ∧ z ≤ 64 ∧ 64 < key.size) := by omega
  clear hbad
  rcases hcase with h1 | ⟨h1, h2⟩ | ⟨h1, h2, h3⟩
  all_goals
    go_wp2
    go_ret
    exact ⟨rfl, b1⟩
set_option maxHeartbeats 1600000 in
theorem bsums_good (n : Nat) (hn1 : 1 ≤ n) (hn : n ≤ 64) (key : ByteArray) (hkl : key.size ≤ 64) (A : Option Addr) (c : Nat) (ps : List ByteArray) (w : World) (hk : QAt w) (hr : Reads w w.heap.size A (stv ps)) (hps : ps.length ≤ 20) (hj : (jn ps).length ≤ 1000) (hsz : ∀ s ∈ ps, s.size ≤ 140737488351232) :
    Calls Tryd.prog 3 #[.int .i64 (n : Int), .string key, .slice A ps.length c] w fun e w' => e = .returned (.bool true) ∧ Below w.heap.size w w' := by
  have HK := Lib.hid hk
  have HR := Lib.hid hr
  have HS := Lib.hid hsz
  have CSUM := Lib.hid (rsum_any n hn key (tx (jn ps)) hkl (by rw [tx_size]; omega))
  rw [tl_tx] at CSUM
  have CKN := Lib.hid rknown_any
  have CO := Lib.hid fun (w1 : World) (h1 : QAt w1) (h2 : Reads w1 w1.heap.size A (stv ps)) => blakeof_any w1 n hn1 hn key hkl h1 A c ps h2 (by omega) (by omega)
  obtain ⟨S, hS⟩ : ∃ S, S = tx (blkL key.size n (keyL key ++ jn ps)) := ⟨_, rfl⟩
  rw [← hS] at CSUM CO
  obtain ⟨FX, hFX⟩ : ∃ FX, FX = wq iv := ⟨_, rfl⟩
  rw [← hFX] at CSUM CKN
  clear hk hr hsz hFX hS
  go_enter Tryd.func3, Tryd.ntmps3
  go_wp2_with fail
  refine (awake_any w HK.out).mono ?_
  rintro e w1 ⟨rfl, b1⟩
  have B1 := Lib.hid b1
  clear b1
  go_wp2_with fail
  refine (bytes_any A c ps w1 ((HR.out.below B1.out).more B1.out.size) (by omega) HS.out).mono ?_
  rintro e w4 ⟨rfl, rfl⟩
  go_wp2_with fail
  refine (CO.out w1 (HK.out.next B1.out) ((HR.out.below B1.out).more B1.out.size)).mono ?_
  rintro e w2 ⟨rfl, b2⟩
  have B2 := Lib.hid (below_step B1.out b2)
  clear b2
  have d1 : decide ((n : Int) < 1) = false := by simp; omega
  have d2 : decide ((64 : Int) < (n : Int)) = false := by simp; omega
  have d3 : decide (64 < key.size) = false := by simp; omega
  go_wp2_with fail
  refine (CKN.out w2).mono ?_
  rintro e w3 ⟨rfl, b3⟩
  have B3 := Lib.hid (below_step B2.out b3)
  clear b3
  go_wp2_with fail
  refine (joined_any A c ps w3 ((HR.out.below B3.out).more B3.out.size) (by omega) (by omega)).mono ?_
  rintro e w3' ⟨rfl, rfl⟩
  generalize tx (jn ps) = TX at *
  go_wp2_with fail
  refine (CSUM.out w3).mono ?_
  rintro e w5 ⟨rfl, b5⟩
  have B5 := Lib.hid (below_step B3.out b5)
  clear b5
  go_wp2
  go_ret
  exact ⟨rfl, B5.out⟩
theorem bsums_any (z : Int) (key : ByteArray) (A : Option Addr) (c : Nat) (ps : List ByteArray) (w : World) (hk : QAt w) (hr : Reads w w.heap.size A (stv ps)) (hm : ps.length ≤ maxLen) (hsz : ∀ s ∈ ps, s.size ≤ 140737488351232) (hk2 : key.size ≤ 140737488351232) :
    Calls Tryd.prog 3 #[.int .i64 z, .string key, .slice A ps.length c] w fun e w' => e = .returned (.bool true) ∧ Below w.heap.size w w' := by
  by_cases h0 : 300 < key.size
  · exact bsums_key z key A ps.length c w hk h0 hk2
  · by_cases h1 : 20 < ps.length
    · exact bsums_many z key A ps.length c w hk (by omega) h1 hm
    · by_cases h2 : 1000 < (jn ps).length
      · exact bsums_long z key A c ps w hk (by omega) hr (by omega) h2 hsz
      · by_cases hbad : z < 1 ∨ 64 < z ∨ 64 < key.size
        · exact bsums_bad z key hbad A c ps w hk (by omega) hr (by omega) (by omega) hsz
        · obtain ⟨n, rfl⟩ : ∃ n : Nat, z = (n : Int) := ⟨z.toNat, by omega⟩
          exact bsums_good n (by omega) (by omega) key (by omega) A c ps w hk hr (by omega) (by omega) hsz
end Go.Proofs.YtljijgihnoloeaaDoor
