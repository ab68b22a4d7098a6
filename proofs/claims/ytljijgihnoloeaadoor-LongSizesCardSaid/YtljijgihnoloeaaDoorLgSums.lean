/- The chapter's example, and the law LongSums, for every number and list of texts. Conditions: each text is no longer than what may come in; the package's table lies at its place. -/
import Derived.Test.YtljijgihnoloeaaDoorLgRef
import Derived.Test.YtljijgihnoloeaaDoorBkAt
namespace Go.Proofs.YtljijgihnoloeaaDoor
set_option maxRecDepth 50000
open Go.RowKit Bl

set_option maxHeartbeats 800000 in
theorem awake8_any (w : World) (hk : QAt w) : Calls Tryd.prog 12 #[] w fun e w' => e = .returned (.bool true) ∧ Below w.heap.size w w' := by
  have C1 := Lib.hid (halves_any 64 (by decide) (by decide) w)
  have C2 := Lib.hid (halves_any 65 (by decide) (by decide) w)
  have C3 := Lib.hid (halves_any 1024 (by decide) (by decide) w)
  rw [show hN 64 = 0 from rfl] at C1
  rw [show hN 65 = 1 from rfl] at C2
  rw [show hN 1024 = 30 from rfl] at C3
  have hb : Below w.heap.size w (w.alloc (.cells #[.string ⟨#[97]⟩] 9)) := (Below.refl _ w).alloc (Nat.le_refl _) _
  have HB := Lib.hid hb
  have C4 := Lib.hid (block_any (w.alloc (.cells #[.string ⟨#[97]⟩] 9)) (hk.next hb) (some ⟨w.heap.size, 0, none⟩) 1 [⟨#[97]⟩] (reads_one w ⟨#[97]⟩) (by rw [jn_one', tl_length]; decide) (by simp))
  have hs : (tx (longL 1024 (jn [⟨#[97]⟩]))).size = 1024 := longL_tx 1024 (by decide) _ (by rw [jn_one', tl_length]; decide)
  obtain ⟨S, hS⟩ : ∃ S, S = tx (longL 1024 (jn [⟨#[97]⟩])) := ⟨_, rfl⟩
  rw [← hS] at C4 hs
  clear hS hb hk
  go_enter Tryd.func12, Tryd.ntmps12
  go_wp2_with fail
  refine C1.out.mono ?_
  rintro e w1 ⟨rfl, rfl⟩
  go_wp2_with fail
  refine C2.out.mono ?_
  rintro e w2 ⟨rfl, rfl⟩
  go_wp2_with fail
  refine C3.out.mono ?_
  rintro e w3 ⟨rfl, rfl⟩
  go_wp2_with fail
  refine C4.out.mono ?_
  rintro e w4 ⟨rfl, b4⟩
  go_wp2
  go_ret
  exact ⟨rfl, below_step HB.out b4⟩

set_option maxHeartbeats 800000 in
theorem lsums_size (z : Int) (h1 : 1100 < z) (h2 : z ≤ 65536) (A : Option Addr) (m c : Nat) (w : World) (hk : QAt w) :
    Calls Tryd.prog 4 #[.int .i64 z, .slice A m c] w fun e w' => e = .returned (.bool true) ∧ Below w.heap.size w w' := by
  have C := Lib.hid (awake8_any w hk)
  clear hk
  go_enter Tryd.func4, Tryd.ntmps4
  go_wp2_with fail
  refine C.out.mono ?_
  rintro e w1 ⟨rfl, b1⟩
  go_wp2
  go_ret
  exact ⟨rfl, b1⟩
set_option maxHeartbeats 800000 in
theorem lsums_many (z : Int) (hz : z ≤ 1100 ∨ (1100 < z ∧ 65536 < z)) (A : Option Addr) (m c : Nat) (w : World) (hk : QAt w) (hm : 20 < m) (hm2 : m ≤ maxLen) :
    Calls Tryd.prog 4 #[.int .i64 z, .slice A m c] w fun e w' => e = .returned (.bool true) ∧ Below w.heap.size w w' := by
  unfold maxLen at hm2
  have C := Lib.hid (awake8_any w hk)
  clear hk
  rcases hz with h | ⟨h, h2⟩
  all_goals
    go_enter Tryd.func4, Tryd.ntmps4
    go_wp2_with fail
    refine C.out.mono ?_
    rintro e w1 ⟨rfl, b1⟩
    go_wp2
    go_ret
    exact ⟨rfl, b1⟩
set_option maxHeartbeats 800000 in
theorem lsums_long (z : Int) (hz : z ≤ 1100 ∨ (1100 < z ∧ 65536 < z)) (A : Option Addr) (c : Nat) (ps : List ByteArray) (w : World) (hk : QAt w) (hr : Reads w w.heap.size A (stv ps)) (hps : ps.length ≤ 20) (hj : 500 < (jn ps).length) (hsz : ∀ s ∈ ps, s.size ≤ 140737488351232) :
    Calls Tryd.prog 4 #[.int .i64 z, .slice A ps.length c] w fun e w' => e = .returned (.bool true) ∧ Below w.heap.size w w' := by
  have C := Lib.hid (awake8_any w hk)
  have HR := Lib.hid hr
  have HS := Lib.hid hsz
  clear hk hr hsz
  rcases hz with h | ⟨h, h2⟩
  all_goals
    go_enter Tryd.func4, Tryd.ntmps4
    go_wp2_with fail
    refine C.out.mono ?_
    rintro e w1 ⟨rfl, b1⟩
    go_wp2_with fail
    refine (bytes_any A c ps w1 ((HR.out.below b1).more b1.size) (by omega) HS.out).mono ?_
    rintro e w4 ⟨rfl, rfl⟩
    go_wp2
    go_ret
    exact ⟨rfl, b1⟩
set_option maxHeartbeats 800000 in
theorem lsums_bad (z : Int) (hz : (z < 1 ∧ z ≤ 1100) ∨ (1 ≤ z ∧ 1100 < z ∧ 65536 < z)) (A : Option Addr) (c : Nat) (ps : List ByteArray) (w : World) (hk : QAt w) (hr : Reads w w.heap.size A (stv ps)) (hps : ps.length ≤ 20) (hj : (jn ps).length ≤ 500) (hsz : ∀ s ∈ ps, s.size ≤ 140737488351232) :
    Calls Tryd.prog 4 #[.int .i64 z, .slice A ps.length c] w fun e w' => e = .returned (.bool true) ∧ Below w.heap.size w w' := by
  have C := Lib.hid (awake8_any w hk)
  have HR := Lib.hid hr
  have HS := Lib.hid hsz
  have CL := Lib.hid fun w1 => long_bad z (by omega) A ps.length c w1
  clear hk hr hsz
  rcases hz with ⟨h, h2⟩ | ⟨h, h2, h3⟩
  all_goals
    go_enter Tryd.func4, Tryd.ntmps4
    go_wp2_with fail
    refine C.out.mono ?_
    rintro e w1 ⟨rfl, b1⟩
    go_wp2_with fail
    refine (bytes_any A c ps w1 ((HR.out.below b1).more b1.size) (by omega) HS.out).mono ?_
    rintro e w4 ⟨rfl, rfl⟩
    go_wp2_with fail
    refine (CL.out _).mono ?_
    rintro e w5 ⟨rfl, rfl⟩
    go_wp2
    go_ret
    exact ⟨rfl, b1⟩
set_option maxHeartbeats 1600000 in
theorem lsums_good (n : Nat) (hn1 : 1 ≤ n) (hn : n ≤ 1100) (A : Option Addr) (c : Nat) (ps : List ByteArray) (w : World) (hk : QAt w) (hr : Reads w w.heap.size A (stv ps)) (hps : ps.length ≤ 20) (hj : (jn ps).length ≤ 500) (hsz : ∀ s ∈ ps, s.size ≤ 140737488351232) :
    Calls Tryd.prog 4 #[.int .i64 (n : Int), .slice A ps.length c] w fun e w' => e = .returned (.bool true) ∧ Below w.heap.size w w' := by
  have CW := Lib.hid (awake8_any w hk)
  have HK := Lib.hid hk
  have HR := Lib.hid hr
  have HS := Lib.hid hsz
  have CR := Lib.hid (rlong_any n hn1 (by omega) (tx (jn ps)) (by rw [tx_size]; omega))
  rw [tl_tx] at CR
  have CKN := Lib.hid rknown_any
  have CO := Lib.hid fun (w1 : World) (h1 : QAt w1) (h2 : Reads w1 w1.heap.size A (stv ps)) => long_any n hn1 (by omega) w1 h1 A c ps h2 (by omega) (by omega)
  obtain ⟨S, hS⟩ : ∃ S, S = tx (longL n (jn ps)) := ⟨_, rfl⟩
  rw [← hS] at CR CO
  obtain ⟨FX, hFX⟩ : ∃ FX, FX = wq iv := ⟨_, rfl⟩
  rw [← hFX] at CR CKN
  clear hk hr hsz hFX hS
  go_enter Tryd.func4, Tryd.ntmps4
  go_wp2_with fail
  refine CW.out.mono ?_
  rintro e w1 ⟨rfl, b1⟩
  have B1 := Lib.hid b1
  clear b1
  go_wp2_with fail
  refine (bytes_any A c ps w1 ((HR.out.below B1.out).more B1.out.size) (by omega) HS.out).mono ?_
  rintro e w4 ⟨rfl, rfl⟩
  go_wp2_with fail
  refine (CO.out w1 (HK.out.next B1.out) ((HR.out.below B1.out).more B1.out.size)).mono ?_
  rintro e w2 ⟨rfl, b2⟩
  have B2 := Lib.hid (below_step B1.out b2)
  clear b2
  go_wp2_with fail
  refine (CKN.out w2).mono ?_
  rintro e w3 ⟨rfl, b3⟩
  have B3 := Lib.hid (below_step B2.out b3)
  clear b3
  go_wp2_with fail
  refine (joined_any A c ps w3 ((HR.out.below B3.out).more B3.out.size) (by omega) (by omega)).mono ?_
  rintro e w3' ⟨rfl, rfl⟩
  generalize tx (jn ps) = TX at *
  go_wp2_with fail
  refine (CR.out w3).mono ?_
  rintro e w5 ⟨rfl, b5⟩
  have B5 := Lib.hid (below_step B3.out b5)
  clear b5
  go_wp2
  go_ret
  exact ⟨rfl, B5.out⟩
theorem lsums_any (z : Int) (A : Option Addr) (c : Nat) (ps : List ByteArray) (w : World) (hk : QAt w) (hr : Reads w w.heap.size A (stv ps)) (hm : ps.length ≤ maxLen) (hsz : ∀ s ∈ ps, s.size ≤ 140737488351232) :
    Calls Tryd.prog 4 #[.int .i64 z, .slice A ps.length c] w fun e w' => e = .returned (.bool true) ∧ Below w.heap.size w w' := by
  by_cases h0 : 1100 < z ∧ z ≤ 65536
  · exact lsums_size z h0.1 h0.2 A ps.length c w hk
  · by_cases h1 : 20 < ps.length
    · exact lsums_many z (by omega) A ps.length c w hk h1 hm
    · by_cases h2 : 500 < (jn ps).length
      · exact lsums_long z (by omega) A c ps w hk hr (by omega) h2 hsz
      · by_cases hbad : z < 1 ∨ 65536 < z
        · exact lsums_bad z (by omega) A c ps w hk hr (by omega) (by omega) hsz
        · obtain ⟨n, rfl⟩ : ∃ n : Nat, z = (n : Int) := ⟨z.toNat, by omega⟩
          exact lsums_good n (by omega) (by omega) A c ps w hk hr (by omega) (by omega) hsz
end Go.Proofs.YtljijgihnoloeaaDoor
