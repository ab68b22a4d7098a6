/- The law ShaSums, for every list of texts. Conditions: each text is no longer than what may come in; the package's table lies at its place. -/
import Derived.Test.YtdgfdgdekocodaaDoorShRsum
import Derived.Test.YtdgfdgdekocodaaDoorOpens
namespace Go.Proofs.YtdgfdgdekocodaaDoor
open Go.RowKit Sha

set_option maxHeartbeats 800000 in
theorem ssums_many (A : Option Addr) (m c : Nat) (w : World) (hk : KAt w) (hm : 50 < m) (hm2 : m ≤ maxLen) :
    Calls Tryd.prog 4 #[.slice A m c] w fun e w' => e = .returned (.bool true) ∧ Below w.heap.size w w' := by
  unfold maxLen at hm2
  have HK := Lib.hid hk
  clear hk
  go_enter Tryd.func4, Tryd.ntmps4
  go_wp2_with fail
  refine (awake_any w HK.out).mono ?_
  rintro e w1 ⟨rfl, b1⟩
  go_wp2
  go_ret
  exact ⟨rfl, b1⟩
set_option maxHeartbeats 800000 in
theorem ssums_long (A : Option Addr) (c : Nat) (ps : List ByteArray) (w : World) (hk : KAt w) (hr : Reads w w.heap.size A (stv ps)) (hps : ps.length ≤ 50) (hj : 1000 < (jn ps).length) (hsz : ∀ s ∈ ps, s.size ≤ 140737488351232) :
    Calls Tryd.prog 4 #[.slice A ps.length c] w fun e w' => e = .returned (.bool true) ∧ Below w.heap.size w w' := by
  have HK := Lib.hid hk
  have HR := Lib.hid hr
  have HS := Lib.hid hsz
  clear hk hr hsz
  go_enter Tryd.func4, Tryd.ntmps4
  go_wp2_with fail
  refine (awake_any w HK.out).mono ?_
  rintro e w1 ⟨rfl, b1⟩
  go_wp2_with fail
  refine (bytes_any A c ps w1 ((HR.out.below b1).more b1.size) hps HS.out).mono ?_
  rintro e w4 ⟨rfl, rfl⟩
  go_wp2
  go_ret
  exact ⟨rfl, b1⟩
set_option maxHeartbeats 800000 in
theorem ssums_good (A : Option Addr) (c : Nat) (ps : List ByteArray) (w : World) (hk : KAt w) (hr : Reads w w.heap.size A (stv ps)) (hps : ps.length ≤ 50) (hj : (jn ps).length ≤ 1000) (hsz : ∀ s ∈ ps, s.size ≤ 140737488351232) :
    Calls Tryd.prog 4 #[.slice A ps.length c] w fun e w' => e = .returned (.bool true) ∧ Below w.heap.size w w' := by
  have HK := Lib.hid hk
  have HR := Lib.hid hr
  have HS := Lib.hid hsz
  have CSUM := Lib.hid rsum_any
  have CKN := Lib.hid known_any
  obtain ⟨FX, hFX⟩ : ∃ FX, FX = wd (kk ++ hh) := ⟨_, rfl⟩
  rw [← hFX] at CSUM CKN
  clear hk hr hsz hFX
  go_enter Tryd.func4, Tryd.ntmps4
  go_wp2_with fail
  refine (awake_any w HK.out).mono ?_
  rintro e w1 ⟨rfl, b1⟩
  have B1 := Lib.hid b1
  clear b1
  go_wp2_with fail
  refine (bytes_any A c ps w1 ((HR.out.below B1.out).more B1.out.size) hps HS.out).mono ?_
  rintro e w1' ⟨rfl, rfl⟩
  go_wp2_with fail
  refine (shaof_any w1 (HK.out.next B1.out) A c ps ((HR.out.below B1.out).more B1.out.size) (by omega) (by omega)).mono ?_
  rintro e w2 ⟨rfl, b2⟩
  have B2 := Lib.hid (below_step B1.out b2)
  clear b2
  go_wp2_with fail
  refine (CKN.out w2).mono ?_
  rintro e w3 ⟨rfl, b3⟩
  have B3 := Lib.hid (below_step B2.out b3)
  clear b3
  go_wp2_with fail
  refine (joined_any A c ps w3 ((HR.out.below B3.out).more B3.out.size) hps (by omega)).mono ?_
  rintro e w3' ⟨rfl, rfl⟩
  have CX := Lib.hid (CSUM.out (tx (jn ps)) (by rw [tx_size]; omega) w3)
  rw [tl_tx] at CX
  generalize jn ps = X at *
  generalize shaL X = D at *
  generalize tx X = TX at *
  go_wp2_with fail
  refine CX.out.mono ?_
  rintro e w4 ⟨rfl, b4⟩
  have B4 := Lib.hid (below_step B3.out b4)
  clear b4
  go_wp2
  go_ret
  exact ⟨rfl, B4.out⟩
theorem ssums_any (A : Option Addr) (c : Nat) (ps : List ByteArray) (w : World) (hk : KAt w) (hr : Reads w w.heap.size A (stv ps)) (hm : ps.length ≤ maxLen) (hsz : ∀ s ∈ ps, s.size ≤ 140737488351232) :
    Calls Tryd.prog 4 #[.slice A ps.length c] w fun e w' => e = .returned (.bool true) ∧ Below w.heap.size w w' := by
  by_cases h1 : 50 < ps.length
  · exact ssums_many A ps.length c w hk h1 hm
  · by_cases h2 : 1000 < (jn ps).length
    · exact ssums_long A c ps w hk hr (by omega) h2 hsz
    · exact ssums_good A c ps w hk hr (by omega) (by omega) hsz
end Go.Proofs.YtdgfdgdekocodaaDoor
