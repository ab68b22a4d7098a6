/- The law MacTags, for every key and list of texts. Conditions: each text is no longer than what may come in; the package's table lies at its place. -/
import Derived.Test.YtmmelpifibhmlaaDoorMxAwake
namespace Go.Proofs.YtmmelpifibhmlaaDoor
set_option maxRecDepth 50000
open Go.RowKit Sha

set_option maxHeartbeats 800000 in
theorem mtags_key (k : ByteArray) (A : Option Addr) (m c : Nat) (w : World) (hk : KAt w) (hk1 : 300 < k.size) (hk2 : k.size ≤ 140737488351232) :
    Calls Tryd.prog 3 #[.string k, .slice A m c] w fun e w' => e = .returned (.bool true) ∧ Below w.heap.size w w' := by
  have HK := Lib.hid hk
  clear hk
  go_enter Tryd.func3, Tryd.ntmps3
  go_wp2_with fail
  refine (awakem_any w HK.out).mono ?_
  rintro e w1 ⟨rfl, b1⟩
  go_wp2
  go_ret
  exact ⟨rfl, b1⟩
set_option maxHeartbeats 800000 in
theorem mtags_many (k : ByteArray) (A : Option Addr) (m c : Nat) (w : World) (hk : KAt w) (hk1 : k.size ≤ 300) (hm : 20 < m) (hm2 : m ≤ maxLen) :
    Calls Tryd.prog 3 #[.string k, .slice A m c] w fun e w' => e = .returned (.bool true) ∧ Below w.heap.size w w' := by
  unfold maxLen at hm2
  have HK := Lib.hid hk
  clear hk
  go_enter Tryd.func3, Tryd.ntmps3
  go_wp2_with fail
  refine (awakem_any w HK.out).mono ?_
  rintro e w1 ⟨rfl, b1⟩
  go_wp2
  go_ret
  exact ⟨rfl, b1⟩
set_option maxHeartbeats 800000 in
theorem mtags_long (k : ByteArray) (A : Option Addr) (c : Nat) (ps : List ByteArray) (w : World) (hk : KAt w) (hk1 : k.size ≤ 300) (hr : Reads w w.heap.size A (stv ps)) (hps : ps.length ≤ 20) (hj : 500 < (jn ps).length) (hsz : ∀ s ∈ ps, s.size ≤ 140737488351232) :
    Calls Tryd.prog 3 #[.string k, .slice A ps.length c] w fun e w' => e = .returned (.bool true) ∧ Below w.heap.size w w' := by
  have HK := Lib.hid hk
  have HR := Lib.hid hr
  have HS := Lib.hid hsz
  clear hk hr hsz
  go_enter Tryd.func3, Tryd.ntmps3
  go_wp2_with fail
  refine (awakem_any w HK.out).mono ?_
  rintro e w1 ⟨rfl, b1⟩
  go_wp2_with fail
  refine (bytes_any A c ps w1 ((HR.out.below b1).more b1.size) (by omega) HS.out).mono ?_
  rintro e w4 ⟨rfl, rfl⟩
  go_wp2
  go_ret
  exact ⟨rfl, b1⟩
set_option maxHeartbeats 800000 in
theorem mtags_good (k : ByteArray) (A : Option Addr) (c : Nat) (ps : List ByteArray) (w : World) (hk : KAt w) (hk1 : k.size ≤ 300) (hr : Reads w w.heap.size A (stv ps)) (hps : ps.length ≤ 20) (hj : (jn ps).length ≤ 500) (hsz : ∀ s ∈ ps, s.size ≤ 140737488351232) :
    Calls Tryd.prog 3 #[.string k, .slice A ps.length c] w fun e w' => e = .returned (.bool true) ∧ Below w.heap.size w w' := by
  have HK := Lib.hid hk
  have HR := Lib.hid hr
  have HS := Lib.hid hsz
  have CTAG := Lib.hid rtag_any
  have CKN := Lib.hid known_any
  obtain ⟨FX, hFX⟩ : ∃ FX, FX = wd (kk ++ hh) := ⟨_, rfl⟩
  rw [← hFX] at CTAG CKN
  clear hk hr hsz hFX
  go_enter Tryd.func3, Tryd.ntmps3
  go_wp2_with fail
  refine (awakem_any w HK.out).mono ?_
  rintro e w1 ⟨rfl, b1⟩
  have B1 := Lib.hid b1
  clear b1
  go_wp2_with fail
  refine (bytes_any A c ps w1 ((HR.out.below B1.out).more B1.out.size) (by omega) HS.out).mono ?_
  rintro e w1' ⟨rfl, rfl⟩
  go_wp2_with fail
  refine (macof_any k (by omega) w1 (HK.out.next B1.out) A c ps ((HR.out.below B1.out).more B1.out.size) (by omega) (by omega)).mono ?_
  rintro e w2 ⟨rfl, b2⟩
  have B2 := Lib.hid (below_step B1.out b2)
  clear b2
  go_wp2_with fail
  refine (CKN.out w2).mono ?_
  rintro e w3 ⟨rfl, b3⟩
  have B3 := Lib.hid (below_step B2.out b3)
  clear b3
  go_wp2_with fail
  refine (joined_any A c ps w3 ((HR.out.below B3.out).more B3.out.size) (by omega) (by omega)).mono ?_
  rintro e w3' ⟨rfl, rfl⟩
  have CX := Lib.hid (CTAG.out k (tx (jn ps)) (by omega) (by rw [tx_size]; omega) w3)
  rw [tl_tx] at CX
  generalize jn ps = X at *
  generalize tagL (tl k) X = D at *
  generalize tx X = TX at *
  go_wp2_with fail
  refine CX.out.mono ?_
  rintro e w4 ⟨rfl, b4⟩
  have B4 := Lib.hid (below_step B3.out b4)
  clear b4
  go_wp2
  go_ret
  exact ⟨rfl, B4.out⟩
theorem mtags_any (k : ByteArray) (hk2 : k.size ≤ 140737488351232) (A : Option Addr) (c : Nat) (ps : List ByteArray) (w : World) (hk : KAt w) (hr : Reads w w.heap.size A (stv ps)) (hm : ps.length ≤ maxLen) (hsz : ∀ s ∈ ps, s.size ≤ 140737488351232) :
    Calls Tryd.prog 3 #[.string k, .slice A ps.length c] w fun e w' => e = .returned (.bool true) ∧ Below w.heap.size w w' := by
  by_cases h0 : 300 < k.size
  · exact mtags_key k A ps.length c w hk h0 hk2
  · by_cases h1 : 20 < ps.length
    · exact mtags_many k A ps.length c w hk (by omega) h1 hm
    · by_cases h2 : 500 < (jn ps).length
      · exact mtags_long k A c ps w hk (by omega) hr (by omega) h2 hsz
      · exact mtags_good k A c ps w hk (by omega) hr (by omega) (by omega) hsz
end Go.Proofs.YtmmelpifibhmlaaDoor
