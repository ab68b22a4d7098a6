/- The law MacChains, for every key, two texts and an int. Conditions: each text is no longer than what may come in; the package's table lies at its place. -/
import Derived.Test.YtmmelpifibhmlaaDoorMxAwake
namespace Go.Proofs.YtmmelpifibhmlaaDoor
set_option maxRecDepth 50000
open Go.RowKit Sha

set_option maxHeartbeats 1600000 in
theorem mchains_texts (k u : ByteArray) (A : Option Addr) (m c : Nat) (x : Int) (w : World) (hk : KAt w) (hk1 : 300 < k.size ∨ (k.size ≤ 300 ∧ 200 < u.size) ∨ (k.size ≤ 300 ∧ u.size ≤ 200 ∧ 20 < m)) (hk2 : k.size ≤ 140737488351232) (hu2 : u.size ≤ 140737488351232) (hm : m ≤ maxLen) :
    Calls Tryd.prog 4 #[.string k, .string u, .slice A m c, .int .i64 x] w fun e w' => e = .returned (.bool true) ∧ Below w.heap.size w w' := by
  unfold maxLen at hm
  have HK := Lib.hid hk
  clear hk
  rcases hk1 with hk1 | ⟨hk1, hu1⟩ | ⟨hk1, hu1, hm1⟩
  all_goals
    go_enter Tryd.func4, Tryd.ntmps4
    go_wp2_with fail
    refine (awakem_any w HK.out).mono ?_
    rintro e w1 ⟨rfl, b1⟩
    go_wp2
    go_ret
    exact ⟨rfl, b1⟩
set_option maxHeartbeats 1600000 in
theorem mchains_long (k u : ByteArray) (A : Option Addr) (c : Nat) (ps : List ByteArray) (x : Int) (w : World) (hk : KAt w) (hk1 : k.size ≤ 300) (hu1 : u.size ≤ 200) (hr : Reads w w.heap.size A (stv ps)) (hps : ps.length ≤ 20) (hj : 300 < (jn ps).length ∨ ((jn ps).length ≤ 300 ∧ 6 < x)) (hsz : ∀ s ∈ ps, s.size ≤ 140737488351232) :
    Calls Tryd.prog 4 #[.string k, .string u, .slice A ps.length c, .int .i64 x] w fun e w' => e = .returned (.bool true) ∧ Below w.heap.size w w' := by
  have HK := Lib.hid hk
  have HR := Lib.hid hr
  have HS := Lib.hid hsz
  clear hk hr hsz
  rcases hj with hj | ⟨hj, hx⟩
  all_goals
    go_enter Tryd.func4, Tryd.ntmps4
    go_wp2_with fail
    refine (awakem_any w HK.out).mono ?_
    rintro e w1 ⟨rfl, b1⟩
    go_wp2_with fail
    refine (bytes_any A c ps w1 ((HR.out.below b1).more b1.size) (by omega) HS.out).mono ?_
    rintro e w4 ⟨rfl, rfl⟩
    go_wp2
    go_ret
    exact ⟨rfl, b1⟩

/-- what both sides come to -/
def chainV (K C X : List UInt8) (x : Int) : Value := if x < 1 then .tuple #[.string ⟨#[]⟩, .string ⟨#[]⟩] else .tuple #[.string (tx (lastL K C X (x.toNat - 1))), .string (tx (allL K C X (x.toNat - 1)))]
theorem chainV_two (K C X : List UInt8) (x : Int) : ∃ a b, chainV K C X x = .tuple #[.string a, .string b] := by
  unfold chainV
  split <;> exact ⟨_, _, rfl⟩
theorem chain_all (w : World) (M : Nat) (K C : List UInt8) (h : MacIs w M K C) (hk : KAt w) (x : Int) (hn : x ≤ 1000000) (A : Option Addr) (c : Nat) (ps : List ByteArray) (hr : Reads w w.heap.size A (stv ps)) (hlen : C.length + (jn ps).length ≤ 10000) (hps : ps.length ≤ 1000000) :
    Calls Tryd.prog 14 #[.pointer (some ⟨M, 0, none⟩), .int .i64 x, .slice A ps.length c] w fun e w' => e = .returned (chainV K C (jn ps) x) ∧ Below w.heap.size w w' := by
  unfold chainV
  split
  · rename_i h1
    refine (chain_low w M x h1 A ps.length c).mono ?_
    rintro e w' ⟨rfl, rfl⟩
    exact ⟨rfl, Below.refl _ _⟩
  · obtain ⟨n, rfl⟩ : ∃ n : Nat, x = (n : Int) := ⟨x.toNat, by omega⟩
    rw [Int.toNat_natCast]
    exact chain_any w M K C h hk n (by omega) (by omega) A c ps hr hlen hps
theorem rchain_all (k came t : ByteArray) (hk : k.size ≤ 1000) (hct : came.size + t.size ≤ 900) (x : Int) (hm : x ≤ 1000000) (w : World) :
    Calls Tryd.prog 15 #[.agg (wd (kk ++ hh)), .string k, .string came, .string t, .int .i64 x] w fun e w' => e = .returned (chainV (tl k) (tl came) (tl t) x) ∧ Below w.heap.size w w' := by
  unfold chainV
  split
  · rename_i h1
    exact rchain_low _ k came t x h1 w
  · obtain ⟨n, rfl⟩ : ∃ n : Nat, x = (n : Int) := ⟨x.toNat, by omega⟩
    rw [Int.toNat_natCast]
    exact rchain_any k came t hk hct n (by omega) (by omega) w

set_option maxHeartbeats 1600000 in
theorem mchains_good (k u : ByteArray) (A : Option Addr) (c : Nat) (ps : List ByteArray) (x : Int) (w : World) (hk : KAt w) (hk1 : k.size ≤ 300) (hu1 : u.size ≤ 200) (hr : Reads w w.heap.size A (stv ps)) (hps : ps.length ≤ 20) (hj : (jn ps).length ≤ 300) (hx : x ≤ 6) (hsz : ∀ s ∈ ps, s.size ≤ 140737488351232) :
    Calls Tryd.prog 4 #[.string k, .string u, .slice A ps.length c, .int .i64 x] w fun e w' => e = .returned (.bool true) ∧ Below w.heap.size w w' := by
  have HK := Lib.hid hk
  have HR := Lib.hid hr
  have HS := Lib.hid hsz
  have CTAG := Lib.hid rchain_all
  have CKN := Lib.hid known_any
  obtain ⟨FX, hFX⟩ : ∃ FX, FX = wd (kk ++ hh) := ⟨_, rfl⟩
  rw [← hFX] at CTAG CKN
  clear hk hr hsz hFX
  go_enter Tryd.func4, Tryd.ntmps4
  go_wp2_with fail
  refine (awakem_any w HK.out).mono ?_
  rintro e w1 ⟨rfl, b1⟩
  have B1 := Lib.hid b1
  clear b1
  go_wp2_with fail
  refine (bytes_any A c ps w1 ((HR.out.below B1.out).more B1.out.size) (by omega) HS.out).mono ?_
  rintro e w1' ⟨rfl, rfl⟩
  go_wp2_with fail
  refine (newmac_any k (by omega) w1 (HK.out.next B1.out)).mono ?_
  rintro e w2 ⟨M, rfl, h2, b2⟩
  have B2 := Lib.hid (below_step B1.out b2)
  have CW := Lib.hid (withone_any w2 M (tl k) [] h2 (HK.out.next B2.out) u (by simp; omega))
  rw [List.nil_append] at CW
  clear b2 h2
  go_wp2_with fail
  refine CW.out.mono ?_
  rintro e w3 ⟨M3, rfl, h3, b3⟩
  have B3 := Lib.hid (below_step B2.out b3)
  have CC := Lib.hid (chain_all w3 M3 (tl k) (tl u) h3 (HK.out.next B3.out) x (by omega) A c ps ((HR.out.below B3.out).more B3.out.size) (by rw [tl_length]; omega) (by omega))
  have CX := Lib.hid fun (W : World) => CTAG.out k u (tx (jn ps)) (by omega) (by rw [tx_size]; omega) x (by omega) W
  rw [tl_tx] at CX
  obtain ⟨a, b, hab⟩ := chainV_two (tl k) (tl u) (jn ps) x
  rw [hab] at CC CX
  clear b3 h3 CW hab
  go_wp2_with fail
  refine CC.out.mono ?_
  rintro e w4 ⟨rfl, b4⟩
  have B4 := Lib.hid (below_step B3.out b4)
  clear b4 CC
  go_wp2_with fail
  refine (CKN.out w4).mono ?_
  rintro e w5 ⟨rfl, b5⟩
  have B5 := Lib.hid (below_step B4.out b5)
  clear b5
  go_wp2_with fail
  refine (joined_any A c ps w5 ((HR.out.below B5.out).more B5.out.size) (by omega) (by omega)).mono ?_
  rintro e w5' ⟨rfl, rfl⟩
  generalize tx (jn ps) = TX at *
  go_wp2_with fail
  refine (CX.out _).mono ?_
  rintro e w6 ⟨rfl, b6⟩
  have B6 := Lib.hid (below_step B5.out b6)
  clear b6
  go_wp2
  go_ret
  exact ⟨rfl, B6.out⟩
theorem mchains_any (k u : ByteArray) (hk2 : k.size ≤ 140737488351232) (hu2 : u.size ≤ 140737488351232) (A : Option Addr) (c : Nat) (ps : List ByteArray) (x : Int) (w : World) (hk : KAt w) (hr : Reads w w.heap.size A (stv ps)) (hm : ps.length ≤ maxLen) (hsz : ∀ s ∈ ps, s.size ≤ 140737488351232) :
    Calls Tryd.prog 4 #[.string k, .string u, .slice A ps.length c, .int .i64 x] w fun e w' => e = .returned (.bool true) ∧ Below w.heap.size w w' := by
  by_cases h0 : 300 < k.size
  · exact mchains_texts k u A ps.length c x w hk (.inl h0) hk2 hu2 hm
  · by_cases h1 : 200 < u.size
    · exact mchains_texts k u A ps.length c x w hk (.inr (.inl ⟨by omega, h1⟩)) hk2 hu2 hm
    · by_cases h2 : 20 < ps.length
      · exact mchains_texts k u A ps.length c x w hk (.inr (.inr ⟨by omega, by omega, h2⟩)) hk2 hu2 hm
      · by_cases h3 : 300 < (jn ps).length
        · exact mchains_long k u A c ps x w hk (by omega) (by omega) hr (by omega) (.inl h3) hsz
        · by_cases h4 : 6 < x
          · exact mchains_long k u A c ps x w hk (by omega) (by omega) hr (by omega) (.inr ⟨by omega, h4⟩) hsz
          · exact mchains_good k u A c ps x w hk (by omega) (by omega) hr (by omega) (by omega) (by omega) hsz
end Go.Proofs.YtmmelpifibhmlaaDoor
