/- The law EksSetups, out of what package eks and the document's side answer. Conditions: those typed. -/
import Derived.Test.YtglmfagmlfjceaaEkSetup
import Derived.Test.YtglmfagmlfjceaaEkRef
namespace Go.Proofs.Ytglmfagmlfjceaa
set_option maxRecDepth 50000
open Go.RowKit Ci Rot

theorem awake11_any (w : World) : Calls Try.prog 5 #[] w fun e w' => e = .returned (.bool true) ∧ w' = w := by
  have C := Lib.hid (fun w1 => rounds_any 4 (by decide) (by decide) w1)
  have D := Lib.hid (fun w1 => setup_size 4 (by decide) (by decide) ⟨#[49, 50, 51, 52, 53, 54, 55, 56, 57, 48, 49, 50, 51, 52, 53]⟩ ⟨#[97]⟩ (by decide) w1)
  go_enter Try.func5, Try.ntmps5
  go_wp2_with fail
  refine (C.out w).mono ?_
  rintro e w1 ⟨rfl, rfl⟩
  go_wp2_with fail
  refine (D.out _).mono ?_
  rintro e w2 ⟨rfl, rfl⟩
  go_wp2
  go_ret
  exact ⟨rfl, rfl⟩

theorem setups_params (c : Int) (h : c < 4 ∨ 31 < c) (salt key : ByteArray) (l r : Nat) (w : World) :
    Calls Try.prog 3 #[.int .i64 c, .string salt, .string key, .int .u32 (l : Int), .int .u32 (r : Int)] w fun e w' => e = .returned (.bool true) ∧ Below w.heap.size w w' := by
  have C := Lib.hid (rounds_bad c h)
  have D := Lib.hid (setup_params c h salt key)
  have hc : c < 4 ∨ (4 ≤ c ∧ 31 < c) := by omega
  clear h
  rcases hc with h1 | ⟨h1, h2⟩
  all_goals
    go_enter Try.func3, Try.ntmps3
    go_wp2_with fail
    refine (awake11_any w).mono ?_
    rintro e w1 ⟨rfl, rfl⟩
    go_wp2_with fail
    refine (C.out _).mono ?_
    rintro e w2 ⟨rfl, rfl⟩
    go_wp2_with fail
    refine (D.out _).mono ?_
    rintro e w3 ⟨rfl, rfl⟩
    go_wp2
    go_ret
    exact ⟨rfl, Below.refl _ _⟩

theorem wrap_pow (c : Nat) (h : c ≤ 31) : wrap64 ((2 : Int) ^ c) = (2 : Int) ^ c := by
  have hz : (2 : Int) ^ c = ((2 ^ c : Nat) : Int) := by simp
  have hb : 2 ^ c ≤ 2147483648 := pow_le c 31 h
  rw [hz]
  generalize 2 ^ c = P at *
  unfold wrap64
  omega
theorem setups_size (c : Nat) (h4 : 4 ≤ c) (h31 : c ≤ 31) (salt key : ByteArray) (h : salt.size ≠ 16) (l r : Nat) (w : World) :
    Calls Try.prog 3 #[.int .i64 (c : Int), .string salt, .string key, .int .u32 (l : Int), .int .u32 (r : Int)] w fun e w' => e = .returned (.bool true) ∧ Below w.heap.size w w' := by
  have C := Lib.hid (rounds_any c h4 h31)
  have D := Lib.hid (setup_size c h4 h31 salt key h)
  have c1 : (4 : Int) ≤ (c : Int) := by omega
  have c2 : (c : Int) ≤ 31 := by omega
  have hz : (salt.size : Int) ≠ 16 := by omega
  have hw := wrap_pow c h31
  clear h4 h31 h
  go_enter Try.func3, Try.ntmps3
  go_wp2_with fail
  refine (awake11_any w).mono ?_
  rintro e w1 ⟨rfl, rfl⟩
  go_wp2_with fail
  refine (C.out _).mono ?_
  rintro e w2 ⟨rfl, rfl⟩
  go_wp2_with fail
  refine (D.out _).mono ?_
  rintro e w3 ⟨rfl, rfl⟩
  go_wp2
  go_ret
  exact ⟨rfl, Below.refl _ _⟩
theorem setups_long (c : Nat) (h4 : 4 ≤ c) (h31 : c ≤ 31) (salt key : ByteArray) (h : salt.size = 16) (hk : key.size = 0 ∨ 72 < key.size) (l r : Nat) (w : World) :
    Calls Try.prog 3 #[.int .i64 (c : Int), .string salt, .string key, .int .u32 (l : Int), .int .u32 (r : Int)] w fun e w' => e = .returned (.bool true) ∧ Below w.heap.size w w' := by
  have C := Lib.hid (rounds_any c h4 h31)
  have D := Lib.hid (setup_long c h4 h31 salt key h hk)
  have c1 : (4 : Int) ≤ (c : Int) := by omega
  have c2 : (c : Int) ≤ 31 := by omega
  have hz : (salt.size : Int) = 16 := by omega
  have hw := wrap_pow c h31
  have hcase : (key.toList ≠ [] ∧ key.toList.isEmpty = false ∧ (key.toList == []) = false ∧ (72 : Int) < (key.size : Int)) ∨ (key.toList = [] ∧ key.toList.isEmpty = true ∧ (key.toList == []) = true) := by
    by_cases h0 : key.size = 0
    · exact .inr (text_none key h0)
    · obtain ⟨a, b, c⟩ := text_some key h0
      exact .inl ⟨a, b, c, by omega⟩
  clear h4 h31 h hk
  rcases hcase with ⟨k1, k2, k3, k4⟩ | ⟨k1, k2, k3⟩
  all_goals
    go_enter Try.func3, Try.ntmps3
    go_wp2_with fail
    refine (awake11_any w).mono ?_
    rintro e w1 ⟨rfl, rfl⟩
    go_wp2_with fail
    refine (C.out _).mono ?_
    rintro e w2 ⟨rfl, rfl⟩
    go_wp2_with fail
    refine (D.out _).mono ?_
    rintro e w3 ⟨rfl, rfl⟩
    go_wp2
    go_ret
    exact ⟨rfl, Below.refl _ _⟩
theorem setups_more (c : Nat) (h4 : 4 < c) (h31 : c ≤ 31) (salt key : ByteArray) (h : salt.size = 16) (hk : key.size ≠ 0) (hk2 : key.size ≤ 72) (l r : Nat) (w : World) :
    Calls Try.prog 3 #[.int .i64 (c : Int), .string salt, .string key, .int .u32 (l : Int), .int .u32 (r : Int)] w fun e w' => e = .returned (.bool true) ∧ Below w.heap.size w w' := by
  have C := Lib.hid (rounds_any c (by omega) h31)
  have c1 : (4 : Int) < (c : Int) := by omega
  have c2 : (c : Int) ≤ 31 := by omega
  have hz : (salt.size : Int) = 16 := by omega
  have hw := wrap_pow c h31
  obtain ⟨k1, k2, k3⟩ := text_some key hk
  have k4 : (key.size : Int) ≤ 72 := by omega
  clear h4 h31 h hk hk2
  go_enter Try.func3, Try.ntmps3
  go_wp2_with fail
  refine (awake11_any w).mono ?_
  rintro e w1 ⟨rfl, rfl⟩
  go_wp2_with fail
  refine (C.out _).mono ?_
  rintro e w2 ⟨rfl, rfl⟩
  go_wp2
  go_ret
  exact ⟨rfl, Below.refl _ _⟩
set_option maxHeartbeats 1600000 in
theorem setups_four (salt key : ByteArray) (h : salt.size = 16) (hk : key.size ≠ 0) (hk2 : key.size ≤ 72) (l r : Nat) (hl : l < 4294967296) (hr : r < 4294967296) (w : World) :
    Calls Try.prog 3 #[.int .i64 4, .string salt, .string key, .int .u32 (l : Int), .int .u32 (r : Int)] w fun e w' => e = .returned (.bool true) ∧ Below w.heap.size w w' := by
  have C := Lib.hid (rounds_any 4 (by decide) (by decide))
  have hD := fun w1 : World => setup_any 4 (by decide) (by decide) salt key h hk hk2 w1
  have hE := fun (w1 : World) (d c : Nat) (hT : RTab w1 d wordN) => rsetup_any 16 (by decide) salt key (by omega) (by omega) wordN wordN_ok w1 d c hT
  rw [show (2 : Nat) ^ 4 = 16 from rfl] at C hD
  obtain ⟨G, hG⟩ : ∃ G, G = ekTo (exB wordN salt key) salt key 16 := ⟨_, rfl⟩
  have hGo : Ok G := by rw [hG]; exact ekTo_ok (exB_ok wordN_ok _ _) _ _ _
  rw [← hG] at hD hE
  have D := Lib.hid hD
  have E := Lib.hid hE
  have HE := Lib.hid (fun (w1 : World) (b : Nat) (hT : Tab w1 b 55 G) => And.intro (enc_of w1 b G hT hGo l r hl hr) (sum_any w1 b G hT hGo))
  have HRE := Lib.hid (fun (w1 : World) (d : Nat) (hT : RTab w1 d G) => And.intro (renc_of w1 d 1042 G hT hGo l r hl hr) (rsum_any w1 d 1042 G hT hGo))
  generalize enL G l r = a at *
  generalize enR G l r = a2 at *
  generalize smTo G 1042 = sm at *
  have hz : (salt.size : Int) = 16 := by omega
  obtain ⟨k1, k2, k3⟩ := text_some key hk
  have k4 : (key.size : Int) ≤ 72 := by omega
  clear h hk hk2 hD hE hG hGo hl hr
  go_enter Try.func3, Try.ntmps3
  go_wp2_with fail
  refine (awake11_any w).mono ?_
  rintro e w1 ⟨rfl, rfl⟩
  go_wp2_with fail
  refine (C.out _).mono ?_
  rintro e w2 ⟨rfl, rfl⟩
  go_wp2_with fail
  refine (D.out _).mono ?_
  rintro e w3 ⟨b, rfl, hT, hbb, hb3⟩
  have H3 := Lib.hid (And.intro hT hb3)
  clear hT hbb hb3
  go_wp2_with fail
  refine (rplain_any w3).mono ?_
  rintro e w4 ⟨d, c, rfl, hT4, _, hb4⟩
  have H4 := Lib.hid (And.intro hT4 (And.intro (H3.out.1.below hb4 H3.out.1.lt) (H3.out.2.trans (hb4.mono H3.out.2.size))))
  clear hT4 hb4
  go_wp2_with fail
  refine (E.out w4 d c H4.out.1).mono ?_
  rintro e w5 ⟨d2, rfl, hT5, hb5⟩
  have H5 := Lib.hid (And.intro hT5 (And.intro (H4.out.2.1.below hb5 H4.out.2.1.lt) (H4.out.2.2.trans (hb5.mono H4.out.2.2.size))))
  clear hT5 hb5
  go_wp2_with fail
  refine ((HE.out w5 b H5.out.2.1).1).mono ?_
  rintro e w6 ⟨rfl, q1, rfl⟩
  go_wp2_with fail
  refine ((HRE.out _ d2 (H5.out.1.drewN _)).1).mono ?_
  rintro e w7 ⟨rfl, q2, rfl⟩
  go_wp2_with fail
  refine ((HE.out _ b (H5.out.2.1.drewN _)).2).mono ?_
  rintro e w8 ⟨rfl, hb8⟩
  have H8 : Hid (RTab w8 d2 G ∧ Below w2.heap.size w2 w8) := Lib.hid ⟨RTab.below (H5.out.1.drewN _) hb8 H5.out.1.lt, (below_drewN H5.out.2.2 _).trans (hb8.mono H5.out.2.2.size)⟩
  clear hb8
  go_wp2_with fail
  refine ((HRE.out w8 d2 H8.out.1).2).mono ?_
  rintro e w9 ⟨rfl, rfl⟩
  go_wp2
  go_ret
  exact ⟨rfl, H8.out.2⟩
theorem setups_any (c : Int) (salt key : ByteArray) (l r : Nat) (hl : l < 4294967296) (hr : r < 4294967296) (w : World) :
    Calls Try.prog 3 #[.int .i64 c, .string salt, .string key, .int .u32 (l : Int), .int .u32 (r : Int)] w fun e w' => e = .returned (.bool true) ∧ Below w.heap.size w w' := by
  by_cases hc : c < 4 ∨ 31 < c
  · exact setups_params c hc salt key l r w
  · obtain ⟨m, rfl⟩ := Int.eq_ofNat_of_zero_le (show 0 ≤ c by omega)
    by_cases hs : salt.size = 16
    · by_cases hk : key.size = 0 ∨ 72 < key.size
      · exact setups_long m (by omega) (by omega) salt key hs hk l r w
      · by_cases h4 : 4 < m
        · exact setups_more m h4 (by omega) salt key hs (by omega) (by omega) l r w
        · obtain rfl : m = 4 := by omega
          exact setups_four salt key hs (by omega) (by omega) l r hl hr w
    · exact setups_size m (by omega) (by omega) salt key hs l r w
end Go.Proofs.Ytglmfagmlfjceaa
