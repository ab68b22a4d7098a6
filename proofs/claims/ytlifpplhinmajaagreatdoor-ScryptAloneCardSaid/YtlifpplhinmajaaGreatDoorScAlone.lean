/- The law ScryptAlone, for every budget, password, salt, log, r, p and size. Conditions: each text is no longer than what may come in; both packages' tables lie at their places. -/
import Derived.Test.YtlifpplhinmajaaGreatDoorScNeeds
namespace Go.Proofs.YtlifpplhinmajaaGreatDoor
set_option maxRecDepth 50000
open Go.RowKit Bb Sl Sha

/-- two arenas, one of which alone turns -/
structure Ab (w wi : World) (a b D E B ha hb c : Nat) : Prop where
  are : AreAt wi a D 0 ha 0
  bre : AreAt wi b E B hb c
  k : KAt wi
  q : QAt wi
  low : Below w.heap.size w wi
  na : w.heap.size ≤ a
  nb : w.heap.size ≤ b
  ne : ¬ a = b
  ql : 2 < w.heap.size
  kl : 0 < w.heap.size
section
variable {w wi w' : World} {a b D E B ha hb c ha' hb' c' B' : Nat}
theorem Ab.below (h : Ab w wi a b D E B ha hb c) (hk : Below wi.heap.size wi w') : Ab w w' a b D E B ha hb c :=
  ⟨RowAt.below h.are hk (RowAt.lt h.are), RowAt.below h.bre hk (RowAt.lt h.bre), h.k.next hk, h.q.next hk, below_step h.low hk, h.na, h.nb, h.ne, h.ql, h.kl⟩
theorem Ab.turnA (h : Ab w wi a b D E B ha hb c) (hk : Kept (fun x => x = a) wi w') (hA : AreAt w' a D 0 ha' 0) : Ab w w' a b D E B ha' hb c := by
  have h1 := h.na; have h2 := h.ql; have h3 := h.kl; have h4 := h.low.size; have h5 := h.ne
  have hb1 := hk.below (B := w.heap.size) h4 (fun x e => by omega)
  exact ⟨hA, RowAt.kept h.bre hk (fun e => h5 e.symm), h.k.below hb1 h3, h.q.below hb1 h2, h.low.trans hb1, h1, h.nb, h5, h2, h3⟩
theorem Ab.turnB (h : Ab w wi a b D E B ha hb c) (hk : Kept (fun x => x = b) wi w') (hA : AreAt w' b E B' hb' c') : Ab w w' a b D E B' ha hb' c' := by
  have h1 := h.nb; have h2 := h.ql; have h3 := h.kl; have h4 := h.low.size; have h5 := h.ne
  have hb1 := hk.below (B := w.heap.size) h4 (fun x e => by omega)
  exact ⟨RowAt.kept h.are hk h5, hA, h.k.below hb1 h3, h.q.below hb1 h2, h.low.trans hb1, h.na, h1, h5, h2, h3⟩
end
set_option maxHeartbeats 3200000 in
theorem salone_guard (z : Int) (u s : ByteArray) (hu : u.size ≤ 140737488351232) (hs : s.size ≤ 140737488351232) (log r p b : Int) (w : World) (hk : KAt w) (hq : QAt w) (h : z < 0 ∨ 1000 < z ∨ 200 < u.size ∨ 200 < s.size ∨ 4 < log ∨ 3 < r ∨ 3 < p) :
    Calls Tryz.prog 5 #[.int .i64 z, .string u, .string s, .int .i64 log, .int .i64 r, .int .i64 p, .int .i64 b] w fun e w' => e = .returned (.bool true) ∧ Below w.heap.size w w' := by
  have CA := Lib.hid (awake25_any w hk hq)
  clear hk hq
  have hway : z < 0 ∨ (0 ≤ z ∧ 1000 < z) ∨ (0 ≤ z ∧ z ≤ 1000 ∧ 200 < u.size) ∨ (0 ≤ z ∧ z ≤ 1000 ∧ u.size ≤ 200 ∧ 200 < s.size) ∨ (0 ≤ z ∧ z ≤ 1000 ∧ u.size ≤ 200 ∧ s.size ≤ 200 ∧ 4 < log) ∨ (0 ≤ z ∧ z ≤ 1000 ∧ u.size ≤ 200 ∧ s.size ≤ 200 ∧ log ≤ 4 ∧ 3 < r) ∨ (0 ≤ z ∧ z ≤ 1000 ∧ u.size ≤ 200 ∧ s.size ≤ 200 ∧ log ≤ 4 ∧ r ≤ 3 ∧ 3 < p) := by omega
  clear h
  rcases hway with h1 | ⟨h1, h2⟩ | ⟨h1, h2, h3⟩ | ⟨h1, h2, h3, h4⟩ | ⟨h1, h2, h3, h4, h5⟩ | ⟨h1, h2, h3, h4, h5, h6⟩ | ⟨h1, h2, h3, h4, h5, h6, h7⟩
  all_goals
    go_enter Tryz.func5, Tryz.ntmps5
    go_wp2_with fail
    refine CA.out.mono ?_
    rintro e w1 ⟨rfl, hb⟩
    go_wp2
    go_ret
    exact ⟨rfl, hb⟩
set_option maxHeartbeats 3200000 in
theorem salone_bad (B : Nat) (hB : B ≤ 1000) (u s : ByteArray) (hu : u.size ≤ 200) (hs : s.size ≤ 200) (log r p b : Int) (h1 : log ≤ 4) (h2 : r ≤ 3) (h3 : p ≤ 3) (hF : Bad log r p b) (w : World) (hk : KAt w) (hq : QAt w) :
    Calls Tryz.prog 5 #[.int .i64 (B : Int), .string u, .string s, .int .i64 log, .int .i64 r, .int .i64 p, .int .i64 b] w fun e w' => e = .returned (.bool true) ∧ Below w.heap.size w w' := by
  have CA := Lib.hid (awake25_any w hk hq)
  have CR := Lib.hid (scheck_bad hF)
  clear hk hq hF
  go_enter Tryz.func5, Tryz.ntmps5
  go_wp2_with fail
  refine CA.out.mono ?_
  rintro e w1 ⟨rfl, hb⟩
  have HB := Lib.hid hb
  clear hb
  go_wp2_with fail
  refine (CR.out _).mono ?_
  rintro e w' ⟨rfl, rfl⟩
  go_wp2
  go_ret
  exact ⟨rfl, HB.out⟩
set_option maxHeartbeats 6400000 in
theorem salone_good (B : Nat) (hB : B ≤ 1000) (u s : ByteArray) (hu : u.size ≤ 200) (hs : s.size ≤ 200) {lg R P n : Nat} (hF : Fine lg R P n) (h1 : lg ≤ 4) (h2 : R ≤ 3) (h3 : P ≤ 3) (w : World) (hk : KAt w) (hq : QAt w) :
    Calls Tryz.prog 5 #[.int .i64 (B : Int), .string u, .string s, .int .i64 (lg : Int), .int .i64 (R : Int), .int .i64 (P : Int), .int .i64 (n : Int)] w fun e w' => e = .returned (.bool true) ∧ Below w.heap.size w w' := by
  have CA := Lib.hid (awake25_any w hk hq)
  have CR := Lib.hid (scheck_ok hF)
  have CD := Lib.hid (sneed_ok hF)
  have hD : needN lg R P ≤ 1000 := by
    have e : 2 ^ lg ≤ 2 ^ 4 := Nat.pow_le_pow_right (by omega) h1
    rw [show 2 ^ 4 = 16 from rfl] at e
    have : 128 * R * (2 ^ lg + P + 2) ≤ 384 * 21 := Nat.mul_le_mul (by omega) (by omega)
    unfold needN
    split <;> omega
  have hRP : 128 * R * P ≤ 5000 := by have : 128 * R * P ≤ 384 * 3 := Nat.mul_le_mul (by omega) h3; omega
  have CNa := Lib.hid fun (W : World) (hb : Below w.heap.size w W) => anew_kit (needN lg R P) (by omega) W (hk.next hb) (hq.next hb)
  have CNb := Lib.hid fun (W : World) (hk : KAt W) (hq : QAt W) => anew_kit (needN lg R P + B) (by omega) W hk hq
  have CKa := Lib.hid fun (W : World) (a h : Nat) (hA : AreAt W a (needN lg R P) 0 h 0) (hk : KAt W) (hq : QAt W) (h4 : ¬ 2 = a) (h5 : ¬ 0 = a) => skey_any hA hq hk h4 h5 u s (by omega) (by omega) hF (by omega) (by omega) (by omega) hRP
  have CKb := Lib.hid fun (W : World) (a h : Nat) (hA : AreAt W a (needN lg R P + B) B h 1) (hk : KAt W) (hq : QAt W) (h4 : ¬ 2 = a) (h5 : ¬ 0 = a) => skey_any hA hq hk h4 h5 u s (by omega) (by omega) hF (by omega) (by omega) (by omega) hRP
  have CKn := Lib.hid (skey_nil hF u s)
  have CB := Lib.hid fun (W : World) (b : Nat) (hA : AreAt W b (needN lg R P + B) 0 0 0) => ares_any hA B (by omega) (by omega) (by omega)
  have hKs : (tx (scK (tl u) (tl s) lg R P n)).size = n := by rw [tx_size, scK_length]
  have hn : n ≤ 1024 := hF.2.2.2.2.2.2.2.2.2
  have HQ := Lib.hid hq
  have HK := Lib.hid hk
  generalize tx (scK (tl u) (tl s) lg R P n) = KV at *
  generalize needN lg R P = D at *
  have e1 : (D : Int) + (B : Int) = ((D + B : Nat) : Int) := by omega
  have e2 : IntKind.i64.wrap ((D + B : Nat) : Int) = ((D + B : Nat) : Int) := by rw [IntKind.wrap_i64]; omega
  generalize D + B = E at *
  clear hk hq hF hRP
  go_enter Tryz.func5, Tryz.ntmps5
  go_wp2_with fail
  refine CA.out.mono ?_
  rintro e w1 ⟨rfl, hb⟩
  have HB := Lib.hid hb
  clear hb
  go_wp2_with fail
  refine (CR.out _).mono ?_
  rintro e w' ⟨rfl, rfl⟩
  go_wp2_with fail
  refine (CD.out _).mono ?_
  rintro e w2 ⟨rfl, hb⟩
  have HB2 := Lib.hid (below_step HB.out hb)
  clear hb
  go_wp2_with fail
  refine (CNa.out w2 HB2.out).mono ?_
  rintro e w3 ⟨a, rfl, hA, hk3, hq3, a1, a2, a3, hb⟩
  have HA := Lib.hid hA
  have HB3 := Lib.hid (below_step HB2.out hb)
  have HA1 := Lib.hid (And.intro a1 (And.intro a2 (Nat.le_trans HB2.out.size a3)))
  have CN3 := Lib.hid (CNb.out w3 hk3 hq3)
  clear hA hk3 hq3 a1 a2 a3 hb CNa CNb
  go_wp2_with fail
  refine CN3.out.mono ?_
  rintro e w4 ⟨b, rfl, hA, hk4, hq4, a1, a2, a3, hb⟩
  have HX : Hid (Ab w w4 a b D E 0 0 0 0) := Lib.hid ⟨RowAt.below HA.out hb (RowAt.lt HA.out), hA, hk4, hq4, below_step HB3.out hb, HA1.out.2.2, Nat.le_trans HB3.out.size a3, fun e => by have := RowAt.lt HA.out; omega, HQ.out.1, HK.out.1⟩
  have HB1 := Lib.hid (And.intro a1 a2)
  clear hA hk4 hq4 a1 a2 a3 hb HA HB3 HB2 HB CN3
  have CB4 := Lib.hid (CB.out w4 b HX.out.bre)
  go_wp2_with fail
  refine CB4.out.mono ?_
  rintro e w5 ⟨⟨pc, g, rfl, _, _, _⟩, hA, hK⟩
  have HX5 := Lib.hid (HX.out.turnB hK hA)
  clear hA hK HX CB4 CB
  generalize max 0 (0 + B) = hb5 at *
  rw [Nat.zero_add, Nat.zero_add] at HX5
  have C6 := Lib.hid (CKa.out w5 a 0 HX5.out.are HX5.out.k HX5.out.q HA1.out.1 HA1.out.2.1)
  go_wp2_with fail
  refine C6.out.mono ?_
  rintro e w6 ⟨rfl, hA, hK⟩
  have HX6 := Lib.hid (HX5.out.turnA hK hA)
  clear hA hK HX5 C6
  have C7 := Lib.hid (CKb.out w6 b _ HX6.out.bre HX6.out.k HX6.out.q HB1.out.1 HB1.out.2)
  go_wp2_with fail
  refine C7.out.mono ?_
  rintro e w7 ⟨rfl, hA, hK⟩
  have HX7 := Lib.hid (HX6.out.turnB hK hA)
  clear hA hK HX6 C7
  have C8 := Lib.hid (CKa.out w7 a _ HX7.out.are HX7.out.k HX7.out.q HA1.out.1 HA1.out.2.1)
  go_wp2_with fail
  refine C8.out.mono ?_
  rintro e w8 ⟨rfl, hA, hK⟩
  have HX8 := Lib.hid (HX7.out.turnA hK hA)
  clear hA hK HX7 C8
  go_wp2_with fail
  refine (CKn.out _).mono ?_
  rintro e w9 ⟨rfl, hb⟩
  have HX9 := Lib.hid (HX8.out.below hb)
  have CU := Lib.hid (used_any HX9.out.bre)
  clear hb HX8
  go_wp2_with fail
  refine CU.out.mono ?_
  rintro e w10 ⟨rfl, hb⟩
  have HX10 := Lib.hid (HX9.out.below hb)
  clear hb HX9 CU
  go_wp2
  go_ret
  exact ⟨rfl, HX10.out.low⟩
theorem salone_any (z : Int) (u s : ByteArray) (hu : u.size ≤ 140737488351232) (hs : s.size ≤ 140737488351232) (log r p b : Int) (w : World) (hk : KAt w) (hq : QAt w) :
    Calls Tryz.prog 5 #[.int .i64 z, .string u, .string s, .int .i64 log, .int .i64 r, .int .i64 p, .int .i64 b] w fun e w' => e = .returned (.bool true) ∧ Below w.heap.size w w' := by
  by_cases h : z < 0 ∨ 1000 < z ∨ 200 < u.size ∨ 200 < s.size ∨ 4 < log ∨ 3 < r ∨ 3 < p
  · exact salone_guard z u s hu hs log r p b w hk hq h
  obtain ⟨B, rfl⟩ : ∃ B : Nat, z = (B : Int) := ⟨z.toNat, by omega⟩
  rcases sc_ways log r p b with ⟨lg, R, P, n, rfl, rfl, rfl, rfl, hF⟩ | hF
  · exact salone_good B (by omega) u s (by omega) (by omega) hF (by omega) (by omega) (by omega) w hk hq
  · exact salone_bad B (by omega) u s (by omega) (by omega) log r p b (by omega) (by omega) (by omega) hF w hk hq
end Go.Proofs.YtlifpplhinmajaaGreatDoor
