/- Key of package scrypt by its contract. Conditions: those typed; both packages' tables lie at their places. -/
import Derived.Test.YtlifpplhinmajaaGreatDoorScRel
import Derived.Test.YtlifpplhinmajaaGreatDoorScNeed
import Derived.Test.YtlifpplhinmajaaGreatDoorScTold
namespace Go.Proofs.YtlifpplhinmajaaGreatDoor
set_option maxRecDepth 50000
open Go.RowKit Bb Sl Sf Rm Sha

theorem KAt.kept {M : Nat → Prop} {w w' : World} (h : KAt w) (hk : Kept M w w') (hM : ¬ M 0) : KAt w' :=
  ⟨Nat.lt_of_lt_of_le h.1 hk.size, fun i hi => (World.cell?_of_block (w := w) (a := ⟨0, i, none⟩) (hk.block _ h.1 hM)).trans (h.2 i hi)⟩
/-- the arena, the store and the tables while a key is made -/
structure Kx (w wi : World) (a B u h c s p g D r : Nat) (X : List (List Nat)) : Prop where
  are : AreAt wi a B u h c
  st : St wi s p a g D r X
  q : QAt wi
  k : KAt wi
  kept : Kept (fun b => b = a) w wi
  al : a < w.heap.size
  ql : 2 < w.heap.size
  kl : 0 < w.heap.size
  gl : w.heap.size ≤ g
  pl : w.heap.size ≤ p
section
variable {w wi w' : World} {a B u h c s p g D r : Nat} {X Y : List (List Nat)}
theorem Kx.below (H : Kx w wi a B u h c s p g D r X) (hb : Below wi.heap.size wi w') : Kx w w' a B u h c s p g D r X :=
  ⟨RowAt.below H.are hb (RowAt.lt H.are), H.st.step hb, H.q.next hb, H.k.next hb, H.kept.trans (Kept.of_below (M := fun _ => False) hb) (fun _ _ e => e.elim), H.al, H.ql, H.kl, H.gl, H.pl⟩
theorem Kx.turn (H : Kx w wi a B u h c s p g D r X) (hk : Kept (fun b => b = g) wi w') (hS : St w' s p a g D r Y) : Kx w w' a B u h c s p g D r Y := by
  have h1 := H.al; have h2 := H.ql; have h3 := H.kl; have h4 := H.gl; have h5 := H.kept.size
  exact ⟨RowAt.kept H.are hk (by omega), hS, QAt.kept H.q hk (by omega) (by omega), H.k.kept hk (by omega), H.kept.trans hk (fun x hx e => by omega), h1, h2, h3, h4, H.pl⟩
theorem why_zero {R lg k first : Nat} (h1 : k < R) (h2 : lg ≤ 62) (h3 : first + 2 ^ lg ≤ R) (h4 : k < first) : whyN R k lg first = 0 := by
  rw [why_rest (by omega) h2 (by omega), if_neg (by omega)]
/-- so many rows there are -/
theorem need_rows {lg r p : Nat} (hr : 1 ≤ r) : p + 2 ^ lg ≤ needN lg r p * 256 / (32 * r) := by
  rw [Nat.le_div_iff_mul_le (by omega)]
  have h : 128 * r * (2 ^ lg + p + 2) ≤ 1024 * needN lg r p := by unfold needN; split <;> omega
  have e : 128 * r * (2 ^ lg + p + 2) = 4 * ((p + 2 ^ lg) * (32 * r)) + 256 * r := by
    rw [show 2 ^ lg + p + 2 = (p + 2 ^ lg) + 2 by omega, Nat.mul_add, Nat.mul_comm (p + 2 ^ lg) (32 * r), ← Nat.mul_assoc 4, show 4 * (32 * r) = 128 * r by omega]
    omega
  omega

set_option maxHeartbeats 6400000 in
theorem skey_any {w : World} {a B u h c : Nat} (hA : AreAt w a B u h c) (hq : QAt w) (hk : KAt w) (hqa : ¬ 2 = a) (hka : ¬ 0 = a) (word S : ByteArray) (hw : word.size ≤ 5000) (hs : S.size ≤ 5000) {lg r p n : Nat} (hF : Fine lg r p n)
    (hn : u + needN lg r p ≤ B) (hB : B ≤ 4194304) (hc : c < 4194304) (hsm : 128 * r * p ≤ 5000) :
    Calls Tryz.prog 12 #[.pointer (some ⟨a, 0, none⟩), .string word, .string S, .int .i64 (lg : Int), .int .i64 (r : Int), .int .i64 (p : Int), .int .i64 (n : Int)] w fun e w' =>
      e = .returned (.tuple #[.string (tx (scK (tl word) (tl S) lg r p n)), .int .i64 0]) ∧ AreAt w' a B u (max h (u + needN lg r p)) c ∧ Kept (fun b => b = a) w w' := by
  obtain ⟨h1, h2, h3, h4, h5, h6, h7, h8, h9, h10⟩ := hF
  have hF : Fine lg r p n := ⟨h1, h2, h3, h4, h5, h6, h7, h8, h9, h10⟩
  have C1 := Lib.hid (scheck_ok hF)
  have C2 := Lib.hid (sneed_ok hF)
  have hR := need_rows (lg := lg) (p := p) h1
  have hNN : 0 < 2 ^ lg := Nat.two_pow_pos _
  obtain ⟨U, hU⟩ : ∃ U, 128 * r = U := ⟨_, rfl⟩
  obtain ⟨M, hM⟩ : ∃ M, U * p = M := ⟨_, rfl⟩
  have hM1 : 1 ≤ M := by rw [← hM]; exact Nat.mul_pos (by omega) h3
  have K1 := Lib.hid fun (W : World) (hk : KAt W) => key_good word S 1 M ⟨Nat.le_refl _, by decide⟩ ⟨hM1, by rw [← hM, ← hU]; omega⟩ hw hs W hk
  obtain ⟨BB, hBB⟩ : ∃ BB, pkK (tl word) (tl S) 1 M = BB := ⟨_, rfl⟩
  have hBL : BB.length = M := by rw [← hBB]; exact pkK_length _ _ _ _
  have hML : (scM r (2 ^ lg) BB p).length = M := by rw [scM_length h1 hNN, hU, hM]
  have K2 := Lib.hid fun (W : World) (hk : KAt W) => key_good word (tx (scM r (2 ^ lg) BB p)) 1 n ⟨Nat.le_refl _, by decide⟩ ⟨h9, by omega⟩ hw (by rw [tx_size, hML, ← hM, ← hU]; exact hsm) W hk
  have hKK : scK (tl word) (tl S) lg r p n = pkK (tl word) (scM r (2 ^ lg) BB p) 1 n := by unfold scK; rw [hU, hM, hBB]
  rw [tl_tx, ← hKK] at K2
  rw [hBB] at K1
  obtain ⟨D, hD⟩ : ∃ D, needN lg r p = D := ⟨_, rfl⟩
  rw [hD] at C2 hR hn ⊢
  have CA := Lib.hid fun (W : World) (hb : Below w.heap.size w W) => ares_any (RowAt.below hA hb (RowAt.lt hA)) D hn hB (by omega)
  have hu2 : u + D ≤ 4194304 := by omega
  have hc2 : c + 1 ≤ 4194304 := by omega
  have hud : u + D - D = u := by omega
  have hcc : c + 1 - 1 = c := by omega
  have hD2 : D ≤ 4194304 := by omega
  generalize max h (u + D) = Hh at *
  have hM3 : 128 * r * p ≤ 5000 := hsm
  have hlg : lg ≤ 62 := by omega
  have HT0 : Hid (∀ X, mixT r (2 ^ lg) p inN X 0 = X) := Lib.hid fun _ => rfl
  have HTS : Hid (∀ X k, mixT r (2 ^ lg) p inN X (k + 1) = mixX r k (2 ^ lg) p inN (mixT r (2 ^ lg) p inN X k)) := Lib.hid fun _ _ => rfl
  have HTL := Lib.hid fun X k => mixT_length r (2 ^ lg) p inN X k
  have HTA := Lib.hid fun (X : List (List Nat)) (hf : p + 2 ^ lg ≤ X.length) (j : Nat) (hj : j < p) => mixT_at (r := r) (g := inN) hNN hf p (Nat.le_refl _) j hj
  have HSC := Lib.hid fun (X : List (List Nat)) (h : ∀ j, j < p → X.getD j [] = rowMix r (2 ^ lg) inN (rowW r BB j)) (hp : p ≤ X.length) => tellW_scM (N := 2 ^ lg) BB h hp p (Nat.le_refl _)
  have HA := Lib.hid hA
  have HQ := Lib.hid hq
  have HK := Lib.hid hk
  have HAL := Lib.hid (RowAt.lt hA)
  have e1 : 128 * (r : Int) = (U : Int) := by omega
  have e2 : IntKind.i64.wrap (U : Int) = (U : Int) := by rw [IntKind.wrap_i64]; omega
  have e3 : (U : Int) * (p : Int) = (M : Int) := by rw [← hM, Int.natCast_mul]
  have hM2 : M ≤ 5000 := by rw [← hM, ← hU]; exact hsm
  have e4 : IntKind.i64.wrap (M : Int) = (M : Int) := by rw [IntKind.wrap_i64]; omega
  have hBs : (tx BB).size = 128 * r * p := by rw [tx_size, hBL, ← hM, ← hU]
  have HBS := Lib.hid hBs
  have hpl : 32 * r * p ≤ 250000 := by
    have : 128 * r * p = 4 * (32 * r * p) := by rw [← Nat.mul_assoc, ← Nat.mul_assoc]
    omega
  obtain ⟨N, eN⟩ : ∃ N, 2 ^ lg = N := ⟨_, rfl⟩
  rw [eN] at hNN hR K2 HT0 HTS HTL HTA HSC
  have EN := Lib.hid eN
  have HR := Lib.hid hR
  clear eN hR
  clear hA hq hk hF hU hM hBB hBL hML hKK hD hBs hsm hn
  go_enter_defers Tryz.func12, Tryz.ntmps12
  go_wp2_with fail
  refine (C1.out _).mono ?_; rintro e w' ⟨rfl, rfl⟩
  go_wp2_with fail
  refine (C2.out _).mono ?_; rintro e w1 ⟨rfl, hb1⟩
  have HB1 := Lib.hid hb1
  have CA1 := Lib.hid (CA.out w1 hb1)
  clear hb1 CA
  go_wp2_with fail
  refine CA1.out.mono ?_; rintro e w2 ⟨⟨pc, g, rfl, hL, hpl1, hgl1⟩, hA2, hK2⟩
  have HL := Lib.hid hL
  have HA2 := Lib.hid hA2
  have HK2 : Hid (Kept (fun b => b = a) w w2) := Lib.hid ((Kept.of_below (M := fun b => b = a) HB1.out).trans hK2 fun _ _ e => e)
  have HQ2 : Hid (QAt w2) := Lib.hid (QAt.kept HQ.out HK2.out hqa HQ.out.1)
  have HKK2 : Hid (KAt w2) := Lib.hid (HK.out.kept HK2.out hka)
  have hg0 : w.heap.size ≤ g := Nat.le_trans HB1.out.size hgl1
  have hp0 : w.heap.size ≤ pc := Nat.le_trans HB1.out.size hpl1
  clear hL hA2 hK2 CA1 hpl1 hgl1
  go_wp2_with fail
  refine (rnew_any pc r h1 h2 w2).mono ?_; rintro e w3 ⟨rfl, hsc, hb3⟩
  have hL3 : LiveAt w3 pc a g (List.replicate D zb) := by
    exact ⟨RowAt.below HL.out.row hb3 (RowAt.lt HL.out.row), RowAt.below HL.out.blk hb3 (RowAt.lt HL.out.blk), HL.out.ok⟩
  have HX : Hid (Kx w w3 a B (u + D) Hh (c + 1) w2.heap.size pc g D r (List.replicate (D * 256 / (32 * r)) (List.replicate (32 * r) 0))) := Lib.hid
    ⟨RowAt.below HA2.out hb3 (RowAt.lt HA2.out), St.new hsc hL3 h1 h2 hD2, HQ2.out.next hb3, HKK2.out.next hb3, HK2.out.trans (Kept.of_below (M := fun _ => False) hb3) (fun _ _ e => e.elim), HAL.out, HQ.out.1, HK.out.1, hg0, hp0⟩
  have hXl : (List.replicate (D * 256 / (32 * r)) (List.replicate (32 * r) 0)).length = D * 256 / (32 * r) := List.length_replicate ..
  generalize List.replicate (D * 256 / (32 * r)) (List.replicate (32 * r) 0) = X at *
  generalize D * 256 / (32 * r) = R at *
  generalize w2.heap.size = s at *
  clear hsc hb3 hL3 HA2 HK2 HQ2 HKK2
  clear HL
  go_wp2_with fail
  refine (K1.out _ HX.out.k).mono ?_; rintro e w4 ⟨rfl, hb4⟩
  have HX4 := Lib.hid (HX.out.below hb4)
  clear hb4 HX K1
  have CP := Lib.hid (sput_any HX4.out.st p h3 (by have := HR.out; omega) (tx BB) HBS.out (by rw [HBS.out]; exact Nat.le_trans hM3 (by decide)))
  rw [tl_tx] at CP
  have hPL := putT_length (rowW r BB) X p
  have HPA := Lib.hid fun j => putT_at (rowW r BB) X p (by have := HR.out; omega) j
  go_wp2_with fail
  refine CP.out.mono ?_; rintro e w5 ⟨rfl, hS5, hK5⟩
  have HX5 := Lib.hid (HX4.out.turn hK5 hS5)
  clear CP HX4 hS5 hK5
  generalize putT (rowW r BB) X p = Y at *
  go_wp2
  go_loopw [73] (fun v73 wr => ∃ k : Nat, k ≤ p ∧ v73 = .int .i64 (k : Int) ∧ Kx w wr a B (u + D) Hh (c + 1) s pc g D r (mixT r N p inN Y k)) (fun v73 _ => p - (intOf v73).toNat)
  case atStart => exact ⟨0, Nat.zero_le _, rfl, by rw [HT0.out]; exact HX5.out⟩
  case round =>
    clear HX5
    obtain ⟨k, hkp, rfl, hX⟩ := hrel
    have hTl := HTL.out Y k
    have hRR := HR.out
    by_cases hlt : k < p
    · have hd : decide ((k : Int) < (p : Int)) = true := by simp; omega
      have CM := smix_in hX.st hX.q k lg p (by omega) hlg (by rw [EN.out]; omega) (why_zero (by omega) hlg (by rw [EN.out]; omega) hlt)
      rw [EN.out, ← HTS.out] at CM
      have CMM := Lib.hid CM
      have HX := Lib.hid hX
      clear CM hX hTl hRR
      go_wp2_with fail
      refine CMM.out.mono ?_; rintro e w6 ⟨rfl, hS6, hK6, _⟩
      have HX6 := Lib.hid (HX.out.turn hK6 hS6)
      clear hS6 hK6 CMM HX
      go_wp2
      go_roundw
      case rel => exact ⟨k + 1, by omega, by go_num, HX6.out⟩
      case measure => simp [intOf]; omega
    · obtain rfl : k = p := by omega
      have hd : decide ((k : Int) < (k : Int)) = false := by simp
      have CT := stold_any hX.st k h3 (by omega) hpl
      rw [HSC.out (mixT r N k inN Y k) (fun j hj => by rw [HTA.out Y (by omega) j hj, if_pos hj, HPA.out j, if_pos hj]) (by omega)] at CT
      have CTT := Lib.hid CT
      have HX := Lib.hid hX
      clear CT hX hTl hRR
      generalize mixT r N k inN Y k = Z at *
      generalize scM r N BB k = SM at *
      go_wp2_with fail
      refine CTT.out.mono ?_; rintro e w6 ⟨rfl, hb6⟩
      have HX6 := Lib.hid (HX.out.below hb6)
      clear hb6 HX CTT
      go_wp2_with fail
      refine (K2.out _ HX6.out.k).mono ?_; rintro e w7 ⟨rfl, hb7⟩
      have HX7 := Lib.hid (HX6.out.below hb7)
      clear hb7 HX6 K2
      obtain ⟨l, hl, hL⟩ := HX7.out.st.live
      have CD := Lib.hid (arel_deferred HX7.out.are hL (by omega) hu2 (by omega) hc2 .returning)
      rw [hl, hud, hcc] at CD
      clear hL hl
      go_wp2
      refine leaves_cons (f := 24) (args := #[.pointer (some ⟨a, 0, none⟩), .pointer (some ⟨pc, 0, none⟩)]) (by simp) (by simp [go_sem]) ?_
      refine CD.out.mono ?_
      rintro e u' w8 ⟨rfl, rfl, _, hA8, hK8⟩
      exact ⟨_, results_tmp2 rfl _ _ _, rfl, hA8, HX7.out.kept.trans hK8 fun x hx e => by
        have h1 := HX7.out.gl
        have h2 := HX7.out.pl
        omega⟩
end
end Go.Proofs.YtlifpplhinmajaaGreatDoor
