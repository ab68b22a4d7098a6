/- The law's repeat, and chapter 33's example, by their contracts. Condition: blake's and blend's tables lie at their places. -/
import Derived.Test.YtcbccjcnllifjaaGreatDoorAgK
import Derived.Test.YtcbccjcnllifjaaGreatDoorAgEx
namespace Go.Proofs.YtcbccjcnllifjaaGreatDoor
set_option maxRecDepth 50000
open Go.RowKit Bb
set_option maxHeartbeats 1600000 in
theorem repeat_any (x : UInt8) (n : Nat) (hn : n ≤ 1000) (w : World) : Calls Tryz.prog 22 #[.int .u8 (x.toNat : Int), .int .i64 (n : Int)] w fun e w' => e = .returned (.string (tx (List.replicate n x))) ∧ Below w.heap.size w w' := by
  have hmk : ∀ w : World, (Instr.makeSlice 86 (.int .i64 (n : Int)) (.int .i64 (n : Int))).run Tryz.prog w = .ok (.slice (some ⟨w.heap.size, 0, none⟩) n n) (w.alloc (.cells (cs (List.replicate n 0)).toArray 5)) := fun w => by
    have hcs : madeCells #[Value.int .u8 0] n = (cs (List.replicate n 0)).toArray := by
      apply Array.toList_inj.1
      rw [made_one]; simp [cs]
    rw [← hcs]
    have := run_make_row' (P := Tryz.prog) 86 5 (.int .u8 0) 1 Tryz.underlying86 fd_info_u8 rfl .i64 .i64 n (by omega) (by omega) w
    simpa using this
  have HR := Lib.hid (RowAt.new w 5 (cs (List.replicate n 0)).toArray)
  have HB0 := Lib.hid (one_box w (.cells (cs (List.replicate n 0)).toArray 5))
  go_enter Tryz.func22, Tryz.ntmps22
  go_wp2
  have HL : Hid (∀ k, k ≤ n → (cs (List.replicate k x ++ List.replicate (n - k) 0)).length = n) := Lib.hid fun k hk => by rw [cs_length]; simp; omega
  have HX : Hid (∀ k, k < n → (cs (List.replicate k x ++ List.replicate (n - k) 0)).toArray.setIfInBounds k (.int .u8 (x.toNat : Int)) = (cs (List.replicate (k + 1) x ++ List.replicate (n - (k + 1)) 0)).toArray) := Lib.hid fun k hk => by
    rw [show n - k = (n - (k + 1)) + 1 by omega, List.replicate_succ, List.replicate_succ']
    simp [cs, List.setIfInBounds_toArray]
  obtain ⟨X, eX⟩ : ∃ X : Value, X = .int .u8 (x.toNat : Int) := ⟨_, rfl⟩
  have h0 : (cs (List.replicate 0 x ++ List.replicate (n - 0) 0)) = cs (List.replicate n 0) := by simp
  have H0 := Lib.hid h0
  clear h0
  obtain ⟨N, hNs⟩ : ∃ N, N = w.heap.size := ⟨_, rfl⟩
  rw [← hNs] at HR
  have HNS := Lib.hid hNs
  rw [← hNs]
  clear hNs
  go_loopw [11] (fun v11 wr => ∃ k : Nat, k ≤ n ∧ v11 = .int .i64 (k : Int) ∧ Hid (RowAt wr N 5 (cs (List.replicate k x ++ List.replicate (n - k) 0)).toArray) ∧ Hid (Below w.heap.size w wr)) (fun v11 _ => n - (intOf v11).toNat)
  case atStart => exact ⟨0, Nat.zero_le _, rfl, by rw [H0.out]; exact HR, HB0⟩
  case round =>
    obtain ⟨k, hkn, rfl, HC, HB⟩ := hrel
    by_cases hlt : k < n
    · have hd : decide ((k : Int) < (n : Int)) = true := by simp; omega
      have c0 : ∃ y, wr.cell? ⟨N, k, none⟩ = some y := by
        rw [HC.out.cell k]
        exact ⟨_, by simp [HL.out k (by omega), hlt]; rfl⟩
      obtain ⟨y, c0⟩ := c0
      have f0 : wr.frozen? ⟨N, k, none⟩ = false := HC.out.frozen _
      have HC2 := Lib.hid (by have h := HC.out.setCell k (.int .u8 (x.toNat : Int)); rw [HX.out k hlt] at h; exact h)
      have HB2 : Hid (Below w.heap.size w (wr.setCell ⟨N, k, none⟩ (.int .u8 (x.toNat : Int)))) := Lib.hid (HB.out.setCell (by rw [HNS.out]; exact Nat.le_refl _) _)
      go_wp2
      go_roundw
      case rel => exact ⟨k + 1, by omega, by go_num, HC2, HB2⟩
      case measure => simp [intOf]; omega
    · obtain rfl : k = n := by omega
      have hd : decide ((k : Int) < (k : Int)) = false := by simp
      have hrow : Row wr N (List.replicate k x) := ⟨_, _, HC.out, by simp [cs]⟩
      have hcv : (convert 86 9 (.slice (some ⟨N, 0, none⟩) k k)).run Tryz.prog wr = .ok (.string (tx (List.replicate k x))) wr := conv_row hrow (List.length_replicate ..)
      clear hrow
      go_wp2
      go_ret
      exact ⟨rfl, HB.out⟩
theorem text_cutA {X : List UInt8} (i j : Nat) : (tx X).extract i j = tx ((X.drop i).take (j - i)) := by
  refine tl_inj ?_
  rw [tl_tx]
  unfold tl tx
  rw [ByteArray.data_extract]
  simp [List.extract_eq_take_drop]
theorem mok_ex : Mok 3 3 32 4 32 := ⟨.inr (.inr rfl), by decide, by decide, by decide, by decide, by decide, by decide, by decide, by decide⟩
theorem sh_ex : Sh 3 3 4 32 8 2 := ⟨.inr (.inr rfl), by decide, by decide, by decide, by decide, by decide, by decide, by decide, by decide⟩
theorem co_ex (w : World) : Calls Tryz.prog 23 #[pav 3 3 32 4 32] w fun e w' => e = .returned (.tuple #[spv 3 3 4 32 32 8 2 32, .int .i64 0]) ∧ Below w.heap.size w w' := by
  obtain ⟨b, c, g, hg, hc, hb, hbm, hgm, CO⟩ := of_good mok_ex
  obtain rfl : g = 2 := hgm
  obtain rfl : c = 8 := hc
  obtain rfl : b = 32 := by omega
  exact CO w
theorem ex_sizes : exW.size = 32 ∧ exS.size = 16 ∧ exK.size = 8 ∧ exD.size = 12 := by
  unfold exW exS exK exD
  simp [tx_size]
theorem ex_check (w : World) : Calls Tryz.prog 9 #[pav 3 3 32 4 32, inv exW exS exK exD] w fun e w' => e = .returned (.int .i64 0) ∧ Below w.heap.size w w' := by
  obtain ⟨h1, h2, h3, h4⟩ := ex_sizes
  have h := check_good co_ex exW exS exK exD (by rw [h2]; decide) w
  rwa [wy_none (by rw [h2]; decide) (by rw [h1, h3, h4]; decide)] at h
theorem ex_head (w : World) (hQ : QAt w) : Calls Tryz.prog 7 #[pav 3 3 32 4 32, inv exW exS exK exD] w fun e w' => e = .returned (.tuple #[.string (tx (hdL 3 3 4 32 32 exW exS exK exD)), .int .i64 0]) ∧ Below w.heap.size w w' := by
  obtain ⟨h1, h2, h3, h4⟩ := ex_sizes
  exact head_good co_ex mok_ex exW exS exK exD ex_check (by rw [h1]; decide) (by rw [h2]; decide) (by rw [h3]; decide) (by rw [h4]; decide) w hQ
theorem ex_key {w : World} {a : Nat} (hA : AreAt w a 32 0 0 0) (hN1 : 0 < a) (hN2 : TabN a) (hQ : QAt w) (hT : TAt w) :
    Calls Tryz.prog 13 #[.pointer (some ⟨a, 0, none⟩), pav 3 3 32 4 32, inv exW exS exK exD] w fun e w' => e = .returned (.tuple #[.string (tx exT), .int .i64 0]) ∧ Kept (fun j => j = a) w w' := by
  have hs : (tx (hdL 3 3 4 32 32 exW exS exK exD)).size = 64 := by
    rw [tx_size]
    exact blkL_length0 64 (by decide) _ (by rw [exH_is, agx_len]; decide)
  have h := key_any hA hN1 hN2 (Nat.le_refl a) hQ hT co_ex sh_ex (by decide) (by decide) (by decide) exW exS exK exD _ hs ex_head (by decide) (by decide) (by decide)
  rw [ex_tag] at h
  exact h.mono fun e w' ⟨h1, _, h2⟩ => ⟨h1, h2⟩
set_option maxHeartbeats 3200000 in
theorem awake33_any (w : World) (hQ : QAt w) (hT : TAt w) : Calls Tryz.prog 6 #[] w fun e w' => e = .returned (.bool true) ∧ Below w.heap.size w w' := by
  have CA : Hid (Calls Tryz.prog 12 #[.int .i64 32] w fun e w' => e = .returned (.tuple #[.pointer (some ⟨w.heap.size, 0, none⟩), .int .i64 0]) ∧ AreAt w' w.heap.size 32 0 0 0 ∧ Below w.heap.size w w') := Lib.hid (anew_any 32 (by decide) w)
  have R1 : Hid (∀ w : World, Calls Tryz.prog 22 #[.int .u8 1, .int .i64 32] w fun e w' => e = .returned (.string exW) ∧ Below w.heap.size w w') := Lib.hid fun w => repeat_any 1 32 (by decide) w
  have R2 : Hid (∀ w : World, Calls Tryz.prog 22 #[.int .u8 2, .int .i64 16] w fun e w' => e = .returned (.string exS) ∧ Below w.heap.size w w') := Lib.hid fun w => repeat_any 2 16 (by decide) w
  have R3 : Hid (∀ w : World, Calls Tryz.prog 22 #[.int .u8 3, .int .i64 8] w fun e w' => e = .returned (.string exK) ∧ Below w.heap.size w w') := Lib.hid fun w => repeat_any 3 8 (by decide) w
  have R4 : Hid (∀ w : World, Calls Tryz.prog 22 #[.int .u8 4, .int .i64 12] w fun e w' => e = .returned (.string exD) ∧ Below w.heap.size w w') := Lib.hid fun w => repeat_any 4 12 (by decide) w
  have CK : Hid (∀ W, AreAt W w.heap.size 32 0 0 0 → Below w.heap.size w W → Calls Tryz.prog 13 #[.pointer (some ⟨w.heap.size, 0, none⟩), .agg #[.int .i64 3, .int .i64 3, .int .i64 32, .int .i64 4, .int .i64 32], inv exW exS exK exD] W fun e w' => e = .returned (.tuple #[.string (tx exT), .int .i64 0]) ∧ Below w.heap.size w w') := Lib.hid fun W hA hb => by
    refine (ex_key hA hQ.1 ⟨hT.1.1, hT.2.1⟩ (hQ.next hb) (hT.next hb)).mono ?_
    rintro e w' ⟨rfl, hK⟩
    exact ⟨rfl, hb.trans (hK.below hb.size fun x e => by omega)⟩
  obtain ⟨S, hS⟩ : ∃ S, S = tx exT := ⟨_, rfl⟩
  rw [← hS] at CK
  have f1 : S.size = 32 := by rw [hS, tx_size]; rfl
  have f2 : S.extract 0 8 = ⟨#[13, 100, 13, 245, 141, 120, 118, 108]⟩ := by rw [hS, text_cutA]; rfl
  have f3 : S.extract 28 32 = ⟨#[107, 1, 230, 89]⟩ := by rw [hS, text_cutA]; rfl
  have f4 : (⟨#[107, 1, 230, 89]⟩ : ByteArray).extract 0 4 = ⟨#[107, 1, 230, 89]⟩ := by rw [show (⟨#[107, 1, 230, 89]⟩ : ByteArray) = tx [107, 1, 230, 89] from rfl, text_cutA]; rfl
  have HF := Lib.hid (And.intro f2 (And.intro f3 f4))
  clear hS f2 f3 f4 hQ hT
  generalize exW = E1 at *
  generalize exS = E2 at *
  generalize exK = E3 at *
  generalize exD = E4 at *
  go_enter Tryz.func6, Tryz.ntmps6
  go_wp2_with fail
  refine CA.out.mono ?_
  rintro e w1 ⟨rfl, hA, hb⟩
  have HA := Lib.hid hA
  have HB := Lib.hid hb
  clear hA hb CA
  go_wp2_with fail
  refine (R1.out _).mono ?_
  rintro e w2 ⟨rfl, hb⟩
  have HA2 := Lib.hid (RowAt.below HA.out hb (RowAt.lt HA.out))
  have HB2 := Lib.hid (below_step HB.out hb)
  clear hb R1 HA HB
  go_wp2_with fail
  refine (R2.out _).mono ?_
  rintro e w3 ⟨rfl, hb⟩
  have HA3 := Lib.hid (RowAt.below HA2.out hb (RowAt.lt HA2.out))
  have HB3 := Lib.hid (below_step HB2.out hb)
  clear hb R2 HA2 HB2
  go_wp2_with fail
  refine (R3.out _).mono ?_
  rintro e w4 ⟨rfl, hb⟩
  have HA4 := Lib.hid (RowAt.below HA3.out hb (RowAt.lt HA3.out))
  have HB4 := Lib.hid (below_step HB3.out hb)
  clear hb R3 HA3 HB3
  go_wp2_with fail
  refine (R4.out _).mono ?_
  rintro e w5 ⟨rfl, hb⟩
  have HA5 := Lib.hid ((RowAt.below HA4.out hb (RowAt.lt HA4.out)).alloc (.cells (inc E1 E2 E3 E4) 25))
  have HB5 := Lib.hid ((below_step HB4.out hb).alloc (below_step HB4.out hb).size (.cells (inc E1 E2 E3 E4) 25))
  have HI := Lib.hid (RowAt.new w5 25 (inc E1 E2 E3 E4))
  have CKK := Lib.hid (CK.out _ HA5.out HB5.out)
  clear hb R4 HA4 HB4 CK HA5 HB5
  go_wp2_with (refine wpList_load_want rfl 25 _ rfl _ _ rfl (in_load HI.out) ?_)
  refine CKK.out.mono ?_
  rintro e w6 ⟨rfl, hb⟩
  have HB6 := Lib.hid hb
  clear hb CKK HI
  obtain ⟨f2, f3, f4⟩ := HF.out
  go_wp2
  go_quiet (fail)
  go_wp2
  go_ret
  exact ⟨rfl, below_drewN HB6.out _⟩
end Go.Proofs.YtcbccjcnllifjaaGreatDoor
