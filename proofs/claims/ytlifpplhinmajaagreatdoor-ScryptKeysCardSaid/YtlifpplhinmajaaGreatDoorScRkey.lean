/- The document's key of scrypt, by its contract. Conditions: those typed. -/
import Derived.Test.YtlifpplhinmajaaGreatDoorScRow
import Derived.Test.YtlifpplhinmajaaGreatDoorScNeed
namespace Go.Proofs.YtlifpplhinmajaaGreatDoor
set_option maxRecDepth 50000
open Go.RowKit Sl Sf Rm Sha

theorem Lst.one {w w6 : World} {A : Option Addr} {m c B : Nat} {l : List Nat} (ho : w.ownsRow B 36 1 (.slice A m c) m (u32s l)) (hw : w6 = w.alloc (.cells #[.slice A m c] 63)) : Lst w6 w.heap.size w6.heap.size (.slice (some ⟨w.heap.size, 0, none⟩) 1 1) [l] [.slice A m c] := by
  obtain ⟨A', c', e, hl, hA, _⟩ := own_form ho
  cases e
  have b4 : Below w.heap.size w w6 := by rw [hw]; exact (Below.refl _ _).alloc (Nat.le_refl _) _
  rw [u32s_length] at hl
  subst hl
  refine ⟨⟨rfl, .inr ⟨w.heap.size, 1, #[.slice A l.length c], rfl, Nat.le_refl _, by rw [hw]; exact heap_alloc_last w _, Nat.le_refl _, by decide, rfl, rfl⟩⟩, fun b e => ?_, fun i hi => ?_⟩
  · have : w.heap.size = b := by simpa [Value.ownBlock] using e
    rw [hw]; simp; omega
  · obtain rfl : i = 0 := by simpa using hi
    refine ⟨A, c, rfl, ((Reads.of_own ho).below b4).more b4.size, fun b o e h0 => ?_⟩
    subst e
    have h1 := (ho.lt b rfl).2
    intro e
    have : w.heap.size = b := by simpa [Value.ownBlock] using e
    omega
/-- a list of rows to which one without words comes -/
theorem Lst.none_more {w : World} {N : Nat} {v : Value} {X : List (List Nat)} {cs : List Value} (L : Lst w N w.heap.size v X cs) (hN : N ≤ w.heap.size) (hX : X.length ≤ 1000000) (ty : TypeId) :
    ∃ v' w' cs', (Builtin.append_ #[66, 66] ty #[v, .slice (some ⟨w.heap.size, 0, none⟩) 1 1]).run Tryz.prog (w.alloc (.cells #[.slice none 0 0] 63)) = .ok v' w' ∧ Lst w' N w'.heap.size v' (X ++ [[]]) cs' ∧ Below N w w' := by
  obtain ⟨w6, hw6⟩ : ∃ w6, w6 = w.alloc (.cells #[.slice none 0 0] 63) := ⟨_, rfl⟩
  have R3 : RowAt w6 w.heap.size 63 #[.slice none ([] : List Nat).length 0] := by rw [hw6]; exact RowAt.new _ _ _
  have b4 : Below w.heap.size w w6 := by rw [hw6]; exact (Below.refl _ _).alloc (Nat.le_refl _) _
  have L3 := L.below b4
  obtain ⟨v4, w4, hap4, L4, g4⟩ := L3.app (by have := b4.size; omega) b4.size (l := []) (a := none) (c := 0) R3 Reads.nil_ (fun b o e => by cases e) hX ty
  rw [← hw6]
  exact ⟨v4, w4, _, hap4, L4, (b4.mono hN).grown g4 (by have := b4.size; omega) (fun k hk => (L3.own.lt k hk).1)⟩

set_option maxHeartbeats 12800000 in
theorem rskey_any (word S : ByteArray) (hw : word.size ≤ 1000) (hS : S.size ≤ 80000) {lg r p n : Nat} (hF : Fine lg r p n) (hlg : lg ≤ 16) (w : World) :
    Calls Tryz.prog 15 #[.agg (wd (kk ++ hh)), .string word, .string S, .int .i64 (lg : Int), .int .i64 (r : Int), .int .i64 (p : Int), .int .i64 (n : Int)] w fun e w' => e = .returned (.string (tx (scK (tl word) (tl S) lg r p n))) ∧ Below w.heap.size w w' := by
  obtain ⟨h1, h2, h3, h4, h5, h6, h7, h8, h9, h10⟩ := hF
  have hfl : (wd (kk ++ hh)).size = 72 := by rw [wd_size]; rfl
  have hNN : 0 < 2 ^ lg := Nat.two_pow_pos _
  have hN16 : 2 ^ lg ≤ 2 ^ 16 := Nat.pow_le_pow_right (by decide) hlg
  rw [show 2 ^ 16 = 65536 from rfl] at hN16
  obtain ⟨U, hU⟩ : ∃ U, 128 * r = U := ⟨_, rfl⟩
  obtain ⟨M, hM⟩ : ∃ M, U * p = M := ⟨_, rfl⟩
  have hM1 : 1 ≤ M := by rw [← hM]; exact Nat.mul_pos (by omega) h3
  have hM2 : M ≤ 65536 := by rw [← hM, ← hU, Nat.mul_assoc]; omega
  have K1 := Lib.hid fun (W : World) => rkey_any word S hw hS 1 M ⟨Nat.le_refl _, by decide⟩ ⟨hM1, hM2⟩ W
  obtain ⟨BB, hBB⟩ : ∃ BB, pkK (tl word) (tl S) 1 M = BB := ⟨_, rfl⟩
  have hBL : BB.length = M := by rw [← hBB]; exact pkK_length _ _ _ _
  have hML : ∀ i, (scM r (2 ^ lg) BB i).length = U * i := fun i => by rw [scM_length h1 hNN, hU]
  have K2 := Lib.hid fun (W : World) => rkey_any word (tx (scM r (2 ^ lg) BB p)) hw (by rw [tx_size, hML, hM]; omega) 1 n ⟨Nat.le_refl _, by decide⟩ ⟨h9, by omega⟩ W
  have hKK : scK (tl word) (tl S) lg r p n = pkK (tl word) (scM r (2 ^ lg) BB p) 1 n := by unfold scK; rw [hU, hM, hBB]
  rw [tl_tx, ← hKK] at K2
  rw [hBB] at K1
  have CP := Lib.hid fun w => refpower_any lg w
  rw [(pow_mid (by omega)).1, (pow_mid (by omega)).2] at CP
  have CR := Lib.hid fun (i : Nat) (hi : i < p) (W : World) => rrow_any (tx BB) (U * i) U (32 * r) (by omega) (by rw [tx_size, hBL, ← hM]; have := Nat.mul_le_mul_left U (show i + 1 ≤ p from hi); rw [Nat.mul_succ] at this; exact this) (by rw [tx_size, hBL]; omega) W
  rw [tl_tx] at CR
  have HRW : Hid (∀ i, leW (32 * r) ((BB.drop (U * i)).take U) = rowW r BB i) := Lib.hid fun i => by rw [← hU]; rfl
  have HRL := Lib.hid fun i => rowW_length r BB i
  have HRO := Lib.hid fun i => rowW_ok r BB i
  have HSN := Lib.hid fun i => scM_snoc r (2 ^ lg) BB i
  have HS0 : Hid (scM r (2 ^ lg) BB 0 = []) := Lib.hid rfl
  have HMG := Lib.hid fun i => rowMix_good (g := inN) h1 hNN (rowW_length r BB i) (rowW_ok r BB i)
  obtain ⟨N, eN⟩ : ∃ N, 2 ^ lg = N := ⟨_, rfl⟩
  rw [eN] at hNN hN16 hML K2 CP HSN HS0 HMG
  have HML := Lib.hid hML
  have HM := Lib.hid hM
  have e1 : 128 * (r : Int) = (U : Int) := by omega
  have e2 : IntKind.i64.wrap (U : Int) = (U : Int) := by rw [IntKind.wrap_i64]; omega
  have e3 : (U : Int) * (p : Int) = (M : Int) := by rw [← hM, Int.natCast_mul]
  have e4 : IntKind.i64.wrap (M : Int) = (M : Int) := by rw [IntKind.wrap_i64]; omega
  obtain ⟨FX, hFX⟩ : ∃ FX, FX = wd (kk ++ hh) := ⟨_, rfl⟩
  rw [← hFX] at hfl K1 K2 ⊢
  have HFL := Lib.hid hfl
  obtain ⟨TB, hTB⟩ : ∃ TB, tx BB = TB := ⟨_, rfl⟩
  rw [hTB] at K1 CR
  generalize tx (scK (tl word) (tl S) lg r p n) = KV at *
  clear hfl hFX hKK eN hM hML hBB hBL hTB hlg hw hS
  go_enter Tryz.func15, Tryz.ntmps15
  have R0 := Lib.hid (RowAt.new w 40 FX)
  have B0 : Hid (Below w.heap.size w (w.alloc (.cells FX 40))) := Lib.hid ((Below.refl _ w).alloc (Nat.le_refl _) _)
  have hlt0 : w.heap.size < (w.alloc (.cells FX 40)).heap.size := by simp
  have HLT := Lib.hid hlt0
  clear hlt0
  have LF := Lib.hid (fx_load R0.out HFL.out)
  go_wp2_with (first
    | refine wpList_load_of rfl 40 (.tmp 7) rfl ⟨w.heap.size, 0, none⟩ _ rfl LF.out ?_)
  refine (K1.out _).mono ?_
  rintro e w1 ⟨rfl, hb1⟩
  have B1 := Lib.hid (below_step B0.out hb1)
  have HLT1 : Hid (w.heap.size < w1.heap.size) := Lib.hid (Nat.lt_of_lt_of_le HLT.out hb1.size)
  have R1 := Lib.hid (R0.out.below hb1 HLT.out)
  clear hb1 B0 R0 LF K1 HLT
  go_wp2_with fail
  refine (CP.out _).mono ?_
  rintro e w' ⟨rfl, rfl⟩
  go_wp2
  go_loopw [18, 19] (fun v18 v19 wr => ∃ i : Nat, i ≤ p ∧ v19 = .int .i64 (i : Int) ∧ v18 = .string (tx (scM r N BB i)) ∧ Below w1.heap.size w1 wr) (fun _ v19 _ => p - (intOf v19).toNat)
  case atStart => exact ⟨0, Nat.zero_le _, rfl, by rw [HS0.out]; rfl, Below.refl _ _⟩
  case round =>
    obtain ⟨i, hi, rfl, rfl, hb⟩ := hrel
    by_cases h : i < p
    · have hd : decide ((i : Int) < (p : Int)) = true := by simp; omega
      have CRi := Lib.hid (CR.out i h wr)
      rw [HRW.out i] at CRi
      have hsl : (scM r N BB i).length + U ≤ M := by rw [HML.out, ← HM.out]; have := Nat.mul_le_mul_left U (show i + 1 ≤ p from h); rw [Nat.mul_succ] at this; exact this
      have hUi : U * i ≤ M := by rw [← HM.out]; exact Nat.mul_le_mul_left _ hi
      obtain ⟨q, hq⟩ : ∃ q, U * i = q := ⟨_, rfl⟩
      rw [hq] at CRi hUi
      have f1 : (U : Int) * (i : Int) = (q : Int) := by rw [← hq, Int.natCast_mul]
      have f2 : IntKind.i64.wrap (q : Int) = (q : Int) := by rw [IntKind.wrap_i64]; omega
      have HSNi := Lib.hid (HSN.out i)
      have hxl := HRL.out i
      have hxo := HRO.out i
      have hgl := (HMG.out i).1
      have HGO := Lib.hid (HMG.out i).2
      have HB := Lib.hid hb
      have HSL := Lib.hid hsl
      have HXL := Lib.hid (And.intro hxl hxo)
      have HGL := Lib.hid hgl
      clear hb hq hsl hxl hxo hgl
      generalize rowW r BB i = x at *
      generalize scM r N BB i = T at *
      go_wp2_with fail
      refine CRi.out.mono ?_
      rintro e w2 ⟨v, rfl, ho, hb2⟩
      have HB2 := Lib.hid (below_step HB.out hb2)
      obtain ⟨A, c, rfl, hl', hA', hm'⟩ := own_form ho
      have HO := Lib.hid ho
      clear ho hb2 HB CRi hl' hA' hm'
      go_wp2
      generalize hW3 : World.alloc w2 _ = w3 at *
      have HL3 := Lib.hid (Lst.one HO.out hW3.symm)
      have HB3 : Hid (Below w2.heap.size w2 w3) := Lib.hid (by rw [← hW3]; exact (Below.refl _ _).alloc (Nat.le_refl _) _)
      clear hW3 HO
      go_loopw [20, 21] (fun v20 v21 wr => ∃ (k : Nat) (cs : List Value) (v : Value), k ≤ N ∧ v21 = .int .i64 (k : Int) ∧ v20 = v ∧ Lst wr w2.heap.size wr.heap.size v (x :: List.replicate k []) cs ∧ Below w2.heap.size w2 wr) (fun _ v21 _ => N - (intOf v21).toNat)
      case atStart => exact ⟨0, _, _, Nat.zero_le _, rfl, rfl, HL3.out, HB3.out⟩
      case round =>
        clear HL3 HB3
        obtain ⟨k, cs, v, hk, rfl, e5, L, hb⟩ := hrel
        obtain rfl := e5.symm
        clear e5
        by_cases hkN : k < N
        · have hd2 : decide ((k : Int) < (N : Int)) = true := by simp; omega
          obtain ⟨v4, w4, cs4, hap, L4, b4⟩ := L.none_more hb.size (by simp; omega) 66
          rw [List.cons_append, ← List.replicate_succ'] at L4
          have HAP := Lib.hid hap
          have H4 := Lib.hid (And.intro L4 (hb.trans b4))
          clear hap L4 b4 L hb
          go_wp2_with (at_builtin; refine wpList_append_of rfl (.tmp 56) (.tmp 57) 66 rfl _ _ _ rfl rfl HAP.out ?_)
          clear HAP
          go_wp2
          go_roundw
          case rel => exact ⟨k + 1, _, _, by omega, by go_num, rfl, H4.out⟩
          case measure => simp [intOf]; omega
        · obtain rfl : k = N := by omega
          have hd2 : decide ((k : Int) < (k : Int)) = false := by simp
          obtain ⟨X, hX⟩ : ∃ X, x :: List.replicate k [] = X := ⟨_, rfl⟩
          have hX0 : X.getD 0 [] = x := by rw [← hX]; rfl
          have hXl : X.length = k + 1 := by rw [← hX]; simp
          rw [hX] at L
          have hXr : ∀ i, i < X.length → (X.getD i []).length ≤ 1000000 := fun i hi => by
            rcases i with _ | i
            · rw [hX0, HXL.out.1]; omega
            · rw [← hX, List.getD_eq_getElem?_getD, List.getElem?_cons_succ]
              have : ((List.replicate k ([] : List Nat))[i]?.getD []).length = 0 := by
                rw [List.getElem?_replicate]
                split <;> rfl
              omega
          have CM := rmix24_any h1 h2 L.reads (by omega) hXr 0 k 1 (by omega) (by rw [hX0]; exact HXL.out) hNN (by omega)
          have HMX := Lib.hid (mixX_row (r := r) (g := inN) hNN (show 0 < X.length by omega) (show 1 + k ≤ X.length by omega))
          rw [hX0] at HMX
          have hml : (mixX r 0 k 1 inN X).length = k + 1 := by rw [mixX_length, hXl]
          have HML2 := Lib.hid hml
          have CMM := Lib.hid CM
          have HB5 := Lib.hid (below_step HB2.out hb)
          clear CM hX hX0 hXl hXr L hb hml
          generalize mixX r 0 k 1 inN X = Y at *
          go_wp2_with fail
          refine CMM.out.mono ?_
          rintro e w5 ⟨v5, ⟨cs5, rfl, L5, hb5⟩⟩
          obtain ⟨A0, c0, rfl, hcl, hA0⟩ := L5.form
          obtain ⟨g, rfl, hgN, hgB⟩ := hA0 (by rw [HML2.out]; omega)
          obtain ⟨a, c, ek, hrk, _⟩ := L5.row 0 (by rw [HML2.out]; omega)
          have hc0 := L5.own.cellAt 0 (by rw [HML2.out]; omega)
          rw [ek, HMX.out, HGL.out] at hc0
          rw [HMX.out] at hrk
          rw [HML2.out]
          have HB6 := Lib.hid (below_step HB5.out hb5)
          have HRK := Lib.hid hrk
          have p1 : (0 : Int) < ((k + 1 : Nat) : Int) := by omega
          clear hcl hA0 L5 hb5 HB5 CMM ek hrk hgN HMX HML2
          generalize rowMix r k inN x = z at *
          have HZ := HGL
          have HZO := HGO
          obtain ⟨m, hm⟩ : ∃ m, 32 * r = m := ⟨_, rfl⟩
          have HMM := Lib.hid hm
          have hm2 : m ≤ 16384 := by omega
          rw [hm] at hc0 HZ
          clear hm HGL HGO
          go_wp2
          clear hc0
          go_loopw [18, 23] (fun v18 v23 wr => ∃ (j : Nat), j ≤ m ∧ v23 = .int .i64 (j : Int) ∧ v18 = .string (tx (T ++ leB (z.take j))) ∧ Below w5.heap.size w5 wr) (fun _ v23 _ => m - (intOf v23).toNat)
          case atStart => exact ⟨0, Nat.zero_le _, rfl, by rw [List.take_zero, leB_nil, List.append_nil], Below.refl _ _⟩
          case round =>
            obtain ⟨j, hj, rfl, rfl, hb⟩ := hrel
            have HB7 := Lib.hid hb
            by_cases hjm : j < m
            · have hd3 : decide ((j : Int) < (m : Int)) = true := by simp; omega
              obtain ⟨b, o, rfl, hbB, hcz⟩ := HRK.out j (by rw [u32s_length, HZ.out]; exact hjm)
              have hcell : wr.cell? ⟨b, o + j, none⟩ = some (.int .u32 ((z.getD j 0 : Nat) : Int)) := by
                rw [hb.cell (p := ⟨b, o + j, none⟩) hbB, hcz, u32_at, List.getD_eq_getElem?_getD, List.getElem?_eq_getElem (by rw [HZ.out]; exact hjm)]; rfl
              have hzo := HZO.out.at_ j
              have hsn : leB (z.take (j + 1)) = leB (z.take j) ++ leB [z.getD j 0] := by
                rw [← leB_append, List.take_add_one, List.getElem?_eq_getElem (by rw [HZ.out]; exact hjm), List.getD_eq_getElem?_getD, List.getElem?_eq_getElem (by rw [HZ.out]; exact hjm)]; rfl
              obtain ⟨V, hV⟩ : ∃ V, tx (T ++ leB (z.take j)) = V := ⟨_, rfl⟩
              have hVs : V.size ≤ 1000000 := by
                have h1 := HSL.out
                have h2 : (leB (z.take j)).length = 4 * j := by rw [leB_length, List.length_take, HZ.out]; omega
                rw [← hV, tx_size, List.length_append, h2]
                have := HMM.out
                omega
              have HN : Hid (tx (T ++ leB (z.take (j + 1))) = V ++ tx (leB [z.getD j 0])) := Lib.hid (by rw [hsn, ← List.append_assoc, tx_append, hV])
              rw [hV]
              clear hsn hV hcz
              generalize z.getD j 0 = y at *
              have CO := Lib.hid (of32_own y wr (by omega))
              have hys : (tx (leB [y])).size = 4 := by rw [tx_size, leB_length]; rfl
              obtain ⟨Ty, hTy⟩ : ∃ Ty, tx (leB [y]) = Ty := ⟨_, rfl⟩
              rw [hTy] at hys HN
              have HTY := Lib.hid hTy
              clear hTy
              have hp0 : (0 : Int) ≤ (j : Int) := by omega
              have hp1 : (j : Int) < (m : Int) := by omega
              clear hb
              go_wp2_with fail
              refine CO.out.mono ?_
              rintro e w8 ⟨g8, c8, rfl, ho8, hb8⟩
              have hcv := conv_text w8 (l := leB [y]) (by unfold leB; rw [cs_bytesL _ (flat_lt ups 4 _), List.flatMap_singleton]; exact ho8)
              rw [HTY.out] at hcv
              have HB8 := Lib.hid (below_step HB7.out hb8)
              have hy4 : Ty.size ≤ 4 := by omega
              clear ho8 hb8 CO
              go_wp2
              go_roundw
              case rel => exact ⟨j + 1, by omega, by go_num, by rw [HN.out], HB8.out⟩
              case measure => simp [intOf]; omega
            · obtain rfl : j = m := by omega
              have hd3 : decide ((j : Int) < (j : Int)) = false := by simp
              have HE : Hid (tx (T ++ leB (z.take j)) = tx (scM r k BB (i + 1))) := Lib.hid (by rw [HSNi.out, List.take_of_length_le (by rw [HZ.out]; exact Nat.le_refl _)])
              have HB9 : Hid (Below w1.heap.size w1 wr) := Lib.hid (below_step HB6.out HB7.out)
              clear hb HB7
              go_wp2
              go_roundw
              case rel => exact ⟨i + 1, by omega, by go_num, by rw [← HE.out], HB9.out⟩
              case measure => simp [intOf]; omega
    · obtain rfl : i = p := by omega
      have hd : decide ((i : Int) < (i : Int)) = false := by simp
      have HB2 := Lib.hid (below_step B1.out hb)
      have LF := Lib.hid (fx_load (R1.out.below hb HLT1.out) HFL.out)
      clear hb
      go_wp2_with (first
        | refine wpList_load_of rfl 40 (.tmp 7) rfl ⟨w.heap.size, 0, none⟩ _ rfl LF.out ?_)
      refine (K2.out _).mono ?_
      rintro e w3 ⟨rfl, hb3⟩
      have HB3 := Lib.hid (below_step HB2.out hb3)
      clear hb3
      go_wp2
      go_ret
      exact ⟨rfl, HB3.out⟩
end Go.Proofs.YtlifpplhinmajaaGreatDoor
