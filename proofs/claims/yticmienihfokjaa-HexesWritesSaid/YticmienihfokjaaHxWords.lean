/- Words, Dash and Undash of package hexes by their contracts. Conditions: at most 1,000 words; a text of Dash of at most 2^47 bytes, of Undash of at most 2^48. -/
import Derived.Test.YticmienihfokjaaHxDec
namespace Go.Proofs.Yticmienihfokjaa
set_option maxRecDepth 50000
open Go.RowKit Hx

set_option maxHeartbeats 3200000 in
theorem words_any (A : Option Addr) (c : Nat) (xs : List Nat) (hn : xs.length ≤ 1000) (hx : ∀ x ∈ xs, x < 4294967296) (w : World) (hr : Reads w w.heap.size A (u32s xs)) :
    Calls Try.prog 15 #[.slice A xs.length c] w fun e w' => e = .returned (.string (tx (wl xs xs.length))) ∧ Below w.heap.size w w' := by
  have HR := Lib.hid hr
  have HX := Lib.hid hx
  have HN0 := Lib.hid (BldN.new w)
  clear hr hx
  go_enter Try.func15, Try.ntmps15
  go_wp2
  generalize hW0 : World.alloc _ _ = w0
  have H0 : Hid (BldN w0 w.heap.size w.heap.size) := Lib.hid (by subst hW0; exact HN0.out)
  have B0 : Hid (Below w.heap.size w w0) := Lib.hid (by subst hW0; exact (Below.refl _ _).alloc (Nat.le_refl _) _)
  clear hW0 HN0
  go_loopw [8] (fun v8 wr => ∃ k : Nat, k ≤ xs.length ∧ v8 = .int .i64 (k : Int) ∧ Hid (BldR wr w.heap.size w.heap.size (wl xs k) 0 ∧ Below w.heap.size w wr)) (fun v8 _ => xs.length - (intOf v8).toNat)
  case atStart => exact ⟨0, Nat.zero_le _, rfl, Lib.hid ⟨H0.out.bld, B0.out⟩⟩
  case round =>
    clear H0 B0
    obtain ⟨k, hk, rfl, HK⟩ := hrel
    by_cases hlt : k < xs.length
    · obtain ⟨b, off, rfl, hbB, hcell0⟩ := HR.out k (by rw [u32s_length]; exact hlt)
      rw [u32_at] at hcell0
      have hcell := (HK.out.2.cell (p := ⟨b, off + k, none⟩) hbB).trans hcell0
      obtain ⟨x, hx⟩ : ∃ x, x = xs[k]'hlt := ⟨_, rfl⟩
      have hxl := HX.out _ (List.getElem_mem hlt)
      rw [← hx] at hcell hxl
      have HW : Hid (wl xs (k + 1) = wl xs k ++ sep k ++ w8 x) := Lib.hid (by rw [wl, List.getD_eq_getElem?_getD, List.getElem?_eq_getElem hlt, hx]; rfl)
      have HL := Lib.hid (wl_length xs k)
      have HXL := Lib.hid hxl
      have i0 : (0 : Int) ≤ (k : Int) := by omega
      have i1 : (k : Int) < (xs.length : Int) := by omega
      clear hx hbB hcell0 hxl
      have CS : Hid (∀ w1, BldR w1 w.heap.size w.heap.size (wl xs k) 0 → w.heap.size ≤ w1.heap.size → Calls Try.prog 21 #[.pointer (some ⟨w.heap.size, 0, none⟩), .int .u8 32] w1 fun e w' => e = .returned .nilIface ∧ BldR w' w.heap.size w.heap.size (wl xs k ++ [32]) 0 ∧ Below w.heap.size w1 w') := Lib.hid fun w1 h1 h2 => wbyte_any _ _ _ _ 32 _ h1 (.inr (by have := HL.out; omega)) h2
      have IN : Hid (∀ {K : Act → World → Prop} {Q : Exit → Act → World → Prop}, True) := Lib.hid trivial
      have hway : (decide ((0 : Int) < (k : Int)) = true ∧ decide (0 < k) = true ∧ Hid (sep k = [32])) ∨ (decide ((0 : Int) < (k : Int)) = false ∧ decide (0 < k) = false ∧ Hid (sep k = [])) := by
        by_cases h0 : k = 0
        · exact .inr ⟨by simp; omega, by simp; omega, Lib.hid (if_pos h0)⟩
        · exact .inl ⟨by simp; omega, by simp; omega, Lib.hid (if_neg h0)⟩
      clear IN
      rcases hway with ⟨d1, d2, HSP⟩ | ⟨d1, d2, HSP⟩
      case' inl =>
        go_wp2_with fail
        refine (CS.out _ HK.out.1 HK.out.2.size).mono ?_
        rintro e w1 ⟨rfl, g1, g2⟩
        have G1 : Hid (BldR w1 w.heap.size w.heap.size (wl xs k ++ sep k) 0 ∧ Below w.heap.size w w1) := Lib.hid ⟨by rw [HSP.out]; exact g1, HK.out.2.trans g2⟩
        clear g1 g2 HK CS hcell
        go_wp2
      case' inr =>
        obtain ⟨w1, rfl⟩ : ∃ w1 : World, w1 = wr := ⟨_, rfl⟩
        have G1 : Hid (BldR w1 w.heap.size w.heap.size (wl xs k ++ sep k) 0 ∧ Below w.heap.size w w1) := Lib.hid ⟨by rw [HSP.out, List.append_nil]; exact HK.out.1, HK.out.2⟩
        go_wp2
        clear HK CS hcell
      all_goals
        go_loopw [5, 16] (fun v5 v16 wr => ∃ (j y : Nat), j ≤ 8 ∧ v16 = .int .i64 (j : Int) ∧ v5 = .int .u32 (y : Int) ∧ y < 4294967296 ∧ Hid (y = up x j) ∧ Hid (BldR wr w.heap.size w.heap.size (wl xs k ++ sep k ++ (w8 x).take j) 0 ∧ Below w.heap.size w wr)) (fun _ v16 _ => 8 - (intOf v16).toNat)
        case atStart => exact ⟨0, x, by omega, rfl, rfl, HXL.out, Lib.hid (up_zero HXL.out).symm, Lib.hid ⟨by simpa using G1.out.1, G1.out.2⟩⟩
        case round =>
          clear G1
          obtain ⟨j, y, hj, rfl, rfl, hy, HY, HJ⟩ := hrel
          have HSL : Hid ((sep k).length ≤ 1) := Lib.hid (by unfold sep; split <;> simp)
          by_cases hlj : j < 8
          · have hd8 : decide ((j : Int) < 8) = true := by simp; omega
            have hy16 : y / 268435456 < 16 := by omega
            have HT : Hid (wl xs k ++ sep k ++ (w8 x).take (j + 1) = wl xs k ++ sep k ++ (w8 x).take j ++ [hd (y / 268435456)]) := Lib.hid (by
              rw [List.take_succ_eq_append_getElem (by rw [w8_length]; exact hlj), up_top HXL.out hlj, HY.out]; simp)
            have C1 : Hid (Calls Try.prog 21 #[.pointer (some ⟨w.heap.size, 0, none⟩), .int .u8 ((hexS[y / 268435456]'hy16).toNat : Int)] wr fun e w' => e = .returned .nilIface ∧ BldR w' w.heap.size w.heap.size (wl xs k ++ sep k ++ (w8 x).take (j + 1)) 0 ∧ Below w.heap.size wr w') := Lib.hid (by
              rw [hexS_at _ hy16, HT.out]
              exact wbyte_any _ _ _ _ _ _ HJ.out.1 (.inr (by have := HL.out; have := HSL.out; simp only [List.length_append, List.length_take, w8_length]; omega)) HJ.out.2.size)
            have hup : IntKind.u32.wrap ((y : Int) * 16) = ((up x (j + 1) : Nat) : Int) := by
              rw [← up_next x j, ← HY.out, IntKind.wrap_u32]; omega
            have HYL := Lib.hid (up_lt x (j + 1))
            obtain ⟨y2, hy2⟩ : ∃ y2, y2 = up x (j + 1) := ⟨_, rfl⟩
            rw [← hy2] at hup HYL
            have HY2 := Lib.hid hy2
            have HW := Lib.hid HJ.out.2
            clear hy2 HJ HT
            go_wp2_with fail
            refine C1.out.mono ?_
            rintro e w2 ⟨rfl, b2, k2⟩
            have G2 := Lib.hid (And.intro b2 (HW.out.trans k2))
            clear b2 k2 C1 HW
            go_wp2
            go_roundw
            case rel => exact ⟨j + 1, y2, by omega, by go_num, rfl, HYL.out, HY2, G2⟩
            case measure => simp [intOf]; omega
          · obtain rfl : j = 8 := by omega
            have HE : Hid (BldR wr w.heap.size w.heap.size (wl xs (k + 1)) 0 ∧ Below w.heap.size w wr) := Lib.hid (by
              rw [HW.out]
              exact HJ.out)
            clear HJ HY
            go_wp2
            go_roundw
            case rel => exact ⟨k + 1, by omega, by go_num, HE⟩
            case measure => simp [intOf]; omega
    · obtain rfl : k = xs.length := by omega
      have C := Lib.hid (bstring_any HK.out.1 HK.out.2.size)
      have HW := Lib.hid HK.out.2
      clear HK
      go_wp2_with fail
      refine C.out.mono ?_
      rintro e w1 ⟨rfl, hb⟩
      have HB := Lib.hid (HW.out.trans hb)
      clear hb
      go_wp2
      go_ret
      exact ⟨rfl, HB.out⟩
end Go.Proofs.Yticmienihfokjaa
