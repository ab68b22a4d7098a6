/- New, Letters and total of package sextet by their contracts. Conditions: those typed. -/
import Derived.Test.YtjknpbaegnkdnaaSxTab
import Derived.LoopTactic
import Derived.IntWalk
namespace Go.Proofs.Ytjknpbaegnkdnaa
set_option maxRecDepth 50000
open Go.RowKit Sx

/-- how many letters so many bytes have -/
def lettN (n : Int) : Int := if n < 0 ∨ 576460752303423488 < n then 0 else (n * 8 + 5) / 6
theorem lettN_nat (n : Nat) (h : n ≤ 576460752303423488) : lettN (n : Int) = ((ne n : Nat) : Int) := by
  unfold lettN ne
  rw [if_neg (by omega)]
  omega
theorem letters_nil (n : Int) (w : World) : Calls Try.prog 15 #[.pointer none, .int .i64 n] w fun e w' => e = .returned (.int .i64 0) ∧ w' = w := by
  go_enter Try.func15, Try.ntmps15
  go_wp2
  go_ret
  exact ⟨rfl, rfl⟩
theorem letters_any (b : Nat) (n : Int) (w : World) : Calls Try.prog 15 #[.pointer (some ⟨b, 0, none⟩), .int .i64 n] w fun e w' => e = .returned (.int .i64 (lettN n)) ∧ w' = w := by
  by_cases h1 : n < 0
  · have HV : Hid (lettN n = 0) := Lib.hid (if_pos (.inl h1))
    go_enter Try.func15, Try.ntmps15
    go_wp2
    go_ret
    exact ⟨by rw [HV.out]; rfl, rfl⟩
  · have d1 : decide (n < 0) = false := by simp; omega
    by_cases h2 : 576460752303423488 < n
    · have HV : Hid (lettN n = 0) := Lib.hid (if_pos (.inr h2))
      have d2 : decide (576460752303423488 < n) = true := by simp; omega
      go_enter Try.func15, Try.ntmps15
      go_wp2
      go_ret
      exact ⟨by rw [HV.out]; rfl, rfl⟩
    · have HV : Hid (lettN n = (n * 8 + 5) / 6) := Lib.hid (if_neg (by omega))
      have d2 : decide (576460752303423488 < n) = false := by simp; omega
      have e1 : IntKind.i64.wrap (n * 8) = n * 8 := by rw [IntKind.wrap_i64]; omega
      have e2 : IntKind.i64.wrap (n * 8 + 5) = n * 8 + 5 := by rw [IntKind.wrap_i64]; omega
      obtain ⟨q, hq⟩ : ∃ q, q = (n * 8 + 5) / 6 := ⟨_, rfl⟩
      have e3 : (n * 8 + 5).tdiv 6 = q := by rw [Int.tdiv_eq_ediv_of_nonneg (by omega), hq]
      have e5 : IntKind.i64.wrap q = q := by rw [IntKind.wrap_i64]; omega
      rw [← hq] at HV
      clear hq
      go_enter Try.func15, Try.ntmps15
      go_wp2
      go_ret
      exact ⟨by rw [HV.out]; rfl, rfl⟩

theorem total_any (A : Option Addr) (c : Nat) (ps : List ByteArray) (w : World) (hr : Reads w w.heap.size A (stv ps)) (hn : ps.length ≤ 1000000) (hs : (jn ps).length ≤ 140737488355328) :
    Calls Try.prog 19 #[.slice A ps.length c] w fun e w' => e = .returned (.int .i64 ((jn ps).length : Int)) ∧ w' = w := by
  have HR := Lib.hid hr
  clear hr
  go_enter Try.func19, Try.ntmps19
  go_wp2
  go_loopw [3, 8] (fun n i wr => ∃ k : Nat, k ≤ ps.length ∧ i = .int .i64 k ∧ n = .int .i64 ((jn (ps.take k)).length : Int) ∧ wr = w) (fun _ i _ => ps.length - (intOf i).toNat)
  case atStart => exact ⟨0, Nat.zero_le _, rfl, rfl, rfl⟩
  case round =>
    obtain ⟨k, hk, rfl, rfl, rfl⟩ := hrel
    by_cases hlt : k < ps.length
    · obtain ⟨b, off, rfl, hbB, hcell⟩ := HR.out k (by rw [stv_length]; exact hlt)
      rw [stv_at] at hcell
      have h1 := jn_take_le ps (k + 1)
      rw [jn_snoc ps k hlt, List.length_append, tl_length] at h1
      have Hsn : Hid ((jn (ps.take (k + 1))).length = (jn (ps.take k)).length + ps[k].size) := Lib.hid (by rw [jn_snoc ps k hlt, List.length_append, tl_length])
      generalize (jn (ps.take k)).length = J at *
      generalize ps[k] = s at *
      have i0 : (0 : Int) ≤ (k : Int) := by omega
      have i1 : (k : Int) < (ps.length : Int) := by omega
      go_wp2
      go_roundw
      case rel => exact ⟨k + 1, by omega, by go_num, by rw [Hsn.out]; go_num, by trivial⟩
      case measure => simp [intOf]; omega
    · obtain rfl : k = ps.length := by omega
      rw [List.take_length]
      go_wp2
      go_ret
      exact ⟨rfl, rfl⟩

/-- New of letters that are none -/
theorem new_size (s : ByteArray) (h : s.size ≠ 64) (w : World) : Calls Try.prog 11 #[.string s] w fun e w' => e = .returned (.tuple #[.pointer none, .int .i64 (lettE (tl s))]) ∧ w' = w := by
  have HV : Hid (lettE (tl s) = 9) := Lib.hid (if_neg (by rw [tl_length]; exact h))
  have d : ((s.size : Int) != 64) = true := by simp; omega
  go_enter Try.func11, Try.ntmps11
  go_wp2
  go_ret2
  exact ⟨by rw [HV.out]; rfl, rfl⟩
/-- what New answers: a coder, or why there is none -/
def NewIs (w : World) (L : List UInt8) (e : Ending) (w' : World) : Prop :=
  (lettE L ≠ 0 ∧ e = .returned (.tuple #[.pointer none, .int .i64 (lettE L)]) ∨ lettE L = 0 ∧ e = .returned (.tuple #[.pointer (some ⟨w.heap.size, 0, none⟩), .int .i64 (lettE L)]) ∧ Cdr w' w.heap.size L) ∧ Below w.heap.size w w'
set_option maxHeartbeats 3200000 in
theorem new_any (s : ByteArray) (w : World) : Calls Try.prog 11 #[.string s] w (NewIs w (tl s)) := by
  by_cases h : s.size = 64
  · have hl : (tl s).length = 64 := by rw [tl_length]; exact h
    have HV : Hid (lettE (tl s) = scan (tl s) 64) := Lib.hid (if_pos hl)
    have hz := zero_coder_run
    have HN := Lib.hid (Cdr.new w (tl s))
    have d : ((s.size : Int) != 64) = false := by simp; omega
    go_enter Try.func11, Try.ntmps11
    go_wp2
    generalize hW0 : World.alloc _ _ = w0
    have B0 : Hid (Below w.heap.size w w0) := Lib.hid (by subst hW0; exact (Below.refl _ _).alloc (Nat.le_refl _) _)
    have N0 : Hid (Cdr w0 w.heap.size ((tl s).take 0)) := Lib.hid (by subst hW0; exact HN.out)
    clear hW0 HN hz
    go_loopw [11] (fun v11 wr => ∃ k : Nat, k ≤ 64 ∧ v11 = .int .i64 (k : Int) ∧ Hid (scan (tl s) k = 0) ∧ Hid (Cdr wr w.heap.size ((tl s).take k) ∧ Below w.heap.size w wr)) (fun v11 _ => 64 - (intOf v11).toNat)
    case atStart => exact ⟨0, Nat.zero_le _, rfl, Lib.hid rfl, Lib.hid ⟨N0.out, B0.out⟩⟩
    case round =>
      clear N0 B0
      obtain ⟨k, hk, rfl, HS, HK⟩ := hrel
      by_cases hlt : k < 64
      · have hks : k < s.size := by omega
        obtain ⟨x, hx⟩ : ∃ x, x = s[k]'hks := ⟨_, rfl⟩
        have hat : ((s[k]'hks).toNat : Int) = (x.toNat : Int) := by rw [hx]
        have hxl : x = Sx.lt (tl s) k := by
          rw [hx]
          unfold Sx.lt
          rw [List.getD_eq_getElem?_getD, List.getElem?_eq_getElem (by rw [hl]; exact hlt)]; rfl
        have hxb := x.toNat_lt
        by_cases hr : x.toNat < 33 ∨ 126 < x.toNat
        · have HB : Hid (lettE (tl s) = 8 ∧ lettE (tl s) ≠ 0) := Lib.hid (by
            have hw : wrong (tl s) k = 8 := by unfold wrong; rw [if_pos (by rw [← hxl]; exact hr)]
            have : lettE (tl s) = 8 := by rw [HV.out, scan_wrong HS.out (by rw [hw]; decide) hlt, hw]
            exact ⟨this, by rw [this]; decide⟩)
          have HW := Lib.hid HK.out.2
          clear hxl hx HS HK HV
          generalize x.toNat = y at *
          rcases hr with hr | hr
          · have d1 : decide ((y : Int) < 33) = true := by simp; omega
            go_wp2
            go_ret2
            exact ⟨.inl ⟨HB.out.2, by rw [HB.out.1]; rfl⟩, HW.out⟩
          · have d1 : decide ((y : Int) < 33) = false := by simp; omega
            have d2 : decide ((126 : Int) < (y : Int)) = true := by simp; omega
            go_wp2
            go_ret2
            exact ⟨.inl ⟨HB.out.2, by rw [HB.out.1]; rfl⟩, HW.out⟩
        · have d1 : decide ((x.toNat : Int) < 33) = false := by simp; omega
          have d2 : decide ((126 : Int) < (x.toNat : Int)) = false := by simp; omega
          have hc := HK.out.1.val x
          by_cases hm : x ∈ (tl s).take k
          · have HB : Hid (lettE (tl s) = 15 ∧ lettE (tl s) ≠ 0) := Lib.hid (by
              have hw : wrong (tl s) k = 15 := by unfold wrong; rw [if_neg (by rw [← hxl]; exact hr), if_pos (by rw [← hxl]; exact hm)]
              have : lettE (tl s) = 15 := by rw [HV.out, scan_wrong HS.out (by rw [hw]; decide) hlt, hw]
              exact ⟨this, by rw [this]; decide⟩)
            have HW := Lib.hid HK.out.2
            obtain ⟨v, hv⟩ : ∃ v, v = pos ((tl s).take k) x := ⟨_, rfl⟩
            have hvv : vv ((tl s).take k) x = v + 1 := by rw [hv]; exact if_pos hm
            rw [hvv] at hc
            have d3 : (((v + 1 : Nat) : Int) != 0) = true := by simp; omega
            clear hxl hx HS HK HV hvv hm hr hv
            generalize x.toNat = y at *
            go_wp2
            go_ret2
            exact ⟨.inl ⟨HB.out.2, by rw [HB.out.1]; rfl⟩, HW.out⟩
          · have HS2 : Hid (scan (tl s) (k + 1) = 0) := Lib.hid (by
              rw [scan_next HS.out]
              unfold wrong
              rw [if_neg (by rw [← hxl]; exact hr), if_neg (by rw [← hxl]; exact hm)])
            have hvv : vv ((tl s).take k) x = 0 := if_neg hm
            rw [hvv, show ((0 : Nat) : Int) = 0 from rfl] at hc
            have hf := HK.out.1.free
            have hf2 : ∀ i, (wr.setCell ⟨w.heap.size, k, none⟩ (.int .u8 (x.toNat : Int))).frozen? ⟨w.heap.size, i, none⟩ = false := fun i => RowAt.frozen (RowAt.setCell HK.out.1 k _) i
            have hc2 : (wr.setCell ⟨w.heap.size, k, none⟩ (.int .u8 (x.toNat : Int))).cell? ⟨w.heap.size, 64 + x.toNat, none⟩ = some (.int .u8 0) := by
              rw [RowAt.cell (RowAt.setCell HK.out.1 k _), Array.getElem?_setIfInBounds_ne (by omega), ← RowAt.cell HK.out.1]; exact hc
            have hc1 := HK.out.1.lett k hlt
            have HNX := Lib.hid (HK.out.1.next (l := tl s) (by rw [hl]; exact hlt) hl (by rw [← hxl]; exact hm))
            rw [← hxl] at HNX
            have HW := Lib.hid HK.out.2
            have e1 : IntKind.u8.wrap ((k : Int) + 1) = ((k + 1 : Nat) : Int) := by rw [IntKind.wrap_u8]; omega
            clear hxl hx HS HK HV hvv hm hr
            generalize x.toNat = y at *
            go_wp2
            go_roundw
            case rel => exact ⟨k + 1, by omega, by go_num, HS2, Lib.hid ⟨HNX.out, (HW.out.setCell (p := ⟨w.heap.size, k, none⟩) (Nat.le_refl _) _).setCell (p := ⟨w.heap.size, 64 + y, none⟩) (Nat.le_refl _) _⟩⟩
            case measure => simp [intOf]; omega
      · obtain rfl : k = 64 := by omega
        have HE : Hid (lettE (tl s) = 0) := Lib.hid (by rw [HV.out]; exact HS.out)
        have HC : Hid (Cdr wr w.heap.size (tl s)) := Lib.hid (by
          have := HK.out.1
          rwa [List.take_of_length_le (by omega)] at this)
        have HW := Lib.hid HK.out.2
        clear HV HS HK
        go_wp2
        go_ret2
        exact ⟨.inr ⟨HE.out, by rw [HE.out]; rfl, HC.out⟩, HW.out⟩
  · have HV : Hid (lettE (tl s) = 9) := Lib.hid (if_neg (by rw [tl_length]; exact h))
    refine (new_size s h w).mono ?_
    rintro e w' ⟨rfl, rfl⟩
    exact ⟨.inl ⟨by rw [HV.out]; decide, rfl⟩, Below.refl _ _⟩
end Go.Proofs.Ytjknpbaegnkdnaa
