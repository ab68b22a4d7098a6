/- Encode and Dash of package hexes by their contracts. Conditions: those typed: what is written has room. -/
import Derived.Test.YticmienihfokjaaHxGrow
import Derived.Test.YticmienihfokjaaHxRdec
namespace Go.Proofs.Yticmienihfokjaa
set_option maxRecDepth 50000
open Go.RowKit Hx

/-- parts that may be written: all of it is short, or just one has bytes -/
def Fits (ss : List ByteArray) : Prop := ∀ k, (h : k < ss.length) → ss[k].size ≤ 140737488355328 ∧ (jn (ss.take k) = [] ∨ 6 * ((jn (ss.take k)).length + ss[k].size) ≤ 281474976710656)
theorem fits_short (ss : List ByteArray) (h : (jn ss).length ≤ 1000000) : Fits ss := fun k hk => by
  have h1 := jn_take_le ss (k + 1)
  rw [jn_snoc ss k hk, List.length_append, tl_length] at h1
  exact ⟨by omega, .inr (by omega)⟩
theorem fits_one (s : ByteArray) (h : s.size ≤ 140737488355328) : Fits [s] := fun k hk => by
  obtain rfl : k = 0 := by simp at hk; omega
  exact ⟨h, .inl rfl⟩
/-- Grow ahead of a part -/
theorem grow_part {B b n : Nat} {pre : List UInt8} {w : World} (h : BldR w B b (enc pre) 0) (hN : pre = [] → BldN w B b) (hn : n ≤ 140737488355328) (hf : pre = [] ∨ 6 * (pre.length + n) ≤ 281474976710656) (hBw : B ≤ w.heap.size) :
    Calls Try.prog 19 #[.pointer (some ⟨b, 0, none⟩), .int .i64 ((2 * n : Nat) : Int)] w fun e w' => e = .returned (.tuple #[]) ∧ BldR w' B b (enc pre) (2 * n) ∧ (pre = [] → n = 0 → BldN w' B b) ∧ Below B w w' := by
  by_cases hp : pre = []
  · subst hp
    refine (grow_new (hN rfl) (by omega) hBw).mono ?_
    rintro e w' ⟨rfl, h1, h2, h3⟩
    exact ⟨rfl, h1, fun _ h0 => h2 (by omega), h3⟩
  · have hf2 := hf.resolve_left hp
    refine (grow_more h (by rw [enc_length]; omega) hBw).mono ?_
    rintro e w' ⟨rfl, h1, h2⟩
    exact ⟨rfl, h1, fun h0 => absurd h0 hp, h2⟩

set_option maxHeartbeats 3200000 in
theorem encode_any (A : Option Addr) (c : Nat) (ss : List ByteArray) (hn : ss.length ≤ 1000000) (w : World) (hr : Reads w w.heap.size A (stv ss)) (hf : Fits ss) :
    Calls Try.prog 13 #[.slice A ss.length c] w fun e w' => e = .returned (.string (tx (enc (jn ss)))) ∧ Below w.heap.size w w' := by
  have HR := Lib.hid hr
  have HF := Lib.hid hf
  have HN0 := Lib.hid (BldN.new w)
  clear hr hf
  go_enter Try.func13, Try.ntmps13
  go_wp2
  generalize hW0 : World.alloc _ _ = w0
  have H0 : Hid (BldN w0 w.heap.size w.heap.size) := Lib.hid (by subst hW0; exact HN0.out)
  have B0 : Hid (Below w.heap.size w w0) := Lib.hid (by subst hW0; exact (Below.refl _ _).alloc (Nat.le_refl _) _)
  clear hW0 HN0
  go_loopw [9] (fun v9 wr => ∃ k : Nat, k ≤ ss.length ∧ v9 = .int .i64 (k : Int) ∧ Hid (BldR wr w.heap.size w.heap.size (enc (jn (ss.take k))) 0 ∧ (jn (ss.take k) = [] → BldN wr w.heap.size w.heap.size) ∧ Below w.heap.size w wr)) (fun v9 _ => ss.length - (intOf v9).toNat)
  case atStart => exact ⟨0, Nat.zero_le _, rfl, Lib.hid ⟨H0.out.bld, fun _ => H0.out, B0.out⟩⟩
  case round =>
    clear H0 B0
    obtain ⟨k, hk, rfl, HK⟩ := hrel
    by_cases hlt : k < ss.length
    · obtain ⟨b, off, rfl, hbB, hcell0⟩ := HR.out k (by rw [stv_length]; exact hlt)
      rw [stv_at] at hcell0
      have hcell := (HK.out.2.2.cell (p := ⟨b, off + k, none⟩) hbB).trans hcell0
      obtain ⟨s, hs⟩ : ∃ s, s = ss[k]'hlt := ⟨_, rfl⟩
      have hfk := HF.out k hlt
      have hsn := jn_snoc ss k hlt
      rw [← hs] at hcell hfk hsn
      have HS := Lib.hid hsn
      have hsz := hfk.1
      have HFK := Lib.hid hfk.2
      have hBw := HK.out.2.2.size
      have G := Lib.hid (grow_part HK.out.1 HK.out.2.1 hsz HFK.out hBw)
      have e1 : IntKind.i64.wrap (2 * (s.size : Int)) = ((2 * s.size : Nat) : Int) := by rw [IntKind.wrap_i64]; omega
      have i0 : (0 : Int) ≤ (k : Int) := by omega
      have i1 : (k : Int) < (ss.length : Int) := by omega
      clear hs hfk hsn hcell0 hbB hBw
      go_wp2_with fail
      refine G.out.mono ?_
      rintro e w1 ⟨rfl, g1, g2, g3⟩
      have GB := Lib.hid g1
      have GN : Hid (jn (ss.take (k + 1)) = [] → BldN w1 w.heap.size w.heap.size) := Lib.hid fun h => by
        rw [HS.out] at h
        obtain ⟨h1, h2⟩ := List.append_eq_nil_iff.1 h
        exact g2 h1 (by rw [← tl_length, h2]; rfl)
      have GW := Lib.hid (HK.out.2.2.trans g3)
      clear g1 g2 g3 HK G hcell
      go_wp2
      go_loopw [19] (fun v19 wr => ∃ (j : Nat), j ≤ s.size ∧ v19 = .int .i64 (j : Int) ∧ Hid (BldR wr w.heap.size w.heap.size (enc (jn (ss.take k)) ++ enc ((tl s).take j)) (2 * (s.size - j)) ∧ (jn (ss.take (k + 1)) = [] → BldN wr w.heap.size w.heap.size) ∧ Below w.heap.size w wr)) (fun v19 _ => s.size - (intOf v19).toNat)
      case atStart => exact ⟨0, Nat.zero_le _, rfl, Lib.hid ⟨by simpa [enc] using GB.out, GN.out, GW.out⟩⟩
      case round =>
        clear GB GN GW
        obtain ⟨j, hj, rfl, HJ⟩ := hrel
        by_cases hlj : j < s.size
        · obtain ⟨x, hx⟩ : ∃ x, x = s[j]'hlj := ⟨_, rfl⟩
          have hat : ((s[j]'hlj).toNat : Int) = (x.toNat : Int) := by rw [hx]
          have hsn := enc_snoc (tl s) j (by rw [tl_length]; exact hlj)
          have hat2 : (tl s)[j]'(by rw [tl_length]; exact hlj) = x := hx.symm
          rw [hat2] at hsn
          have hxl := x.toNat_lt
          obtain ⟨a, ha⟩ : ∃ a : Nat, a = x.toNat / 16 := ⟨_, rfl⟩
          obtain ⟨d, hd⟩ : ∃ d : Nat, d = x.toNat % 16 := ⟨_, rfl⟩
          have hal : a < 16 := by omega
          have hdl : d < 16 := by rw [hd]; exact Nat.mod_lt _ (by decide)
          have HTW : Hid (enc (jn (ss.take k)) ++ enc ((tl s).take (j + 1)) = enc (jn (ss.take k)) ++ enc ((tl s).take j) ++ [Hx.hd a] ++ [Hx.hd d]) := Lib.hid (by rw [hsn, ha, hd, two]; simp)
          have HNE : Hid (jn (ss.take (k + 1)) = [] → False) := Lib.hid fun h => by
            rw [HS.out] at h
            have := congrArg List.length (List.append_eq_nil_iff.1 h).2
            rw [tl_length] at this
            have h0 : s.size = 0 := this
            omega
          have e2 : bits .and .u8 (x.toNat : Int) 15 = (d : Int) := by rw [show (15 : Int) = ((15 : Nat) : Int) from rfl, u8_and_nat x.toNat 15 (by omega) (by decide), show (15 : Nat) = 2 ^ 4 - 1 from rfl, Nat.and_two_pow_sub_one_eq_mod, hd]
          have hx16 : x.toNat / 16 < 16 := by omega
          have hBw := HJ.out.2.2.size
          have C1 : Hid (Calls Try.prog 21 #[.pointer (some ⟨w.heap.size, 0, none⟩), .int .u8 ((hexS[x.toNat / 16]'hx16).toNat : Int)] wr fun e w' => e = .returned .nilIface ∧ BldR w' w.heap.size w.heap.size (enc (jn (ss.take k)) ++ enc ((tl s).take j) ++ [Hx.hd a]) (2 * (s.size - j) - 1) ∧ Below w.heap.size wr w') := Lib.hid (by
            rw [hexS_at _ hx16, ← ha]
            exact wbyte_any _ _ _ _ _ _ HJ.out.1 (.inl (by omega)) hBw)
          have C2 : Hid (∀ w1, BldR w1 w.heap.size w.heap.size (enc (jn (ss.take k)) ++ enc ((tl s).take j) ++ [Hx.hd a]) (2 * (s.size - j) - 1) → w.heap.size ≤ w1.heap.size → Calls Try.prog 21 #[.pointer (some ⟨w.heap.size, 0, none⟩), .int .u8 ((hexS[d]'hdl).toNat : Int)] w1 fun e w' => e = .returned .nilIface ∧ BldR w' w.heap.size w.heap.size (enc (jn (ss.take k)) ++ enc ((tl s).take j) ++ [Hx.hd a] ++ [Hx.hd d]) (2 * (s.size - j) - 1 - 1) ∧ Below w.heap.size w1 w') := Lib.hid fun w1 h1 h2 => by
            rw [hexS_at _ hdl]
            exact wbyte_any _ _ _ _ _ _ h1 (.inl (by omega)) h2
          have HW := Lib.hid HJ.out.2.2
          have HD := Lib.hid hd
          clear hsn hat2 hx ha hd HJ hBw
          go_wp2_with fail
          refine C1.out.mono ?_
          rintro e w2 ⟨rfl, b2, k2⟩
          have W2 := Lib.hid (HW.out.trans k2)
          have C3 := Lib.hid (C2.out w2 b2 W2.out.size)
          clear b2 k2 C1 C2 HW
          go_wp2_with fail
          refine C3.out.mono ?_
          rintro e w3 ⟨rfl, b3, k3⟩
          have W3 := Lib.hid (W2.out.trans k3)
          have B3 : Hid (BldR w3 w.heap.size w.heap.size (enc (jn (ss.take k)) ++ enc ((tl s).take (j + 1))) (2 * (s.size - (j + 1)))) := Lib.hid (by rw [HTW.out]; exact b3.less (by omega))
          clear b3 k3 C3 W2 HTW
          go_wp2
          go_roundw
          case rel => exact ⟨j + 1, by omega, by go_num, Lib.hid ⟨B3.out, fun h => (HNE.out h).elim, W3.out⟩⟩
          case measure => simp [intOf]; omega
        · obtain rfl : j = s.size := by omega
          have HE : Hid (BldR wr w.heap.size w.heap.size (enc (jn (ss.take (k + 1)))) 0) := Lib.hid (by
            have h1 := HJ.out.1
            have e : (tl s).take s.size = tl s := List.take_of_length_le (by rw [tl_length]; exact Nat.le_refl _)
            rw [e] at h1
            rw [HS.out, enc_append]
            exact h1.less (Nat.zero_le _))
          go_wp2
          go_roundw
          case rel => exact ⟨k + 1, by omega, by go_num, Lib.hid ⟨HE.out, HJ.out.2.1, HJ.out.2.2⟩⟩
          case measure => simp [intOf]; omega
    · obtain rfl : k = ss.length := by omega
      have h1 := HK.out.1
      rw [List.take_length] at h1
      have C := Lib.hid (bstring_any h1 HK.out.2.2.size)
      have HW := Lib.hid HK.out.2.2
      clear h1 HK
      go_wp2_with fail
      refine C.out.mono ?_
      rintro e w1 ⟨rfl, hb⟩
      have HB := Lib.hid (HW.out.trans hb)
      clear hb
      go_wp2
      go_ret
      exact ⟨rfl, HB.out⟩
end Go.Proofs.Yticmienihfokjaa
