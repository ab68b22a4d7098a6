/- Whether a text's bytes are digits, of the program and of the document; a digit's number and a number's digit. Conditions: those typed. -/
import Derived.Test.YtkmaghjdnknjjaaDcPure
import Derived.Laws.Strings2
namespace Go.Proofs.Ytkmaghjdnknjjaa
set_option maxRecDepth 50000
open Go.RowKit De

theorem dc_text (s : ByteArray) (k : Nat) (h : k < s.size) : (tl s)[k]'(by rw [tl_length]; exact h) = s[k]'h := rfl
theorem alld_hit {l : List UInt8} {k : Nat} (h : k < l.length) (h2 : isd l[k] = false) : alld l = false := List.all_eq_false.2 ⟨l[k], List.getElem_mem h, by rw [h2]; decide⟩
theorem alld_next {l : List UInt8} {k : Nat} (h : k < l.length) (h2 : isd l[k] = true) (h3 : alld (l.take k) = true) : alld (l.take (k + 1)) = true := by
  unfold alld at *
  rw [List.take_succ_eq_append_getElem h, List.all_append, h3]
  simp [h2]
theorem alld_at {l : List UInt8} {k : Nat} (h : k < l.length) (h2 : alld l = true) : isd l[k] = true := List.all_eq_true.1 h2 _ (List.getElem_mem h)
theorem tl_nil : tl ⟨#[]⟩ = [] := rfl
theorem tl_size0 {s : ByteArray} (h : s.size = 0) : tl s = [] := List.eq_nil_of_length_eq_zero (by rw [tl_length]; exact h)
theorem tl_size1 {s : ByteArray} (h : s.size ≠ 0) : tl s ≠ [] := by
  intro e
  have := tl_length s
  rw [e] at this
  simp at this; omega
theorem text_some (s : ByteArray) (h : tl s ≠ []) : s.toList ≠ [] ∧ s.toList.isEmpty = false ∧ (s.toList == []) = false ∧ (s.toList != []) = true := by
  have e : s.toList = tl s := ByteArray.toList_eq s
  refine ⟨by rw [e]; exact h, ?_, ?_, ?_⟩
  · rw [e]; cases hc : tl s with
    | nil => exact absurd hc h
    | cons _ _ => rfl
  · rw [e]; cases hc : tl s with
    | nil => exact absurd hc h
    | cons _ _ => rfl
  · rw [e]; cases hc : tl s with
    | nil => exact absurd hc h
    | cons _ _ => rfl
theorem text_none (s : ByteArray) (h : tl s = []) : s.toList = [] ∧ s.toList.isEmpty = true ∧ (s.toList == []) = true ∧ (s.toList != []) = false := by
  have e : s.toList = tl s := ByteArray.toList_eq s
  rw [e, h]
  exact ⟨rfl, rfl, rfl, rfl⟩
/-- how a byte lies to the digits -/
theorem isd_way (b : UInt8) : (isd b = false ∧ decide ((b.toNat : Int) < 48) = true) ∨ (isd b = false ∧ decide ((b.toNat : Int) < 48) = false ∧ decide ((57 : Int) < (b.toNat : Int)) = true) ∨ (isd b = true ∧ decide ((b.toNat : Int) < 48) = false ∧ decide ((57 : Int) < (b.toNat : Int)) = false) := by
  simp only [isd, decide_eq_true_eq, decide_eq_false_iff_not]
  omega

set_option maxHeartbeats 1600000 in
theorem onlyd_any (s : ByteArray) (hs : s.size ≤ 140737488351232) (w : World) :
    Calls Try.prog 17 #[.string s] w fun e w' => e = .returned (.bool (alld (tl s) && decide (tl s ≠ []))) ∧ w' = w := by
  go_enter Try.func17, Try.ntmps17
  go_wp2
  go_loopw [6] (fun v6 wr => ∃ k : Nat, k ≤ s.size ∧ v6 = .int .i64 (k : Int) ∧ Hid (alld ((tl s).take k) = true) ∧ wr = w) (fun v6 _ => s.size - (intOf v6).toNat)
  case atStart => exact ⟨0, by omega, rfl, Lib.hid (by simp [alld]), rfl⟩
  case round =>
    obtain ⟨k, hk, rfl, HK, rfl⟩ := hrel
    by_cases hlt : k < s.size
    · have hkl : k < (tl s).length := by rw [tl_length]; exact hlt
      have hat := dc_text s k hlt
      have hlI : decide ((k : Int) < (s.size : Int)) = true := by simp; omega
      rcases isd_way (s[k]'hlt) with ⟨h1, d1⟩ | ⟨h1, d1, d2⟩ | ⟨h1, d1, d2⟩
      · have HR : Hid (alld (tl s) = false) := Lib.hid (alld_hit hkl (by rw [hat]; exact h1))
        clear hat h1 HK hkl
        go_wp2
        go_ret
        exact ⟨by rw [HR.out]; rfl, rfl⟩
      · have HR : Hid (alld (tl s) = false) := Lib.hid (alld_hit hkl (by rw [hat]; exact h1))
        clear hat h1 HK hkl
        go_wp2
        go_ret
        exact ⟨by rw [HR.out]; rfl, rfl⟩
      · have HK2 : Hid (alld ((tl s).take (k + 1)) = true) := Lib.hid (alld_next hkl (by rw [hat]; exact h1) HK.out)
        clear hat h1 HK hkl
        go_wp2
        go_roundw
        case rel => exact ⟨k + 1, by omega, by go_num, HK2, trivial⟩
        case measure => simp [intOf]; omega
    · obtain rfl : k = s.size := by omega
      have HR : Hid (alld (tl s) = true) := Lib.hid (by
        have := HK.out
        rwa [List.take_of_length_le (by rw [tl_length]; exact Nat.le_refl _)] at this)
      clear HK
      by_cases h0 : s.size = 0
      · have h1 := tl_size0 h0
        have H1 := Lib.hid h1
        obtain ⟨t1, t2, t3, t4⟩ := text_none s h1
        clear h1 h0
        go_wp2
        go_ret
        exact ⟨by rw [HR.out, H1.out]; rfl, rfl⟩
      · have h1 := tl_size1 h0
        have H1 := Lib.hid h1
        obtain ⟨t1, t2, t3, t4⟩ := text_some s h1
        clear h1 h0
        go_wp2
        go_ret
        exact ⟨by rw [HR.out, decide_eq_true H1.out]; rfl, rfl⟩

set_option maxHeartbeats 1600000 in
theorem rdigits_any (s : ByteArray) (hs : s.size ≤ 140737488351232) (w : World) :
    Calls Try.prog 19 #[.string s] w fun e w' => e = .returned (.bool (alld (tl s))) ∧ w' = w := by
  go_enter Try.func19, Try.ntmps19
  go_wp2
  go_loopw [3] (fun v3 wr => ∃ k : Nat, k ≤ s.size ∧ v3 = .int .i64 (k : Int) ∧ Hid (alld ((tl s).take k) = true) ∧ wr = w) (fun v3 _ => s.size - (intOf v3).toNat)
  case atStart => exact ⟨0, by omega, rfl, Lib.hid (by simp [alld]), rfl⟩
  case round =>
    obtain ⟨k, hk, rfl, HK, rfl⟩ := hrel
    by_cases hlt : k < s.size
    · have hkl : k < (tl s).length := by rw [tl_length]; exact hlt
      have hat := dc_text s k hlt
      have hlI : decide ((k : Int) < (s.size : Int)) = true := by simp; omega
      rcases isd_way (s[k]'hlt) with ⟨h1, d1⟩ | ⟨h1, d1, d2⟩ | ⟨h1, d1, d2⟩
      · have HR : Hid (alld (tl s) = false) := Lib.hid (alld_hit hkl (by rw [hat]; exact h1))
        clear hat h1 HK hkl
        go_wp2
        go_ret
        exact ⟨by rw [HR.out]; rfl, rfl⟩
      · have HR : Hid (alld (tl s) = false) := Lib.hid (alld_hit hkl (by rw [hat]; exact h1))
        clear hat h1 HK hkl
        go_wp2
        go_ret
        exact ⟨by rw [HR.out]; rfl, rfl⟩
      · have HK2 : Hid (alld ((tl s).take (k + 1)) = true) := Lib.hid (alld_next hkl (by rw [hat]; exact h1) HK.out)
        clear hat h1 HK hkl
        go_wp2
        go_roundw
        case rel => exact ⟨k + 1, by omega, by go_num, HK2, trivial⟩
        case measure => simp [intOf]; omega
    · obtain rfl : k = s.size := by omega
      have HR : Hid (alld (tl s) = true) := Lib.hid (by
        have := HK.out
        rwa [List.take_of_length_le (by rw [tl_length]; exact Nat.le_refl _)] at this)
      clear HK
      go_wp2
      go_ret
      exact ⟨by rw [HR.out]; rfl, rfl⟩

theorem value_any (b : UInt8) (h : isd b = true) (w : World) :
    Calls Try.prog 18 #[.int .u8 (b.toNat : Int)] w fun e w' => e = .returned (.int .i64 ((dv b : Nat) : Int)) ∧ w' = w := by
  have h2 := h
  simp only [isd, decide_eq_true_eq] at h2
  obtain ⟨d, hd⟩ : ∃ d, d = dv b := ⟨_, rfl⟩
  rw [← hd]
  unfold dv at hd
  generalize b.toNat = x at *
  have e1 : IntKind.u8.wrap ((x : Int) - 48) = (d : Int) := by rw [IntKind.wrap_u8]; omega
  have e2 : IntKind.i64.wrap (d : Int) = (d : Int) := by rw [IntKind.wrap_i64]; omega
  clear h h2 hd
  go_enter Try.func18, Try.ntmps18
  go_wp2
  go_ret
  exact ⟨rfl, rfl⟩
theorem digit_any (d : Nat) (h : d < 10) (w : World) :
    Calls Try.prog 20 #[.int .i64 (d : Int)] w fun e w' => e = .returned (.int .u8 ((dg d).toNat : Int)) ∧ w' = w := by
  have hx := dg_nat d h
  generalize (dg d).toNat = x at *
  have e1 : (48 : Int) + (d : Int) = (x : Int) := by omega
  have e2 : IntKind.i64.wrap (x : Int) = (x : Int) := by rw [IntKind.wrap_i64]; omega
  have e3 : IntKind.u8.wrap (x : Int) = (x : Int) := by rw [IntKind.wrap_u8]; omega
  clear hx h
  go_enter Try.func20, Try.ntmps20
  go_wp2
  go_ret
  exact ⟨rfl, rfl⟩
end Go.Proofs.Ytkmaghjdnknjjaa
