/- Bytes of texts held against each other, place by place; the document's Same by its contract. Condition: the texts are no longer than what may come in. -/
import Derived.Test.YticjndlgjbbemaaFdHeld
import Derived.Laws.BitsAllLaws
namespace Go.Proofs.Yticjndlgjbbemaa
set_option maxRecDepth 50000
open Go.RowKit

/-- the byte at a place; 0 behind the end -/
def bt (s : ByteArray) (i : Nat) : Nat := if h : i < s.size then (s[i]'h).toNat else 0
theorem bt_lt (s : ByteArray) (i : Nat) : bt s i < 256 := by
  unfold bt
  split
  · exact UInt8.toNat_lt _
  · decide
theorem bt_at (s : ByteArray) (i : Nat) (h : i < s.size) : (s[i]'h).toNat = bt s i := by unfold bt; rw [dif_pos h]
theorem xor_none {x y : Nat} : x ^^^ y = 0 ↔ x = y :=
  ⟨fun h => by have := congrArg (· ^^^ y) h; simpa [Nat.xor_assoc, Nat.xor_self] using this, fun h => by subst h; exact Nat.xor_self x⟩
/-- where bytes of the first k places are unlike, as bits -/
def unl (a b : ByteArray) : Nat → Nat
  | 0 => 0
  | k + 1 => unl a b k ||| (bt a k ^^^ bt b k)
theorem unl_lt (a b : ByteArray) : ∀ k, unl a b k < 256
  | 0 => by unfold unl; decide
  | k + 1 => Nat.or_lt_two_pow (n := 8) (unl_lt a b k) (Nat.xor_lt_two_pow (n := 8) (bt_lt a k) (bt_lt b k))
theorem unl_zero (a b : ByteArray) : ∀ k, unl a b k = 0 ↔ ∀ i, i < k → bt a i = bt b i
  | 0 => by simp [unl]
  | k + 1 => by
    rw [unl, Nat.or_eq_zero_iff, unl_zero a b k]
    constructor
    · rintro ⟨h1, h2⟩ i hi
      by_cases h : i = k
      · subst h
        exact xor_none.1 h2
      · exact h1 i (by omega)
    · intro h
      exact ⟨fun i hi => h i (by omega), xor_none.2 (h k (by omega))⟩

/-- are the texts the same -/
def eqB (a b : ByteArray) : Bool := decide (tl a = tl b)
theorem eqB_self (a : ByteArray) : eqB a a = true := by simp [eqB]
theorem eqB_len (a b : ByteArray) (h : a.size ≠ b.size) : eqB a b = false := by
  unfold eqB
  rw [decide_eq_false_iff_not]
  intro e
  have := congrArg List.length e
  rw [tl_length, tl_length] at this
  exact h this
theorem bt_tl (s : ByteArray) (i : Nat) (h : i < s.size) : bt s i = ((tl s)[i]'(by rw [tl_length]; exact h)).toNat := by
  rw [← bt_at s i h]; rfl
theorem eqB_iff (a b : ByteArray) (h : a.size = b.size) : eqB a b = true ↔ ∀ i, i < a.size → bt a i = bt b i := by
  unfold eqB
  rw [decide_eq_true_iff]
  constructor
  · intro e i hi
    rw [bt_tl a i hi, bt_tl b i (by omega)]
    simp only [e]
  · intro e
    refine List.ext_getElem (by rw [tl_length, tl_length, h]) fun i h1 h2 => ?_
    have h3 : i < a.size := by rwa [tl_length] at h1
    have := e i h3
    rw [bt_tl a i h3, bt_tl b i (by omega)] at this
    exact UInt8.toNat.inj this
theorem eqB_unl (a b : ByteArray) (h : a.size = b.size) : eqB a b = decide (unl a b a.size = 0) := by
  have e := eqB_iff a b h
  have e2 := unl_zero a b a.size
  cases h1 : eqB a b with
  | true => rw [eq_comm, decide_eq_true_iff, e2]; exact e.1 h1
  | false =>
    rw [eq_comm, decide_eq_false_iff_not, e2]
    intro h2
    rw [e.2 h2] at h1
    cases h1

set_option maxHeartbeats 1600000 in
theorem rsame_any (a b : ByteArray) (ha : a.size ≤ 140737488351232) (w : World) :
    Calls Try.prog 8 #[.string a, .string b] w fun e w' => e = .returned (.bool (eqB a b)) ∧ ∃ q, w' = w.drewN q := by
  by_cases hs : a.size = b.size
  · have hsI : ((a.size : Int) == (b.size : Int)) = true := by rw [beq_iff_eq]; omega
    have HS := Lib.hid hs
    have HE := Lib.hid (eqB_iff a b hs)
    clear hs
    go_enter Try.func8, Try.ntmps8
    go_wp2
    go_loopw [5] (fun v5 wr => ∃ k : Nat, k ≤ a.size ∧ v5 = .int .i64 ((k : Int) - 1) ∧ Hid (∀ i, k ≤ i → i < a.size → bt a i = bt b i) ∧ ∃ q, wr = w.drewN q) (fun v5 _ => (intOf v5 + 1).toNat)
    case atStart => exact ⟨a.size, Nat.le_refl _, rfl, Lib.hid fun i h1 h2 => by omega, 0, rfl⟩
    case round =>
      obtain ⟨k, hk, rfl, HK, q, rfl⟩ := hrel
      by_cases h0 : k = 0
      · subst h0
        have HT : Hid (eqB a b = true) := Lib.hid (HE.out.2 fun i hi => HK.out i (by omega) hi)
        clear HK HE
        rw [show (((0 : Nat) : Int) - 1) = -1 from rfl]
        go_wp2
        go_ret
        exact ⟨by rw [HT.out]; rfl, q, rfl⟩
      · obtain ⟨j, hj⟩ : ∃ j, k = j + 1 := ⟨k - 1, by omega⟩
        subst hj
        have hja : j < a.size := by omega
        have hjb : j < b.size := by have := HS.out; omega
        have ej : ((j + 1 : Nat) : Int) - 1 = (j : Int) := by omega
        rw [ej]
        obtain ⟨x, hx⟩ : ∃ x : Nat, x = bt a j := ⟨_, rfl⟩
        obtain ⟨y, hy⟩ : ∃ y : Nat, y = bt b j := ⟨_, rfl⟩
        have hxI : ((a[j]'hja).toNat : Int) = (x : Int) := by rw [bt_at a j hja, hx]
        have hyI : ((b[j]'hjb).toNat : Int) = (y : Int) := by rw [bt_at b j hjb, hy]
        have HX := Lib.hid hx
        have HY := Lib.hid hy
        clear hx hy ej h0
        by_cases hxy : x = y
        · have hxyI : ((x : Int) == (y : Int)) = true := by rw [beq_iff_eq]; omega
          have HXY := Lib.hid hxy
          clear hxy
          go_wp2
          go_quiet (fail)
          go_wp2
          go_roundw
          case rel =>
            refine ⟨j, by omega, by go_num, Lib.hid fun i h1 h2 => ?_, _, by first | rfl | exact World.drewN_drewN _ _ _⟩
            by_cases h : i = j
            · subst h; rw [← HX.out, ← HY.out]; exact HXY.out
            · exact HK.out i (by omega) h2
          case measure => simp [intOf]
        · have hxyI : ((x : Int) == (y : Int)) = false := by rw [beq_eq_false_iff_ne]; omega
          have HF : Hid (eqB a b = false) := Lib.hid (by
            cases h : eqB a b with
            | false => rfl
            | true => exact absurd (HE.out.1 h j hja) (by rw [← HX.out, ← HY.out]; exact hxy))
          clear hxy HE
          go_wp2
          go_quiet (fail)
          go_wp2
          go_ret
          exact ⟨by rw [HF.out]; rfl, _, by first | rfl | exact World.drewN_drewN _ _ _⟩
  · have hsI : ((a.size : Int) == (b.size : Int)) = false := by rw [beq_eq_false_iff_ne]; omega
    have HF := Lib.hid (eqB_len a b hs)
    clear hs
    go_enter Try.func8, Try.ntmps8
    go_wp2
    go_ret
    exact ⟨by rw [HF.out]; rfl, 0, rfl⟩
end Go.Proofs.Yticjndlgjbbemaa
