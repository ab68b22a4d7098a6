/- A letter's value, of the program and of the document; the document's letter. No condition. -/
import Derived.Test.YticmienihfokjaaHxPure
import Derived.Laws.BitsAllLaws
import Derived.Laws.Strings2
namespace Go.Proofs.Yticmienihfokjaa
set_option maxRecDepth 50000
open Go.RowKit Hx

theorem value_any (b : UInt8) (w : World) :
    Calls Try.prog 20 #[.int .u8 (b.toNat : Int)] w fun e w' => e = .returned (.tuple #[.int .u8 ((dn b : Nat) : Int), .bool (isd b)]) ∧ w' = w := by
  have hlt := b.toNat_lt
  by_cases h1 : 48 ≤ b.toNat ∧ b.toNat ≤ 57
  · have HS : Hid (isd b = true ∧ dn b = b.toNat - 48) := Lib.hid (by
      have : isd b = true := by simp [isd]; omega
      exact ⟨this, by rw [dn_of this]; unfold dv; rw [if_pos h1.2]⟩)
    rw [HS.out.1, HS.out.2]
    clear HS
    generalize b.toNat = x at *
    have d1 : decide ((48 : Int) ≤ (x : Int)) = true := by simp; omega
    have d2 : decide ((x : Int) ≤ 57) = true := by simp; omega
    have e1 : IntKind.u8.wrap ((x : Int) - 48) = ((x - 48 : Nat) : Int) := by rw [IntKind.wrap_u8]; omega
    generalize x - 48 = y at *
    clear h1
    go_enter Try.func20, Try.ntmps20
    go_wp2
    go_ret2
    exact ⟨rfl, rfl⟩
  · by_cases h2 : 97 ≤ b.toNat ∧ b.toNat ≤ 102
    · have HS : Hid (isd b = true ∧ dn b = b.toNat - 87) := Lib.hid (by
        have : isd b = true := by simp [isd]; omega
        exact ⟨this, by rw [dn_of this]; unfold dv; rw [if_neg (by omega)]⟩)
      rw [HS.out.1, HS.out.2]
      clear HS
      generalize b.toNat = x at *
      have d1 : decide ((48 : Int) ≤ (x : Int)) = true := by simp; omega
      have d2 : decide ((x : Int) ≤ 57) = false := by simp; omega
      have d3 : decide ((97 : Int) ≤ (x : Int)) = true := by simp; omega
      have d4 : decide ((x : Int) ≤ 102) = true := by simp; omega
      have e1 : IntKind.u8.wrap ((x : Int) - 97) = ((x - 97 : Nat) : Int) := by rw [IntKind.wrap_u8]; omega
      have e2 : IntKind.u8.wrap (((x - 97 : Nat) : Int) + 10) = ((x - 87 : Nat) : Int) := by rw [IntKind.wrap_u8]; omega
      generalize x - 97 = y at *
      generalize x - 87 = z at *
      clear h1 h2
      go_enter Try.func20, Try.ntmps20
      go_wp2
      go_ret2
      exact ⟨rfl, rfl⟩
    · have HS : Hid (isd b = false ∧ dn b = 0) := Lib.hid (by
        have : isd b = false := by simp [isd]; omega
        exact ⟨this, by unfold dn; rw [this]; rfl⟩)
      rw [HS.out.1, HS.out.2]
      clear HS
      generalize b.toNat = x at *
      by_cases g1 : 48 ≤ x
      · have d1 : decide ((48 : Int) ≤ (x : Int)) = true := by simp; omega
        have d2 : decide ((x : Int) ≤ 57) = false := by simp; omega
        by_cases g2 : 97 ≤ x
        · have d3 : decide ((97 : Int) ≤ (x : Int)) = true := by simp; omega
          have d4 : decide ((x : Int) ≤ 102) = false := by simp; omega
          clear h1 h2 g1 g2
          go_enter Try.func20, Try.ntmps20
          go_wp2
          go_ret2
          exact ⟨rfl, rfl⟩
        · have d3 : decide ((97 : Int) ≤ (x : Int)) = false := by simp; omega
          clear h1 h2 g1 g2
          go_enter Try.func20, Try.ntmps20
          go_wp2
          go_ret2
          exact ⟨rfl, rfl⟩
      · have d1 : decide ((48 : Int) ≤ (x : Int)) = false := by simp; omega
        have d3 : decide ((97 : Int) ≤ (x : Int)) = false := by simp; omega
        clear h1 h2 g1
        go_enter Try.func20, Try.ntmps20
        go_wp2
        go_ret2
        exact ⟨rfl, rfl⟩

/-- the digits, as the code has them -/
def hexS : ByteArray := ⟨#[48, 49, 50, 51, 52, 53, 54, 55, 56, 57, 97, 98, 99, 100, 101, 102]⟩
theorem hexS_size : hexS.size = 16 := rfl
theorem hexS_some : ∀ k : Nat, k < 16 → (tl hexS)[k]? = some (hd k) := by decide +kernel
theorem hexS_at (k : Nat) (h : k < 16) : hexS[k]'h = hd k := by
  have e := hexS_some k h
  rw [List.getElem?_eq_getElem (by rw [tl_length]; exact h)] at e
  exact Option.some.inj e
theorem hexS_cut : ∀ k : Nat, k < 16 → tl (hexS.extract k (k + 1)) = [hd k] := by decide +kernel

theorem letter_any (k : Nat) (hk : k < 16) (w : World) :
    Calls Try.prog 24 #[.int .i64 (k : Int)] w fun e w' => e = .returned (.string (tx [hd k])) ∧ w' = w := by
  have hx : hexS.extract k (k + 1) = tx [hd k] := tl_inj (by rw [hexS_cut k hk, tl_tx])
  go_enter Try.func24, Try.ntmps24
  generalize hS : (⟨#[48, 49, 50, 51, 52, 53, 54, 55, 56, 57, 97, 98, 99, 100, 101, 102]⟩ : ByteArray) = S
  have e : S = hexS := hS.symm
  have es : S.size = 16 := by rw [e]; rfl
  rw [← e] at hx
  have hr : (Instr.slice 9 (.string S) (some (.int .i64 (k : Int))) (some (.int .i64 ((k : Int) + 1))) none).run Try.prog w = .ok (.string (tx [hd k])) w := by
    rw [run_slice_string w 9 S .i64 .i64 (k : Int) ((k : Int) + 1) Try.underlying9 (by omega) (by omega) (by omega), ← hx]
    rfl
  clear hS e hx es
  go_wp2
  go_ret
  exact ⟨by first | rfl | rw [hx], rfl⟩
end Go.Proofs.Yticmienihfokjaa
