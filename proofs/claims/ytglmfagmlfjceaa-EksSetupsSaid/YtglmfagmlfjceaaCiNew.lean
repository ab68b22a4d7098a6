/- New, Clone of package cipher, and what it answers of nil, by their contracts. Conditions: those typed. -/
import Derived.Test.YtglmfagmlfjceaaCiPlain
import Derived.Test.YtglmfagmlfjceaaCiEx
import Derived.Test.YtglmfagmlfjceaaCiSum
namespace Go.Proofs.Ytglmfagmlfjceaa
set_option maxRecDepth 50000
open Go.RowKit Ci Rot

theorem wordN_ok : Ok wordN := fun i _ => wordN_lt i
theorem enc_nil (l r : Nat) (w : World) : Calls Try.prog 10 #[.pointer none, .int .u32 (l : Int), .int .u32 (r : Int)] w fun e w' => e = .returned (.tuple #[.int .u32 0, .int .u32 0]) ∧ w' = w := by
  go_enter Try.func10, Try.ntmps10
  go_wp2
  go_ret2
  exact ⟨rfl, rfl⟩
theorem sum_nil (w : World) : Calls Try.prog 12 #[.pointer none] w fun e w' => e = .returned (.int .u32 0) ∧ w' = w := by
  go_enter Try.func12, Try.ntmps12
  go_wp2
  go_ret
  exact ⟨rfl, rfl⟩
theorem expand_nil (salt key : ByteArray) (w : World) : Calls Try.prog 21 #[.pointer none, .string salt, .string key] w fun e w' => e = .returned (.pointer none) ∧ Below w.heap.size w w' := by
  go_enter Try.func21, Try.ntmps21
  go_wp2
  go_ret
  exact ⟨rfl, (Below.refl _ w).alloc (Nat.le_refl _) _⟩

theorem size_cipher : (Try.prog.info? 55).map (·.size) = some 1042 := by kernel_rfl
theorem load_cipher {w : World} {b : Nat} {g : Nat → Nat} (h : Tab w b 55 g) : (loadVar 55 ⟨b, 0, none⟩).run Try.prog w = .ok (.agg (ta g)) w := by
  have hl := RowAt.cells (P := Try.prog) h (ta_size g)
  cases hq : Try.prog.info? 55 with
  | none => have hz := size_cipher; rw [hq] at hz; simp at hz
  | some i =>
    have hi : i.size = 1042 := by have hz := size_cipher; rw [hq] at hz; simpa using hz
    simp [loadVar, Sem.run_bind, sizeOf, typeInfo, hq, hi, loadCells, hl]
theorem new_bad (key : ByteArray) (h : key.size = 0 ∨ 72 < key.size) (w : World) : Calls Try.prog 14 #[.string key] w fun e w' => e = .returned (.tuple #[.pointer none, .int .i64 1]) ∧ w' = w := by
  rcases h with h | h
  · obtain ⟨h1, h2, h3⟩ := text_none key h
    go_enter Try.func14, Try.ntmps14
    go_wp2
    go_ret2
    exact ⟨rfl, rfl⟩
  · obtain ⟨h1, h2, h3⟩ := text_some key (by omega)
    have hI : (72 : Int) < (key.size : Int) := by omega
    go_enter Try.func14, Try.ntmps14
    go_wp2
    go_ret2
    exact ⟨rfl, rfl⟩
theorem new_any (key : ByteArray) (h0 : key.size ≠ 0) (h : key.size ≤ 72) (w : World) : Calls Try.prog 14 #[.string key] w fun e w' => ∃ b, e = .returned (.tuple #[.pointer (some ⟨b, 0, none⟩), .int .i64 0]) ∧ Tab w' b 55 (exB wordN ⟨#[]⟩ key) ∧ w.heap.size ≤ b ∧ Below w.heap.size w w' := by
  obtain ⟨h1, h2, h3⟩ := text_some key h0
  have hI : (key.size : Int) ≤ 72 := by omega
  go_enter Try.func14, Try.ntmps14
  go_wp2_with fail
  refine (plain_any w).mono ?_
  rintro e w1 ⟨b, rfl, hT, hb, hbl⟩
  have HT := Lib.hid (And.intro hT (And.intro hb hbl))
  clear hT hb hbl
  go_wp2_with fail
  refine (expand_any w1 b wordN HT.out.1 wordN_ok ⟨#[]⟩ key (by decide) (by omega)).mono ?_
  rintro e w2 ⟨rfl, hT2, hk⟩
  have HT2 := Lib.hid (And.intro hT2 hk)
  clear hT2 hk
  go_wp2
  go_ret2
  exact ⟨b, rfl, HT2.out.1, HT.out.2.1, HT.out.2.2.trans (HT2.out.2.below HT.out.2.2.size fun x hx => by rw [hx]; exact HT.out.2.1)⟩
end Go.Proofs.Ytglmfagmlfjceaa
