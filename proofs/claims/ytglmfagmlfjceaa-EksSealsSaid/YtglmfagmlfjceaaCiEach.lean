/- each of package cipher by its contract: whatever is handed each part, in order. Conditions: those typed. -/
import Derived.Test.YtglmfagmlfjceaaCiTab
namespace Go.Proofs.Ytglmfagmlfjceaa
set_option maxRecDepth 50000
open Go.RowKit Ci

/-- the parts: where they begin, how many words they have -/
def pOff (k : Nat) : Nat := if k = 0 then 0 else 18 + 256 * (k - 1)
def pLen (k : Nat) : Nat := if k = 0 then 18 else 256

theorem each_any (w : World) (b : Nat) (F : FuncId) (cap : Array Value) (hE : ∀ (args : Array Value) (w : World), (callFunc F args).run Try.prog w = .ok (.enter F args) w) (I : Nat → World → Prop)
    (h0 : I 0 w)
    (hF : ∀ k w', k < 5 → I k w' → Calls Try.prog F (#[.slice (some ⟨b, pOff k, none⟩) (pLen k) (pLen k)] ++ cap) w' fun e w2 => e = .returned (.tuple #[]) ∧ I (k + 1) w2) :
    Calls Try.prog 25 #[.pointer (some ⟨b, 0, none⟩), .func (.func F) #[] cap] w fun e w' => e = .returned (.tuple #[]) ∧ I 5 w' := by
  have C0 := Lib.hid (hF 0 w (by decide) h0)
  have HF := Lib.hid hF
  clear hF
  go_enter Try.func25, Try.ntmps25
  go_wp2_with fail
  refine C0.out.mono ?_
  rintro e w1 ⟨rfl, h1⟩
  go_wp2
  go_loopw [11] (fun v wr => ∃ k : Nat, k ≤ 4 ∧ v = .int .i64 (k : Int) ∧ Hid (I (k + 1) wr)) (fun v _ => 4 - (intOf v).toNat)
  case atStart => exact ⟨0, by omega, rfl, Lib.hid h1⟩
  case round =>
    obtain ⟨k, hk, rfl, HI⟩ := hrel
    by_cases h : k < 4
    · have hkI : (k : Int) < 4 := by omega
      have C := Lib.hid (HF.out (k + 1) wr (by omega) HI.out)
      have e1 : pOff (k + 1) = 18 + k * 256 := by unfold pOff; rw [if_neg (by omega)]; omega
      have e2 : pLen (k + 1) = 256 := by unfold pLen; rw [if_neg (by omega)]
      rw [e1, e2] at C
      clear e1 e2 h1 h0 C0
      go_wp2_with fail
      refine C.out.mono ?_
      rintro e w2 ⟨rfl, h2⟩
      go_wp2
      go_roundw
      case rel => exact ⟨k + 1, by omega, by go_num, Lib.hid h2⟩
      case measure => simp [intOf]; omega
    · obtain rfl : k = 4 := by omega
      go_wp2
      go_end0
      exact ⟨rfl, HI.out⟩
end Go.Proofs.Ytglmfagmlfjceaa
