/- The law BcryptEnds by the calls' contracts. Conditions: those typed. -/
import Derived.Test.YtccpcjbffibkkaaBcAwake
namespace Go.Proofs.Ytccpcjbffibkkaa
set_option maxRecDepth 50000
open Go.RowKit Ci Pi16

set_option maxHeartbeats 1600000 in
theorem ends26_any (salt word : ByteArray) (w : World) : Calls Try.prog 4 #[.string salt, .string word] w fun e w' => e = .returned (.bool true) ∧ Below w.heap.size w w' := by
  have CA := Lib.hid (awake26_any w)
  rcases (show (salt.size : Int) ≠ 16 ∨ (salt.size : Int) = 16 ∧ (71 : Int) < (word.size : Int) ∨ (salt.size : Int) = 16 ∧ (word.size : Int) ≤ 71 by omega) with h1 | ⟨h1, h2⟩ | ⟨h1, h2⟩
  · go_enter Try.func4, Try.ntmps4
    go_wp2_with fail
    refine CA.out.mono ?_
    rintro e w1 ⟨rfl, hb⟩
    have HB := Lib.hid hb
    clear hb CA
    go_wp2
    go_ret
    exact ⟨rfl, HB.out⟩
  · go_enter Try.func4, Try.ntmps4
    go_wp2_with fail
    refine CA.out.mono ?_
    rintro e w1 ⟨rfl, hb⟩
    have HB := Lib.hid hb
    clear hb CA
    go_wp2
    go_ret
    exact ⟨rfl, HB.out⟩
  · have CS : Hid (∀ (s : ByteArray), s.size = 71 → ∀ w : World, (Calls Try.prog 9 #[.int .i64 4, .string salt, .string s] w fun e w' => e = .returned (.tuple #[.string (bcS 4 salt s), .int .i64 0]) ∧ Below w.heap.size w w') ∧
        (Calls Try.prog 9 #[.int .i64 4, .string salt, .string (s ++ ⟨#[0]⟩)] w fun e w' => e = .returned (.tuple #[.string (bcS 4 salt s), .int .i64 0]) ∧ Below w.heap.size w w')) := Lib.hid fun s hs w => by
      have hz : (s ++ ⟨#[0]⟩ : ByteArray).size = 72 := by rw [ByteArray.size_append, hs]; rfl
      have b := bsum_any 4 salt (s ++ ⟨#[0]⟩) (by decide) (by decide) (by omega) (by omega) w
      have e : bcS 4 salt (s ++ ⟨#[0]⟩) = bcS 4 salt s := by unfold bcS bcG; rw [bky_end hs]
      rw [e] at b
      exact ⟨bsum_any 4 salt s (by decide) (by decide) (by omega) (by omega) w, b⟩
    have CZ : Hid (∀ s, ((bcS 4 salt s).size : Int) = 23) := Lib.hid fun s => by
      have : (bcS 4 salt s).size = 23 := bcT_size _
      omega
    go_enter Try.func4, Try.ntmps4
    go_wp2_with fail
    refine CA.out.mono ?_
    rintro e w1 ⟨rfl, hb⟩
    have HB := Lib.hid hb
    clear hb CA
    go_wp2
    go_loop [1] (fun v => ∃ s : ByteArray, v = .string s ∧ s.size ≤ 71) (fun v => match v with | .string s => 71 - s.size | _ => 0)
    case atStart => exact ⟨word, rfl, by omega⟩
    case round =>
      obtain ⟨s, rfl, hs⟩ := hrel
      by_cases hlt : s.size < 71
      · have hI : (s.size : Int) < 71 := by omega
        have hJ2 : ¬ 9223372036854775807 < s.size + 1 := by omega
        have hz : (s ++ ⟨#[120]⟩ : ByteArray).size = s.size + 1 := by rw [ByteArray.size_append]; rfl
        have HZ := Lib.hid hz
        clear hz
        go_wp2
        go_round
        case rel => exact ⟨s ++ ⟨#[120]⟩, rfl, by rw [HZ.out]; omega⟩
        case measure => show 71 - (s ++ ⟨#[120]⟩ : ByteArray).size < 71 - s.size; rw [HZ.out]; omega
      · have hs71 : s.size = 71 := by omega
        have hI : (s.size : Int) = 71 := by omega
        have hJ2 : ¬ 9223372036854775807 < s.size + 1 := by omega
        have CS1 := Lib.hid (CS.out s hs71)
        have hZ := CZ.out s
        clear CS CZ hs71 hs hlt
        go_wp2_with fail
        refine (CS1.out w1).1.mono ?_
        rintro e w2 ⟨rfl, hb⟩
        have HB2 := Lib.hid (HB.out.trans (hb.mono HB.out.size))
        have CS2 := Lib.hid (CS1.out w2).2
        clear hb CS1 HB
        generalize bcS 4 salt s = r at *
        go_wp2_with fail
        refine CS2.out.mono ?_
        rintro e w3 ⟨rfl, hb⟩
        have HB3 := Lib.hid (HB2.out.trans (hb.mono HB2.out.size))
        clear hb CS2 HB2
        go_wp2
        go_ret
        exact ⟨rfl, HB3.out⟩
end Go.Proofs.Ytccpcjbffibkkaa
