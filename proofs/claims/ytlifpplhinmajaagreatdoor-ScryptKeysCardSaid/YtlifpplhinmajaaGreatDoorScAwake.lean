/- The chapter's example of scrypt, in the program; and of a fresh arena. Conditions: both packages' tables lie at their places. -/
import Derived.Test.YtlifpplhinmajaaGreatDoorScKey
import Derived.Test.YtlifpplhinmajaaGreatDoorScErr
import Derived.Test.YtlifpplhinmajaaGreatDoorScEx
namespace Go.Proofs.YtlifpplhinmajaaGreatDoor
set_option maxRecDepth 50000
open Go.RowKit Bb Sl Sf Rm Sha

theorem text_take {X : List UInt8} (k : Nat) : (tx X).extract 0 k = tx (X.take k) := by
  refine tl_inj ?_
  rw [tl_tx]
  unfold tl tx
  rw [ByteArray.data_extract]
  simp [List.extract_eq_take_drop]
theorem fine_example : Fine 4 1 1 64 := by unfold Fine; omega
set_option maxHeartbeats 1600000 in
theorem awake25_any (w : World) (hk : KAt w) (hq : QAt w) : Calls Tryz.prog 6 #[] w fun e w' => e = .returned (.bool true) ∧ Below w.heap.size w w' := by
  have hn : needN 4 1 1 = 3 := by decide
  have CN : Hid (∀ W, Calls Tryz.prog 9 #[.int .i64 4, .int .i64 1, .int .i64 1] W fun e w' => e = .returned (.tuple #[.int .i64 3, .int .i64 0]) ∧ Below W.heap.size W w') := Lib.hid fun W => by
    have := sneed_ok fine_example W
    rw [hn] at this
    exact this
  have CA : Hid (Calls Tryz.prog 11 #[.int .i64 3] w fun e w' => e = .returned (.tuple #[.pointer (some ⟨w.heap.size, 0, none⟩), .int .i64 0]) ∧ AreAt w' w.heap.size 3 0 0 0 ∧ Below w.heap.size w w') := Lib.hid (anew_any 3 (by decide) w)
  have CK : Hid (∀ W, AreAt W w.heap.size 3 0 0 0 → Below w.heap.size w W → Calls Tryz.prog 12 #[.pointer (some ⟨w.heap.size, 0, none⟩), .string ⟨#[]⟩, .string ⟨#[]⟩, .int .i64 4, .int .i64 1, .int .i64 1, .int .i64 64] W fun e w' =>
      e = .returned (.tuple #[.string (tx (scK [] [] 4 1 1 64)), .int .i64 0]) ∧ Below w.heap.size w w') := Lib.hid fun W hA hb => by
    have h1 := hq.1
    have h2 := hk.1
    refine (skey_any hA (hq.next hb) (hk.next hb) (by omega) (by omega) ⟨#[]⟩ ⟨#[]⟩ (by decide) (by decide) fine_example (by rw [hn]; decide) (by decide) (by decide) (by decide)).mono ?_
    rintro e w' ⟨rfl, _, hK⟩
    exact ⟨rfl, hb.trans (hK.below hb.size fun x e => by omega)⟩
  have hE := scK_example
  have hL := scK_length [] [] 4 1 1 64
  generalize scK [] [] 4 1 1 64 = X at *
  obtain ⟨S, hS⟩ : ∃ S, S = tx X := ⟨_, rfl⟩
  rw [← hS] at CK
  have f1 : S.size = 64 := by rw [hS, tx_size, hL]
  have f2 : S.extract 0 8 = ⟨#[119, 214, 87, 98, 56, 101, 123, 32]⟩ := by rw [hS, text_take, hE]; rfl
  have HF := Lib.hid f2
  clear hS f2 hE hL hn hk hq
  go_enter Tryz.func6, Tryz.ntmps6
  go_wp2_with fail
  refine CA.out.mono ?_
  rintro e w1 ⟨rfl, hA, hb⟩
  have CKK := Lib.hid (CK.out w1 hA hb)
  clear hA hb CK
  go_wp2_with fail
  refine CKK.out.mono ?_
  rintro e w2 ⟨rfl, hb⟩
  have HB := Lib.hid hb
  clear hb
  go_wp2_with fail
  refine (CN.out _).mono ?_
  rintro e w3 ⟨rfl, hb⟩
  have HB3 := Lib.hid (HB.out.trans (hb.mono HB.out.size))
  clear hb
  have f2 := HF.out
  go_wp2
  go_ret
  exact ⟨rfl, HB3.out⟩
end Go.Proofs.YtlifpplhinmajaaGreatDoor
