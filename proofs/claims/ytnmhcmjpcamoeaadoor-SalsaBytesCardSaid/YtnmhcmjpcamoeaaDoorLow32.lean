/- Words of 32 bits as bytes, the lowest one first: the program's and the document's. No condition but those typed. -/
import Derived.Test.YtnmhcmjpcamoeaaDoorSmall
namespace Go.Proofs.YtnmhcmjpcamoeaaDoor
set_option maxRecDepth 50000
open Go.RowKit

set_option maxHeartbeats 1600000 in
theorem laid32_any (g : FuncId) (p : Nat → Nat) (hp : ∀ i, i < 4 → p i < 4) (ho : Orders g p 4) (A : Option Addr) (c : Nat) (xs : List Nat) (w : World) (hr : Reads w w.heap.size A (u32s xs)) (hlen : xs.length ≤ 1000000) (hx : ∀ x ∈ xs, x < 2 ^ 32) :
    Calls Tryd.prog 25 #[.slice A xs.length c, .int .i64 4, .func (.func g) #[] #[]] w fun e w' => ∃ v, e = .returned v ∧ w'.ownsRow w.heap.size 5 1 v (4 * xs.length) (u8s (xs.flatMap (bytesOf p 4))) ∧ Below w.heap.size w w' := by
  obtain ⟨i0, hi, hz0, hz1, hz2⟩ := info_parts Tryd.info5
  obtain ⟨M, hM⟩ : ∃ M : Nat, (xs.length : Int) * 4 = (M : Int) := ⟨xs.length * 4, by simp⟩
  have hMb : M ≤ 4000000 := by omega
  have hlen63 : xs.length ≤ 9223372036854775807 := by omega
  obtain ⟨hcf, hoi⟩ := ho
  have hoi4 : ∀ (i : Nat) (w : World), i < 4 → Calls Tryd.prog g #[.int .i64 (i : Int), .int .i64 4] w fun e w' => e = .returned (.int .i64 (p i : Nat)) ∧ w = w' := hoi
  have Ho := Lib.hid hoi4
  have Hx := Lib.hid hx
  have Hp := Lib.hid hp
  have Hr := Lib.hid hr
  clear hoi hoi4 hx hp hr
  go_enter Tryd.func25, Tryd.ntmps25
  go_wp2_with (at_make; refine wpList_make_own _ rfl _ _ 37 rfl w.heap.size 5 i0 (.int .u8 0) 1 Tryd.underlying37 hi hz0 hz1 _ _ _ M rfl rfl (by omega) ?c1 ?c2 ?c3 ?_)
  case c1 => simp [hz2]; omega
  case c2 => unfold maxLen; omega
  case c3 => exact Nat.le_refl _
  intro w1 hown1 hg1
  have hb1 : Below w.heap.size w w1 := (Below.refl _ _).grown hg1 (Nat.le_refl _) (by simp)
  clear hg1
  go_wp2
  go_loopw [7, 18] (fun v i wr => ∃ k : Nat, k ≤ xs.length ∧ i = .int .i64 k ∧ wr.ownsRow w.heap.size 5 1 v (4 * k) (u8s ((xs.take k).flatMap (bytesOf p 4))) ∧ Below w.heap.size w wr) (fun _ i _ => xs.length - (intOf i).toNat)
  case atStart => exact ⟨0, Nat.zero_le _, rfl, hown1, hb1⟩
  case round =>
    obtain ⟨k, hk, rfl, hown, hb⟩ := hrel
    by_cases hlt : k < xs.length
    · obtain ⟨b, off, rfl, hbB, hcell⟩ := (Hr.out.below hb) k (by rw [u32s_length]; exact hlt)
      rw [u32_at] at hcell
      have hx0 := Hx.out xs[k] (List.getElem_mem hlt)
      have hfl := flat_snoc (bytesOf p 4) xs k hlt
      have Hfl := Lib.hid hfl
      clear hfl
      generalize hxx : xs[k] = x at *
      have hx1 : x ≤ 4294967295 := by omega
      clear hxx hown1 hb1 hM
      generalize (xs.take k).flatMap (bytesOf p 4) = F at *
      go_wp2
      obtain ⟨wo, rfl⟩ : ∃ wo : World, wo = wr := ⟨_, rfl⟩
      go_loopw [7, 23] (fun v j wr => ∃ m : Nat, m ≤ 4 ∧ j = .int .i64 m ∧ wr.ownsRow w.heap.size 5 1 v (4 * k + m) (u8s (F ++ bytesOf p m x)) ∧ Below w.heap.size w wr) (fun _ j _ => 4 - (intOf j).toNat)
      case atStart => exact ⟨0, Nat.zero_le _, rfl, by simpa [bytesOf] using hown, hb⟩
      case round =>
        obtain ⟨m, hm, rfl, hown, hb⟩ := hrel
        by_cases hm4 : m < 4
        · have hpm := Hp.out m hm4
          have hsz := hb.size
          go_wp2_with (first
            | (at_builtin; refine wpList_append_own _ rfl (.tmp 26) (.tmp 35) 37 rfl w.heap.size 5 i0 (.int .u8 0) 1 1 Tryd.underlying37 hi hz0 hz1 hz2 rfl (by decide) _ _ _ rfl (hown.alloc _) ⟨wr.heap.size, 0, none⟩ 1 1 [.int .u8 ((x : Int) / 2 ^ (8 * p m) % 256)] rfl rfl ?c1 ?c2 ?c3 ?c4 ?c5 ?_)
            | (with_reducible refine (Ho.out m _ hm4).mono ?_; rintro e w' ⟨rfl, rfl⟩))
          case c1 => exact one_new _ _ _
          case c2 => exact one_cell _ rfl
          case c3 => unfold maxLen; omega
          case c4 => omega
          case c5 => simp; omega
          intro v' w2 hown2 hg2 _
          have R := rel_step hb hsz hown hown2 hg2
          have hbs := bytesOf_snoc p m x
          have Hbs := Lib.hid hbs
          clear hbs hown2 hg2 hown hb
          go_wp2
          go_roundw
          case rel => exact ⟨m + 1, by omega, by go_num, by rw [Hbs.out, ← List.append_assoc, u8s_append, ← Nat.add_assoc]; simpa [u8s] using R.1, R.2⟩
          case measure => simp [intOf]; omega
        · obtain rfl : m = 4 := by omega
          go_wp2
          go_roundw
          case rel => exact ⟨k + 1, by omega, by go_num, by rw [Hfl.out, Nat.mul_add]; exact hown, hb⟩
          case measure => simp [intOf]; omega
    · obtain rfl : k = xs.length := by omega
      rw [List.take_length] at hown
      go_wp2
      go_ret
      exact ⟨_, rfl, hown, hb⟩
theorem little32_any (A : Option Addr) (c : Nat) (xs : List Nat) (w : World) (hr : Reads w w.heap.size A (u32s xs)) (hlen : xs.length ≤ 1000000) (hx : ∀ x ∈ xs, x < 2 ^ 32) :
    Calls Tryd.prog 21 #[.slice A xs.length c] w fun e w' => ∃ v, e = .returned v ∧ w'.ownsRow w.heap.size 5 1 v (4 * xs.length) (u8s (xs.flatMap (bytesOf ups 4))) ∧ Below w.heap.size w w' := by
  have C := laid32_any 24 ups (fun i h => h) (low_ups 4) A c xs w hr hlen hx
  have H := Lib.hid C
  clear C hr hx
  go_enter Tryd.func21, Tryd.ntmps21
  go_wp2_with fail
  refine (H.out).mono ?_
  rintro e w' ⟨v, rfl, hown, hb⟩
  go_wp2
  go_ret
  exact ⟨_, rfl, hown, hb⟩

set_option maxHeartbeats 800000 in
theorem of32_any (x : Nat) (w : World) (hx : x < 2 ^ 32) : Calls Tryd.prog 17 #[.int .u32 (x : Int)] w fun e w' => ∃ v, e = .returned v ∧ w'.ownsRow w.heap.size 5 1 v 4 (u8s (bytesOf ups 4 x)) ∧ Below w.heap.size w w' := by
  obtain ⟨i0, hi, hz0, hz1, hz2⟩ := info_parts Tryd.info5
  have hx2 : x ≤ 4294967295 := by omega
  go_enter Tryd.func17, Tryd.ntmps17
  go_wp2
  go_loopw [0, 3, 4] (fun y v i wr => ∃ k : Nat, k ≤ 4 ∧ i = .int .i64 k ∧ y = .int .u32 (x / 2 ^ (8 * k) : Nat) ∧ wr.ownsRow w.heap.size 5 1 v k (u8s (bytesOf ups k x)) ∧ Below w.heap.size w wr) (fun _ _ i _ => 4 - (intOf i).toNat)
  case atStart => exact ⟨0, Nat.zero_le _, rfl, by simp, by simpa [bytesOf, u8s] using World.ownsRow_nil _ _ _ _, Below.refl _ _⟩
  case round =>
    obtain ⟨k, hk, rfl, rfl, hown, hb⟩ := hrel
    by_cases hlt : k < 4
    · have hsz := hb.size
      have hle := div_le_self' x k
      have hn := div_next x k
      have Hn := Lib.hid hn
      have hbs : bytesOf ups (k + 1) x = bytesOf ups k x ++ [x / 2 ^ (8 * k) % 256] := bytesOf_snoc ups k x
      have Hbs := Lib.hid hbs
      clear hn hbs
      generalize x / 2 ^ (8 * k) = y at *
      go_wp2_with (at_builtin; refine wpList_append_own _ rfl (.tmp 9) (.tmp 13) 37 rfl w.heap.size 5 i0 (.int .u8 0) 1 1 Tryd.underlying37 hi hz0 hz1 hz2 rfl (by decide) _ _ _ rfl (hown.alloc _) ⟨wr.heap.size, 0, none⟩ 1 1 [.int .u8 ((y : Int) % 256)] rfl rfl ?c1 ?c2 ?c3 ?c4 ?c5 ?_)
      case c1 => exact one_new _ _ _
      case c2 => exact one_cell _ rfl
      case c3 => unfold maxLen; omega
      case c4 => omega
      case c5 => simp; omega
      intro v' w2 hown2 hg2 _
      have R := rel_step hb hsz hown hown2 hg2
      clear hown2 hg2 hown hb
      go_wp2
      go_roundw
      case rel => exact ⟨k + 1, by omega, by go_num, by rw [← Hn.out]; simp, by rw [Hbs.out, u8s_append]; simpa [u8s] using R.1, R.2⟩
      case measure => simp [intOf]; omega
    · obtain rfl : k = 4 := by omega
      go_wp2
      go_ret
      exact ⟨_, rfl, hown, hb⟩

/-- the document's bytes of a word, as a slice value of some cells -/
theorem of32_own (x : Nat) (w : World) (hx : x < 2 ^ 32) : Calls Tryd.prog 17 #[.int .u32 (x : Int)] w fun e w' => ∃ g c, e = .returned (.slice (some ⟨g, 0, none⟩) 4 c) ∧ w'.ownsRow w.heap.size 5 1 (.slice (some ⟨g, 0, none⟩) 4 c) 4 (u8s (bytesOf ups 4 x)) ∧ Below w.heap.size w w' :=
  (of32_any x w hx).mono fun e w' ⟨v, he, hown, hb⟩ => by
    obtain ⟨A, c, rfl, _, hA, _⟩ := own_form hown
    obtain ⟨g, rfl, _⟩ := hA (by omega)
    exact ⟨g, c, he, hown, hb⟩

end Go.Proofs.YtnmhcmjpcamoeaaDoor
