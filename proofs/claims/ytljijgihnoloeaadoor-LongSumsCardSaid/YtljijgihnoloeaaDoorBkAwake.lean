/- Of of package blake by its contract, the chapter's example, and what a nil Hash answers. Condition: the package's table lies at its place. -/
import Derived.Test.YtljijgihnoloeaaDoorBkSum
namespace Go.Proofs.YtljijgihnoloeaaDoor
set_option maxRecDepth 50000
open Go.RowKit Bl

set_option maxHeartbeats 800000 in
theorem blakeof_bad (w : World) (z : Int) (key : ByteArray) (hbad : z < 1 ∨ 64 < z ∨ 64 < key.size) (A : Option Addr) (m c : Nat) : Calls Tryd.prog 8 #[.int .i64 z, .string key, .slice A m c] w fun e w' => e = .returned (.tuple #[.string ⟨#[]⟩, .int .i64 1]) ∧ w = w' := by
  have C := Lib.hid (newhash_bad z key hbad w)
  clear hbad
  go_enter Tryd.func8, Tryd.ntmps8
  go_wp2_with fail
  refine C.out.mono ?_
  rintro e w1 ⟨rfl, rfl⟩
  go_wp2
  go_ret2
  exact ⟨rfl, rfl⟩

set_option maxHeartbeats 800000 in
theorem blakeof_any (w : World) (n : Nat) (hn1 : 1 ≤ n) (hn : n ≤ 64) (key : ByteArray) (hkl : key.size ≤ 64) (hk : QAt w) (A : Option Addr) (c : Nat) (ps : List ByteArray) (hr : Reads w w.heap.size A (stv ps)) (hlen : (jn ps).length ≤ 800000) (hps : ps.length ≤ 1000000) :
    Calls Tryd.prog 8 #[.int .i64 (n : Int), .string key, .slice A ps.length c] w fun e w' => e = .returned (.tuple #[.string (tx (blkL key.size n (keyL key ++ jn ps))), .int .i64 0]) ∧ Below w.heap.size w w' := by
  have CN := Lib.hid (newhash_any n hn1 hn key hkl w hk)
  have hkeyl : (keyL key).length ≤ 128 := by
    unfold keyL
    split
    · simp
    · rw [fill128_length _ (by rw [tl_length]; omega)]; exact Nat.le_refl _
  have HR := Lib.hid hr
  have HK := Lib.hid hk
  have HL := Lib.hid (And.intro hkl hn)
  clear hr hk hn1
  go_enter Tryd.func8, Tryd.ntmps8
  go_wp2_with fail
  refine CN.out.mono ?_
  rintro e w1 ⟨H, rfl, h1, hb1⟩
  have HB1 := Lib.hid hb1
  have CA := Lib.hid (addhash_any w1 w.heap.size w1.heap.size H key.size n HL.out.1 HL.out.2 (keyL key) h1 (HK.out.next hb1) HK.out.1 A c ps (fun k hk => by
    obtain ⟨b, off, e, hb, hc⟩ := HR.out k hk
    exact ⟨b, off, e, Nat.lt_of_lt_of_le hb hb1.size, .inl hb, (hb1.cell hb).trans hc⟩) (by omega) hps)
  clear h1 hb1 CN
  go_wp2_with fail
  refine CA.out.mono ?_
  rintro e w2 ⟨rfl, h2, hb2⟩
  have HB2 := Lib.hid (HB1.out.trans hb2)
  obtain ⟨S, hS⟩ : ∃ S, S = tx (blkL key.size n (keyL key ++ jn ps)) := ⟨_, rfl⟩
  have CS := Lib.hid (sumhash_any w2 w.heap.size w2.heap.size H key.size n HL.out.1 HL.out.2 (keyL key ++ jn ps) h2 (HK.out.next (HB1.out.trans hb2)) (by rw [List.length_append]; omega))
  rw [← hS] at CS
  have HS := Lib.hid hS
  clear h2 hb2 CA hS
  go_wp2_with fail
  refine CS.out.mono ?_
  rintro e w3 ⟨rfl, hb3⟩
  have HB3 := Lib.hid hb3
  clear hb3 CS
  go_wp2
  go_ret2
  exact ⟨by rw [← HS.out]; rfl, below_step HB2.out HB3.out⟩

theorem sum_abc : blkL 0 64 [97, 98, 99] = [186, 128, 165, 63, 152, 28, 77, 13, 106, 39, 151, 182, 159, 18, 246, 233, 76, 33, 47, 20, 104, 90, 196, 183, 75, 18, 187, 111, 219, 255, 162, 209, 125, 135, 197, 57, 42, 171, 121, 45, 194, 82, 213, 222, 69, 51, 204, 149, 24, 211, 138, 168, 219, 241, 146, 90, 185, 35, 134, 237, 212, 0, 153, 35] := by kernel_rfl

set_option maxHeartbeats 800000 in
theorem awake_any (w : World) (hk : QAt w) : Calls Tryd.prog 6 #[] w fun e w' => e = .returned (.bool true) ∧ Below w.heap.size w w' := by
  have HA : Hid (Below w.heap.size w (w.alloc (.cells #[.string ⟨#[97, 98, 99]⟩] 9))) := Lib.hid ((Below.refl _ w).alloc (Nat.le_refl _) _)
  have C := blakeof_any (w.alloc (.cells #[.string ⟨#[97, 98, 99]⟩] 9)) 64 (by decide) (by decide) ⟨#[]⟩ (by decide) (hk.next HA.out) (some ⟨w.heap.size, 0, none⟩) 1 [⟨#[97, 98, 99]⟩] (fun k hk => by
    have hk0 : k = 0 := by simp [stv] at hk; omega
    subst hk0
    exact ⟨w.heap.size, 0, rfl, by simp, by rw [cell_of_row _ _ _ _ _ (0, 0) (heap_alloc_last w _)]; rfl⟩) (by simp [jn, tl]) (by simp)
  rw [show keyL ⟨#[]⟩ ++ jn [(⟨#[97, 98, 99]⟩ : ByteArray)] = [97, 98, 99] from rfl, show (⟨#[]⟩ : ByteArray).size = 0 from rfl, sum_abc] at C
  obtain ⟨S, hS⟩ : ∃ S, S = tx [186, 128, 165, 63, 152, 28, 77, 13, 106, 39, 151, 182, 159, 18, 246, 233, 76, 33, 47, 20, 104, 90, 196, 183, 75, 18, 187, 111, 219, 255, 162, 209, 125, 135, 197, 57, 42, 171, 121, 45, 194, 82, 213, 222, 69, 51, 204, 149, 24, 211, 138, 168, 219, 241, 146, 90, 185, 35, 134, 237, 212, 0, 153, 35] := ⟨_, rfl⟩
  rw [← hS] at C
  have f1 : S.size = 64 := by rw [hS]; rfl
  have f2 : S.extract 0 8 = ⟨#[186, 128, 165, 63, 152, 28, 77, 13]⟩ := by rw [hS]; rfl
  have f3 : S.extract 56 64 = ⟨#[185, 35, 134, 237, 212, 0, 153, 35]⟩ := by rw [hS]; rfl
  have CC := Lib.hid C
  have HF := Lib.hid (And.intro f2 f3)
  clear C hS hk f2 f3
  go_enter Tryd.func6, Tryd.ntmps6
  go_wp2_with fail
  refine CC.out.mono ?_
  rintro e w1 ⟨rfl, hb⟩
  have HB := Lib.hid hb
  clear hb
  obtain ⟨f2, f3⟩ := HF.out
  go_wp2
  go_ret
  exact ⟨rfl, below_step HA.out HB.out⟩

theorem sum_nil (w : World) : Calls Tryd.prog 19 #[.pointer none] w fun e w' => e = .returned (.string ⟨#[]⟩) ∧ w = w' := by
  go_enter Tryd.func19, Tryd.ntmps19
  go_wp2
  go_ret
  exact ⟨rfl, rfl⟩
theorem addhash_nil (A : Option Addr) (n c : Nat) (w : World) : Calls Tryd.prog 18 #[.pointer none, .slice A n c] w fun e w' => e = .returned (.pointer none) ∧ w = w' := by
  go_enter Tryd.func18, Tryd.ntmps18
  go_wp2
  go_ret
  exact ⟨rfl, rfl⟩
end Go.Proofs.YtljijgihnoloeaaDoor
