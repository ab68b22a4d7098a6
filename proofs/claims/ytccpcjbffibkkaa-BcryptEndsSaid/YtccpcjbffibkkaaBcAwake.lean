/- Chapter 26's example, cost 5, by the contracts and by the kernel. Conditions: those typed. -/
import Derived.Test.YtccpcjbffibkkaaBcRef
import Derived.Test.YtccpcjbffibkkaaBcLast
import Derived.Test.YtccpcjbffibkkaaSxe
namespace Go.Proofs.Ytccpcjbffibkkaa
set_option maxRecDepth 50000
open Go.RowKit Ci Pi16 Sx

/-- the example's letters: the salt's and the sum's; the password; the sum -/
def saltT : ByteArray := ⟨#[67, 67, 67, 67, 67, 67, 67, 67, 67, 67, 67, 67, 67, 67, 67, 67, 67, 67, 67, 67, 67, 46]⟩
def sumT : ByteArray := ⟨#[69, 53, 89, 80, 79, 57, 107, 109, 121, 117, 82, 71, 121, 104, 48, 88, 111, 117, 81, 89, 98, 52, 89, 77, 74, 75, 118, 121, 79, 101, 87]⟩
def wordX : ByteArray := ⟨#[85, 42, 85]⟩
def sumX : ByteArray := ⟨#[27, 182, 145, 67, 249, 168, 211, 4, 200, 210, 61, 153, 171, 4, 154, 119, 166, 142, 44, 204, 116, 66, 6]⟩
theorem saltT_dec : decE (tl cryptS) (tl saltT) = 0 ∧ tx (decL (tl cryptS) (tl saltT)) = saltX := by decide +kernel
theorem sumX_enc : tx (enc (tl cryptS) (tl sumX)) = sumT := by decide +kernel
theorem key_is : bky wordX = keyX := by decide +kernel
theorem sq_X : sqL (gX 32) mg 64 6 = [464949571, 4188590852, 3369221529, 2869205623, 2794335436, 1950484155] := by
  have e0 : enTo (gX 32) (mg (2 * 0)) (mg (2 * 0 + 1)) 64 = _ := sealed_0
  have e1 : enTo (gX 32) (mg (2 * 1)) (mg (2 * 1 + 1)) 64 = _ := sealed_1
  have e2 : enTo (gX 32) (mg (2 * 2)) (mg (2 * 2 + 1)) 64 = _ := sealed_2
  have a0 := sq_even (gX 32) mg 64 0
  have b0 := sq_odd (gX 32) mg 64 0
  have a1 := sq_even (gX 32) mg 64 1
  have b1 := sq_odd (gX 32) mg 64 1
  have a2 := sq_even (gX 32) mg 64 2
  have b2 := sq_odd (gX 32) mg 64 2
  rw [e0] at a0 b0
  rw [e1] at a1 b1
  rw [e2] at a2 b2
  have h : sqL (gX 32) mg 64 6 = [sq (gX 32) mg 64 (2 * 0), sq (gX 32) mg 64 (2 * 0 + 1), sq (gX 32) mg 64 (2 * 1), sq (gX 32) mg 64 (2 * 1 + 1), sq (gX 32) mg 64 (2 * 2), sq (gX 32) mg 64 (2 * 2 + 1)] := by
    unfold sqL
    generalize sq (gX 32) mg 64 = f
    rfl
  rw [h, a0, b0, a1, b1, a2, b2]
theorem sum_of (l : List Nat) (h : l = [464949571, 4188590852, 3369221529, 2869205623, 2794335436, 1950484155]) : tx ((bytesL (l.flatMap (bytesOf (downs 4) 4))).take 23) = sumX := by
  subst h; decide +kernel
theorem bcS_X : bcS 5 saltX wordX = sumX := by
  have h : bcG 5 saltX wordX = gX 32 := by
    unfold bcG gX
    rw [key_is]
  unfold bcS
  rw [h]
  exact sum_of _ sq_X

theorem awake26_any (w : World) : Calls Try.prog 5 #[] w fun e w' => e = .returned (.bool true) ∧ Below w.heap.size w w' := by
  have CN := Lib.hid (cnew_any w)
  have CD : Hid (∀ (b : Nat) (w : World), Cdr w b (tl cryptS) → Calls Try.prog 13 #[.pointer (some ⟨b, 0, none⟩), .string saltT] w fun e w' => e = .returned (.tuple #[.string saltX, .int .i64 0]) ∧ Below w.heap.size w w') := Lib.hid fun b w h => by
    have := decode_any b (tl cryptS) saltT w h crypt_fine (by decide)
    rw [saltT_dec.1, saltT_dec.2] at this
    exact this
  have CS : Hid (∀ w : World, Calls Try.prog 9 #[.int .i64 5, .string saltX, .string wordX] w fun e w' => e = .returned (.tuple #[.string sumX, .int .i64 0]) ∧ Below w.heap.size w w') := Lib.hid fun w => by
    have := bsum_any 5 saltX wordX (by decide) (by decide) rfl (by decide) w
    rw [bcS_X] at this
    exact this
  have CE : Hid (∀ (b : Nat) (w : World), Cdr w b (tl cryptS) → Calls Try.prog 14 #[.pointer (some ⟨b, 0, none⟩), .slice (some ⟨w.heap.size, 0, none⟩) 1 1] (w.alloc (.cells #[.string sumX] 9)) fun e w' => e = .returned (.string sumT) ∧ Below w.heap.size w w') := Lib.hid fun b w h => by
    have := encode_one b (tl cryptS) sumX w h (by decide)
    rw [sumX_enc] at this
    exact this
  unfold saltT at CD
  unfold wordX at CS
  generalize saltX = sx at *
  generalize sumX = sm at *
  unfold sumT at CE
  go_enter Try.func5, Try.ntmps5
  go_wp2_with fail
  refine CN.out.mono ?_
  rintro e w1 ⟨⟨d, b, rfl, hC⟩, hb⟩
  have HB1 := Lib.hid hb
  have HC := Lib.hid hC
  have hc := hC.cells
  have CD1 := Lib.hid (CD.out b w1 hC.cod)
  clear hb hC CN
  go_wp2_with fail
  refine CD1.out.mono ?_
  rintro e w2 ⟨rfl, hb⟩
  have HB2 := Lib.hid (HB1.out.trans (hb.mono HB1.out.size))
  have HC2 := Lib.hid (HC.out.below hb)
  clear hb CD1 hc HC HB1
  go_wp2_with fail
  refine (CS.out w2).mono ?_
  rintro e w3 ⟨rfl, hb⟩
  have HB3 := Lib.hid (HB2.out.trans (hb.mono HB2.out.size))
  have hC := HC2.out.below hb
  have hc := hC.cells
  have CE1 := Lib.hid (CE.out b w3 hC.cod)
  clear hb HC2 HB2 hC
  go_wp2_with fail
  refine CE1.out.mono ?_
  rintro e w4 ⟨rfl, hb⟩
  have HB4 := Lib.hid (HB3.out.trans (hb.mono HB3.out.size))
  clear hb CE1 hc
  go_wp2
  go_ret
  exact ⟨rfl, HB4.out⟩
end Go.Proofs.Ytccpcjbffibkkaa
