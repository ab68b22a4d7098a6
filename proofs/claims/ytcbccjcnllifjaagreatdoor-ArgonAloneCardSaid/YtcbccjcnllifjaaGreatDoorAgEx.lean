/- The chapter's example of Argon2, reckoned by the kernel. No condition. -/
import Derived.Test.YtcbccjcnllifjaaGreatDoorAgRun
import Derived.Test.YtcbccjcnllifjaaGreatDoorAgC
namespace Go.Proofs.YtcbccjcnllifjaaGreatDoor
set_option maxRecDepth 50000
open Go.RowKit Bb
def exW : ByteArray := tx (List.replicate 32 1)
def exS : ByteArray := tx (List.replicate 16 2)
def exK : ByteArray := tx (List.replicate 8 3)
def exD : ByteArray := tx (List.replicate 12 4)
def exC (N : Nat) (k : Nat → Bool) : Bool := smC 64 108 N fun H => agC H 3 3 4 32 8 2 32 k
def exH : List UInt8 := cosL 4 32 32 3 2 ++ (lead 32 ++ List.replicate 32 1 ++ (lead 16 ++ List.replicate 16 2 ++ (lead 8 ++ List.replicate 8 3 ++ (lead 12 ++ List.replicate 12 4))))
theorem exH_is : hdX 3 3 4 32 32 exW exS exK exD = exH := by
  simp only [hdX, inL, exW, exS, exK, exD, tx_size, tl_tx, List.length_replicate]
  rfl
theorem agx_run : (fo (nm exH) fun N => exC N fun T => Nat.beq T 40662228159821365727130049254109093392289649335176094773404255274148071040013) = true := by kernel_rfl
theorem agx_len : exH.length = 108 := by kernel_rfl
def exT : List UInt8 := [13, 100, 13, 245, 141, 120, 118, 108, 8, 192, 55, 163, 74, 139, 83, 201, 208, 30, 240, 69, 45, 117, 182, 94, 181, 37, 32, 233, 107, 1, 230, 89]
theorem ex_tag : agL 3 3 4 32 8 2 32 (tx (hdL 3 3 4 32 32 exW exS exK exD)) = exT := by
  have h := agx_run
  have hX : (hdX 3 3 4 32 32 exW exS exK exD).length = 108 := by rw [exH_is]; exact agx_len
  have h1 := fun K => smC_eq (n := 64) (by decide) (hdX 3 3 4 32 32 exW exS exK exD) (by rw [hX]; decide) K
  rw [hX] at h1
  rw [fo_eq, ← exH_is] at h
  unfold exC at h
  rw [h1] at h
  have hs : (tx (hdL 3 3 4 32 32 exW exS exK exD)).size = 64 := by
    rw [tx_size]
    exact blkL_length0 64 (by decide) _ (by rw [hX]; decide)
  have S : Sh 3 3 4 32 8 2 := ⟨.inr (.inr rfl), by decide, by decide, by decide, by decide, by decide, by decide, by decide, by decide⟩
  have h2 := fun K => agC_eq (z := 32) S (by decide) hs K
  rw [tl_tx] at h2
  rw [show blkL 0 64 (hdX 3 3 4 32 32 exW exS exK exD) = hdL 3 3 4 32 32 exW exS exK exD from rfl, h2] at h
  have h := Nat.eq_of_beq_eq_true h
  refine nm_inj ?_ (h.trans ?_)
  · rw [agL_length S (by decide)]; rfl
  · kernel_rfl
end Go.Proofs.YtcbccjcnllifjaaGreatDoor
