/- Of of package sha by its contract, the chapter's example, and what a nil Hash answers. Condition: the package's table lies at its place. -/
import Derived.Test.YtebocfbnamcnoaaDoorShSum
namespace Go.Proofs.YtebocfbnamcnoaaDoor
set_option maxRecDepth 50000
open Go.RowKit Sha

set_option maxHeartbeats 800000 in
theorem shaof_any (w : World) (hk : KAt w) (A : Option Addr) (c : Nat) (ps : List ByteArray) (hr : Reads w w.heap.size A (stv ps)) (hlen : (jn ps).length ≤ 900000) (hps : ps.length ≤ 1000000) :
    Calls Tryd.prog 33 #[.slice A ps.length c] w fun e w' => e = .returned (.string (tx (shaL (jn ps)))) ∧ Below w.heap.size w w' := by
  have HR := Lib.hid hr
  have HK := Lib.hid hk
  clear hr hk
  go_enter Tryd.func33, Tryd.ntmps33
  go_wp2_with fail
  refine (newhash_any w).mono ?_
  rintro e w1 ⟨H, rfl, h1, hb1⟩
  have H1 := Lib.hid h1
  have HB1 := Lib.hid hb1
  clear h1 hb1
  go_wp2_with fail
  refine (addhash_any w1 w.heap.size w1.heap.size H [] H1.out (HK.out.next HB1.out) HK.out.1 A c ps (fun k hk => ?_) (by simpa using (by omega : (jn ps).length ≤ 1000000)) hps).mono ?_
  · obtain ⟨b, off, e, hb, hc⟩ := HR.out k hk
    exact ⟨b, off, e, Nat.lt_of_lt_of_le hb HB1.out.size, .inl hb, (HB1.out.cell hb).trans hc⟩
  rintro e w2 ⟨rfl, h2, hb2⟩
  rw [List.nil_append] at h2
  have HB2 := Lib.hid (HB1.out.trans hb2)
  have CS := Lib.hid (sumhash_any w2 w.heap.size w2.heap.size H (jn ps) h2 (HK.out.next (HB1.out.trans hb2)) hlen)
  clear h2 hb2
  go_wp2_with fail
  refine CS.out.mono ?_
  rintro e w3 ⟨rfl, hb3⟩
  have HB3 := Lib.hid hb3
  clear hb3
  go_wp2
  go_ret
  exact ⟨rfl, below_step HB2.out HB3.out⟩

theorem sum_abc : shaL [97, 98, 99] = [186, 120, 22, 191, 143, 1, 207, 234, 65, 65, 64, 222, 93, 174, 34, 35, 176, 3, 97, 163, 150, 23, 122, 156, 180, 16, 255, 97, 242, 0, 21, 173] := by kernel_rfl

theorem sum_nil (w : World) : Calls Tryd.prog 43 #[.pointer none] w fun e w' => e = .returned (.string ⟨#[]⟩) ∧ w = w' := by
  go_enter Tryd.func43, Tryd.ntmps43
  go_wp2
  go_ret
  exact ⟨rfl, rfl⟩
theorem clone_nil (w : World) : Calls Tryd.prog 42 #[.pointer none] w fun e w' => e = .returned (.pointer none) ∧ w = w' := by
  go_enter Tryd.func42, Tryd.ntmps42
  go_wp2
  go_ret
  exact ⟨rfl, rfl⟩
theorem addhash_nil (A : Option Addr) (n c : Nat) (w : World) : Calls Tryd.prog 36 #[.pointer none, .slice A n c] w fun e w' => e = .returned (.pointer none) ∧ w = w' := by
  go_enter Tryd.func36, Tryd.ntmps36
  go_wp2
  go_ret
  exact ⟨rfl, rfl⟩
end Go.Proofs.YtebocfbnamcnoaaDoor
