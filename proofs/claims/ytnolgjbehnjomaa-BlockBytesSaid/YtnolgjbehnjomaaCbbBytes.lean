/- The statement BlockBytes: a block and its 1,024 bytes are one; a block may begin with words. No condition. -/
import Derived.Test.YtnolgjbehnjomaaBbLawB
import Derived.Test.YtnolgjbehnjomaaBbOpen
import Derived.Test.YtnolgjbehnjomaaOpens
namespace Go.Proofs.Ytnolgjbehnjomaa
open Go.ChangeShapes Go.WideShapes Go.ChangeAt Go.RowKit

set_option maxRecDepth 100000 in
theorem blockBytes_lifted (os : Os) (started : os.Started) (H : Type) (enc : TypeId × Value → H) :
    ReturnsInHanded {} Try.checked os 4 .any (Rows.blockBytesSpec.pre6 enc Try.prog Try.f4 Rows.blockBytesRow.domain false) (Rows.blockBytesSpec.post enc Try.prog Try.f4 false true false false) := by
  refine returnsInHanded_of_change_sized (C := Try.checked) prog_own started (by kernel_rfl) Try.func4
    (ChangeSpec.witness6 (enc := enc) (C := Try.checked) false ⟨#[], #[.agg (wq Bb.zb), .string ⟨#[]⟩, .slice none 0 0], []⟩ 8 (by kernel_rfl) (by kernel_rfl) (by kernel_rfl) (by kernel_rfl)) ?_
  intro W base args ds gs before hval0 hW _ hsz0 _
  have hval : ∀ (j : Nat) t v, Try.f4.params[j]? = some t → args[j]? = some v → Value.okWide Try.prog W .any base t v := hval0
  have hW' := hW
  obtain ⟨p, q, hA0, hV, rfl, _, _⟩ := hW
  have hlt : ∀ x ∈ p, x.block < W.heap.size := fun x hx => hW'.lt x (by simp [hx])
  have hA : DataW.TrodAll enc Try.prog W 0 (fun _ => true) true Try.f4.params.toList args.toList ds p := hA0
  rw [Try.params4] at hA hval
  obtain ⟨v0, vs0, d0, ds0, p0, q0, hargs, rfl, rfl, h0, r0⟩ := trodAll_cons hA
  obtain ⟨v1, vs1, d1, ds1, p1, q1, rfl, rfl, rfl, h1, r1⟩ := trodAll_cons r0
  obtain ⟨v2, vs2, d2, ds2, p2, q2, rfl, rfl, rfl, h2, r2⟩ := trodAll_cons r1
  obtain ⟨rfl, rfl, rfl⟩ := trodAll_nil r2
  obtain rfl : args = #[v0, v1, v2] := by cases args; simp_all
  obtain ⟨rfl, rfl⟩ := trodVars_none hV
  have hv0 := hval 0 26 v0 rfl rfl
  have hl0 : ∀ x ∈ p0, x.block < W.heap.size := fun x hx => hlt x (by simp [hx])
  have hv1 := hval 1 9 v1 rfl rfl
  have hl1 : ∀ x ∈ p1, x.block < W.heap.size := fun x hx => hlt x (by simp [hx])
  have hv2 := hval 2 31 v2 rfl rfl
  have hl2 : ∀ x ∈ p2, x.block < W.heap.size := fun x hx => hlt x (by simp [hx])
  obtain ⟨L, rfl, hL⟩ := open_b hv0 h0
  obtain ⟨s, rfl, _⟩ := open_text Try.underlying9 hv1 h1 (j := 1) hsz0 rfl rfl
  obtain ⟨A, c, zs, rfl, hzc, hzm, hzw, hR⟩ := open_list Try.underlying31 Try.underlying24 (by kernel_rfl) hv2 h2 hl2
  obtain ⟨xs, rfl, hxs⟩ := nats_of zs 18446744073709551616 wf_u64 hzw
  rw [List.map_map] at hR
  have hcall := bytes19_any hL s A c xs hxs W hR
  rw [show xs.length = (xs.map (fun x : Nat => (x : Int))).length by simp] at hcall
  refine (hcall).mono fun e W' ⟨he, hb⟩ => ?_
  subst he
  exact ⟨_, rfl, post_law prog_laid (by decide +kernel) rfl Try.underlying4 rfl hW' hA0 hlt rfl hb⟩

/-- THE STATEMENT -/
theorem BlockBytes_holds : Rows.BlockBytesSaid :=
  OpenClaim.holds_of_wide 4 Try.f4 rfl rfl rfl rfl rfl rfl rfl ⟨rfl, rfl, rfl, rfl, rfl⟩ rfl rfl rfl rfl rfl (by kernel_rfl) Try.func4 (by kernel_rfl)
    (of_decide_eq_true (by kernel_rfl)) (by unfold Func.isWrapper; first | (rw [if_pos (by decide +kernel)]; kernel_rfl) | (rw [if_neg (by decide +kernel)]; exact ⟨rfl, rfl⟩))
    (fun os started H enc _ => blockBytes_lifted os started H enc)
end Go.Proofs.Ytnolgjbehnjomaa
