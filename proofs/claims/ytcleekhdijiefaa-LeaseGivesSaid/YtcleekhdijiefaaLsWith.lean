/- With, by the contract of what is done. Conditions: those typed. -/
import Derived.Test.YtcleekhdijiefaaLsClose
namespace Go.Proofs.Ytcleekhdijiefaa
set_option maxRecDepth 50000
open Go.RowKit Bb

theorem lwith_nil (f : Value) (w : World) : Calls Try.prog 16 #[.pointer none, f] w fun e w' => e = .returned (.tuple #[.int .i64 0, .int .i64 11]) ∧ w' = w := by
  have C := Lib.hid (lopen_nil w)
  go_enter_defers Try.func16, Try.ntmps16
  go_wp2_with fail
  refine C.out.mono ?_; rintro e w' ⟨rfl, hw⟩; obtain rfl := hw.symm
  go_wp2
  exact ⟨_, results_tmp2 rfl _ _ _, rfl, rfl⟩
set_option maxHeartbeats 1600000 in
theorem lwith_any {w : World} {N a B u c F : Nat} {cap : Array Value} {R : Int → Ls → World → Prop} (hE : ∀ args w, (callFunc F args).run Try.prog w = .ok (.enter F args) w)
    (hF : Calls Try.prog F (#[.pointer (some ⟨w.heap.size, 0, none⟩)] ++ cap) (w.alloc (.cells (lcs a (.slice none 0 0) 0 0 false) 48)) fun e w2 => ∃ err x h', e = .returned (.int .i64 err) ∧ x.b = w.heap.size ∧ LeaseIs w2 N a x ∧ x.closed = false ∧ AreAt w2 a B (u + hs x.qs) h' (c + x.qs.length) ∧
      u + hs x.qs ≤ 4194304 ∧ c + x.qs.length ≤ 4194304 ∧ R err x w2) :
    Calls Try.prog 16 #[.pointer (some ⟨a, 0, none⟩), .func (.func F) #[] cap] w fun e w3 => ∃ err x h' w2, e = .returned (.tuple #[.int .i64 (x.peak : Int), .int .i64 err]) ∧ R err x w2 ∧ LeaseIs w2 N a x ∧ AreAt w2 a B (u + hs x.qs) h' (c + x.qs.length) ∧ Shut w2 w3 N a B (u + hs x.qs) h' (c + x.qs.length) x := by
  have C := Lib.hid (lopen_any a w)
  have HF := Lib.hid hF
  clear hF
  go_enter_defers Try.func16, Try.ntmps16
  go_wp2_with fail
  refine C.out.mono ?_; rintro e w1 ⟨rfl, hw⟩
  rw [← hw] at HF
  clear hw C
  go_wp2_with fail
  refine HF.out.mono ?_
  rintro e w2 ⟨err, x, h', rfl, hxb, hI, hcl, hA, h1, h2, hR⟩
  have CP := Lib.hid (lpeak_any hI.row)
  have CC := Lib.hid (lclose_deferred hI hcl hA (by omega) h1 (by omega) h2 .returning)
  have HI := Lib.hid hI
  have HA := Lib.hid hA
  have HR := Lib.hid hR
  clear HF hI hcl hA hR
  rw [← hxb]
  clear hxb
  go_wp2_with fail
  refine CP.out.mono ?_; rintro e w' ⟨rfl, hw⟩; obtain rfl := hw.symm
  clear hw CP
  go_wp2
  refine leaves_cons (f := 12) (args := #[.pointer (some ⟨x.b, 0, none⟩)]) (by simp) (by simp [go_sem]) ?_
  refine CC.out.mono ?_
  rintro e u' w3 ⟨rfl, rfl, hS⟩
  exact ⟨_, results_tmp2 rfl _ _ _, err, x, h', w2, rfl, HR.out, HI.out, HA.out, hS⟩
end Go.Proofs.Ytcleekhdijiefaa
