/- The document's Block and Word of chapter 30 by their contracts. No condition but those typed. -/
import Derived.Test.YtfoodaobiknihaaDoorAd
namespace Go.Proofs.YtfoodaobiknihaaDoor
set_option maxRecDepth 50000
open Go.RowKit Bb Bn
structure Rk (w wr : World) (a t l m b c g z : Nat) (v : List Nat) : Prop where
  sh : RowAt wr w.heap.size 51 (spc a t l m b c g z)
  rz : RowAt wr (w.heap.size + 1) 91 (wq zb)
  rn : RowAt wr (w.heap.size + 1 + 1) 91 (wq zb)
  rv : RowAt wr (w.heap.size + 1 + 1 + 1) 91 (wq v)
  below : Below w.heap.size w wr
section
variable {w wr w' : World} {a t l m b c g z : Nat} {v : List Nat}
theorem Rk.new (w : World) (a t l m b c g z : Nat) : Rk w ((((w.alloc (.cells (spc a t l m b c g z) 51)).alloc (.cells (wq zb) 91)).alloc (.cells (wq zb) 91)).alloc (.cells (wq zb) 91)) a t l m b c g z zb := by
  have r0 := RowAt.new w 51 (spc a t l m b c g z)
  have B := one_box w (.cells (spc a t l m b c g z) 51)
  have hs : (w.alloc (.cells (spc a t l m b c g z) 51)).heap.size = w.heap.size + 1 := by simp
  generalize w.alloc (.cells (spc a t l m b c g z) 51) = w1 at *
  have H3 := three_new w1 zb zb zb
  rw [hs] at H3
  exact ⟨((r0.alloc _).alloc _).alloc _, H3.1, H3.2.1, H3.2.2.1, B.trans (H3.2.2.2.mono (by omega))⟩
theorem Rk.set (H : Rk w wr a t l m b c g z v) (i x : Nat) : Rk w (wr.setCell ⟨w.heap.size + 1 + 1 + 1, i, none⟩ (.int .u64 (x : Int))) a t l m b c g z (v.set i x) := by
  have r := H.rv.setCell i (.int .u64 (x : Int))
  rw [wq_set] at r
  exact ⟨H.sh.setOther _ (by simp; omega) _, H.rz.setOther _ (by simp; omega) _, H.rn.setOther _ (by simp) _, r, H.below.setCell (by show w.heap.size ≤ w.heap.size + 1 + 1 + 1; omega) _⟩
end
theorem rsp_aggN (w : World) : (isAgg 51).run Tryd.prog w = .ok true w := by
  unfold isAgg
  rw [Sem.run_bind, run_underlying Tryd.underlying51 w]
  rfl
theorem rsp_sizeN : (Tryd.prog.info? 51).map (·.size) = some 8 := by kernel_rfl
theorem rsp_loadN {w : World} {k : Nat} {a t l m b c g z : Nat} (h : RowAt w k 51 (spc a t l m b c g z)) : (loadVar 51 ⟨k, 0, none⟩).run Tryd.prog w = .ok (spv a t l m b c g z) w :=
  sub_load h rsp_aggN rsp_sizeN 0 (spc a t l m b c g z).toList rfl (fun j v hv => by simpa using hv)
theorem seed_is (p k s b t a c : Int) : (((((((zb.set 0 (w64 p)).set 1 (w64 k)).set 2 (w64 s)).set 3 (w64 b)).set 4 (w64 t)).set 5 (w64 a)).set 6 (w64 c)) = seedL p k s b t a c := by
  have h : ∀ p k s b t a c : Nat, (((((((zb.set 0 p).set 1 k).set 2 s).set 3 b).set 4 t).set 5 a).set 6 c) = [p, k, s, b, t, a, c] ++ List.replicate 121 0 := fun p k s b t a c => by kernel_rfl
  exact h ..
end Go.Proofs.YtfoodaobiknihaaDoor
