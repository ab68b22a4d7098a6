/- Segment of package fill: a lane's blocks of a turn are filled, by its contract. Conditions: those typed. -/
import Derived.Test.YtfoodaobiknihaaDoorFlY
namespace Go.Proofs.YtfoodaobiknihaaDoor
set_option maxRecDepth 50000
open Go.RowKit Bb Bn
def SrcP (N a t l m b c g z p s k : Nat) : Value → World → Prop := fun v w => ∃ x, v = .pointer (some ⟨x, 0, none⟩) ∧ N ≤ x ∧ Src w x a t l m b c g z p s k
theorem stable_srcp (N a t l m b c g z p s k : Nat) : Stable (SrcP N a t l m b c g z p s k) := fun _ _ _ ⟨x, e, h, h2⟩ hb => ⟨x, e, h, h2.step hb⟩
theorem srcp_new (N a t l m b c g z p s k : Nat) (w : World) (hN : N ≤ w.heap.size) : Calls Tryd.prog 27 #[spv a t l m b c g z, tuv p s, .int .i64 (k : Int)] w fun e w' => ∃ v, e = .returned v ∧ SrcP N a t l m b c g z p s k v w' ∧ Below w.heap.size w w' := by
  refine (srnew_any a t l m b c g z p s k w).mono ?_
  rintro e w' ⟨x, rfl, hx, hs, hb⟩
  exact ⟨_, rfl, ⟨x, rfl, by omega, 0, zb, hs, by simp [zb], .inl rfl⟩, hb⟩
theorem step_agg (w : World) : (isAgg 82).run Tryd.prog w = .ok true w := by
  unfold isAgg
  rw [Sem.run_bind, run_underlying Tryd.underlying82 w]
  rfl
theorem stpc_load {w : World} {d : Nat} {k x k' y r c : Int} (h : RowAt w d 82 (stpc k x k' y r c)) : (loadVar 82 ⟨d, 0, none⟩).run Tryd.prog w = .ok (stpv k x k' y r c) w :=
  sub_load h step_agg step_size 0 (stpc k x k' y r c).toList rfl fun j v h => by simpa using h
theorem GrRow.segment {w : World} {q p a t l m b c g z : Nat} (H : GrRow w q p a t l m b c g z) : w.cell? ⟨q, 7, none⟩ = some (.int .i64 (g : Int)) := (RowAt.cell H 7).trans rfl
theorem TAt.kept2 {w w' : World} (h : TAt w) {B : Nat} (hB : TabN B) (hk : Below B w w') : TAt w' := h.below hk hB.1 hB.2
theorem segTo_ok {a t l b c g p s k : Nat} {L : List (List Nat)} (S : Sh a t l b c g) (hp : p < t) (hs : s ≤ 3) (hk : k < l) (hL : L.length = l * c) (h : ∀ x ∈ L, okb x) : ∀ n, fiN p s + n ≤ g → ∀ x ∈ segTo a t l b c g L p s k (fiN p s) n, okb x
  | 0, _ => h
  | n + 1, hn => stepL_ok S (R := ⟨hp, hs, hk, by omega, by omega⟩) (by rw [segTo_len]; exact hL) (segTo_ok S hp hs hk hL h n (by omega))
end Go.Proofs.YtfoodaobiknihaaDoor
