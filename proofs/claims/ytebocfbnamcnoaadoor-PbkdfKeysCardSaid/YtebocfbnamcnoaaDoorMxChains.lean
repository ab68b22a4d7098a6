/- The law MacChains, for every key, two texts and an int. Conditions: each text is no longer than what may come in; the package's table lies at its place. -/
import Derived.Test.YtebocfbnamcnoaaDoorMxChain
import Derived.Test.YtebocfbnamcnoaaDoorMxRchain
namespace Go.Proofs.YtebocfbnamcnoaaDoor
set_option maxRecDepth 50000
open Go.RowKit Sha

/-- what both sides come to -/
def chainV (K C X : List UInt8) (x : Int) : Value := if x < 1 then .tuple #[.string ⟨#[]⟩, .string ⟨#[]⟩] else .tuple #[.string (tx (lastL K C X (x.toNat - 1))), .string (tx (allL K C X (x.toNat - 1)))]
theorem chainV_two (K C X : List UInt8) (x : Int) : ∃ a b, chainV K C X x = .tuple #[.string a, .string b] := by
  unfold chainV
  split <;> exact ⟨_, _, rfl⟩
theorem chain_all (w : World) (M : Nat) (K C : List UInt8) (h : MacIs w M K C) (hk : KAt w) (x : Int) (hn : x ≤ 1000000) (A : Option Addr) (c : Nat) (ps : List ByteArray) (hr : Reads w w.heap.size A (stv ps)) (hlen : C.length + (jn ps).length ≤ 10000) (hps : ps.length ≤ 1000000) :
    Calls Tryd.prog 19 #[.pointer (some ⟨M, 0, none⟩), .int .i64 x, .slice A ps.length c] w fun e w' => e = .returned (chainV K C (jn ps) x) ∧ Below w.heap.size w w' := by
  unfold chainV
  split
  · rename_i h1
    refine (chain_low w M x h1 A ps.length c).mono ?_
    rintro e w' ⟨rfl, rfl⟩
    exact ⟨rfl, Below.refl _ _⟩
  · obtain ⟨n, rfl⟩ : ∃ n : Nat, x = (n : Int) := ⟨x.toNat, by omega⟩
    rw [Int.toNat_natCast]
    exact chain_any w M K C h hk n (by omega) (by omega) A c ps hr hlen hps
theorem rchain_all (k came t : ByteArray) (hk : k.size ≤ 1000) (hct : came.size + t.size ≤ 900) (x : Int) (hm : x ≤ 1000000) (w : World) :
    Calls Tryd.prog 25 #[.agg (wd (kk ++ hh)), .string k, .string came, .string t, .int .i64 x] w fun e w' => e = .returned (chainV (tl k) (tl came) (tl t) x) ∧ Below w.heap.size w w' := by
  unfold chainV
  split
  · rename_i h1
    exact rchain_low _ k came t x h1 w
  · obtain ⟨n, rfl⟩ : ∃ n : Nat, x = (n : Int) := ⟨x.toNat, by omega⟩
    rw [Int.toNat_natCast]
    exact rchain_any k came t hk hct n (by omega) (by omega) w

end Go.Proofs.YtebocfbnamcnoaaDoor
