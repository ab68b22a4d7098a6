/- Two arrays of eight words that are the same are told to be the same. Condition: they are words. -/
import Derived.Test.YtdgfdgdekocodaaDoorShSched
import Derived.DeepKeys
namespace Go.Proofs.YtdgfdgdekocodaaDoor
open Go.RowKit

theorem cells8 : Tryd.prog.cellsOf 23 = 8 := by kernel_rfl
theorem cells1 : Tryd.prog.cellsOf 22 = 1 := by kernel_rfl
theorem wf_word (a : Nat) (h : a < 4294967296) : (Lit.int .u32 (a : Int)).wf = true := by
  have e1 : IntKind.u32.min = 0 := rfl
  have e2 : IntKind.u32.max = 4294967295 := rfl
  simp [Lit.wf, e1, e2]
  omega
theorem key1 (d a : Nat) (h : a < 4294967296) : Tryd.prog.keyLits (d + 1) 22 [.int .u32 (a : Int)] = some [.int .u32 (a : Int)] := by
  unfold Program.keyLits
  simp only [Tryd.underlying22]
  simp [wf_word a h]
theorem key8 (d a b c e f g h i : Nat) (ha : a < 4294967296) (hb : b < 4294967296) (hc : c < 4294967296) (he : e < 4294967296) (hf : f < 4294967296) (hg : g < 4294967296) (hh : h < 4294967296) (hi : i < 4294967296) :
    Tryd.prog.keyLits (d + 2) 23 [.int .u32 (a : Int), .int .u32 (b : Int), .int .u32 (c : Int), .int .u32 (e : Int), .int .u32 (f : Int), .int .u32 (g : Int), .int .u32 (h : Int), .int .u32 (i : Int)] = some [.int .u32 a, .int .u32 b, .int .u32 c, .int .u32 e, .int .u32 f, .int .u32 g, .int .u32 h, .int .u32 i] := by
  have k := key1 d
  unfold Program.keyLits
  simp only [Tryd.underlying23]
  simp only [cells8, cells1, List.length_cons, List.length_nil, if_true, show List.range 8 = [0, 1, 2, 3, 4, 5, 6, 7] from rfl, List.mapM_cons, List.mapM_nil, Nat.mul_one, List.drop_zero, List.drop_succ_cons, List.take_succ_cons, List.take_zero, k a ha, k b hb, k c hc, k e he, k f hf, k g hg, k h hh, k i hi]
  rfl
theorem eq8 (a b c d e f g h : Nat) (ha : a < 4294967296) (hb : b < 4294967296) (hc : c < 4294967296) (hd : d < 4294967296) (he : e < 4294967296) (hf : f < 4294967296) (hg : g < 4294967296) (hh : h < 4294967296) (w : World) : (binOp .eql 23 (.agg #[.int .u32 (a : Int), .int .u32 (b : Int), .int .u32 (c : Int), .int .u32 (d : Int), .int .u32 (e : Int), .int .u32 (f : Int), .int .u32 (g : Int), .int .u32 (h : Int)]) (.agg #[.int .u32 (a : Int), .int .u32 (b : Int), .int .u32 (c : Int), .int .u32 (d : Int), .int .u32 (e : Int), .int .u32 (f : Int), .int .u32 (g : Int), .int .u32 (h : Int)])).run Tryd.prog w = .ok (.bool true) w := by
  obtain ⟨r, h1, h2⟩ := run_equalIn_deep (P := Tryd.prog) 9990 10 23 (by kernel_rfl) w 10 10 (.agg #[.int .u32 (a : Int), .int .u32 (b : Int), .int .u32 (c : Int), .int .u32 (d : Int), .int .u32 (e : Int), .int .u32 (f : Int), .int .u32 (g : Int), .int .u32 (h : Int)]) (.agg #[.int .u32 (a : Int), .int .u32 (b : Int), .int .u32 (c : Int), .int .u32 (d : Int), .int .u32 (e : Int), .int .u32 (f : Int), .int .u32 (g : Int), .int .u32 (h : Int)]) _ _ (by kernel_rfl) (by kernel_rfl) (key8 8 a b c d e f g h ha hb hc hd he hf hg hh) (key8 8 a b c d e f g h ha hb hc hd he hf hg hh)
  have hr : r = true := h2.2 rfl
  subst hr
  rw [run_eql_struct, show (10000 : Nat) = 9990 + 10 from rfl, h1]
  rfl
theorem eq8_words (L : List Nat) (hl : L.length = 8) (hw : ∀ x ∈ L, x < 4294967296) (w : World) : (binOp .eql 23 (.agg (wd L)) (.agg (wd L))).run Tryd.prog w = .ok (.bool true) w := by
  match L, hl, hw with
  | [a, b, c, d, e, f, g, h], _, hw =>
    exact eq8 a b c d e f g h (hw a (by simp)) (hw b (by simp)) (hw c (by simp)) (hw d (by simp)) (hw e (by simp)) (hw f (by simp)) (hw g (by simp)) (hw h (by simp)) w
end Go.Proofs.YtdgfdgdekocodaaDoor
