/- The document's answers for feeds, by their contracts; and the law file's comparison of blocks with texts. Conditions: those typed. -/
import Derived.Test.YtebocfbnamcnoaaDoorFdRound
import Derived.Maps.AppendAt
namespace Go.Proofs.YtebocfbnamcnoaaDoor
set_option maxRecDepth 50000
open Go.RowKit

theorem jn_le_one (l : List ByteArray) (M : Nat) (h : ∀ s ∈ l, s.size ≤ M) : ∀ k, k ≤ l.length → (jn (l.take k)).length ≤ k * M
  | 0, _ => by simp [jn]
  | k + 1, hk => by
    rw [jn_snoc l k hk, List.length_append, tl_length, Nat.succ_mul]
    have := jn_le_one l M h k (by omega)
    have := h l[k] (List.getElem_mem hk)
    omega

theorem tx_append (a b : List UInt8) : tx (a ++ b) = tx a ++ tx b := by
  apply tl_inj
  rw [tl_tx]
  unfold tl tx
  rw [ByteArray.data_append]
  simp
theorem fd_info_str : (Tryd.prog.info? 9).map (fun i => (i.zero, i.size, i.bytes)) = some (some (.string ⟨#[]⟩), 1, 16) := by kernel_rfl
def txs (l : List (List UInt8)) : List Value := l.map fun b => Value.string (tx b)
theorem txs_length (l : List (List UInt8)) : (txs l).length = l.length := by simp [txs]
theorem txs_at (l : List (List UInt8)) (k : Nat) (h : k < (txs l).length) : (txs l)[k] = .string (tx (l[k]'(by simpa [txs] using h))) := by simp [txs]
/-- what the document's Blocks has found so far -/
def Found (n : Nat) (lz : Bool) (X : List UInt8) (a : ByteArray) (bs : List (List UInt8)) : Prop := X = bs.flatten ++ tl a ∧ (∀ b ∈ bs, b.length = n) ∧ (lz = true → bs ≠ [] → tl a ≠ [])
/-- is there another block -/
def another (n : Nat) (lz : Bool) (m : Nat) : Bool := decide (n < m) || (!lz && decide (m = n))
theorem Found.on {n m : Nat} {lz : Bool} {X : List UInt8} {a : ByteArray} {bs : List (List UInt8)} (h : Found n lz X a bs) (hm : a.size = m) (hn : n ≤ m) (hw : lz = true → n < m) : Found n lz X (a.extract n a.size) (bs ++ [tl (a.extract 0 n)]) := by
  obtain ⟨h1, h2, h3⟩ := h
  refine ⟨?_, ?_, ?_⟩
  · rw [tl_back, tl_front, h1]; simp
  · intro b hb
    rcases List.mem_append.1 hb with hb | hb
    · exact h2 b hb
    · simp at hb; subst hb; rw [tl_front, List.length_take, tl_length]; omega
  · intro l _ e
    have := hw l
    have e2 := congrArg List.length e
    rw [tl_length, back_size] at e2
    simp at e2
    omega
theorem Found.cut {n m : Nat} {lz : Bool} {X : List UInt8} {a : ByteArray} {bs : List (List UInt8)} (h : Found n lz X a bs) (hm : a.size = m) (hn : ¬ n < m) (hw : m = n → lz = true) : Cut n lz X bs (tl a) :=
  ⟨h.1, h.2.1, ⟨by rw [tl_length]; omega, fun e => hw (by rw [tl_length] at e; omega)⟩, h.2.2⟩

theorem sls_length (n : Nat) (gs : List Nat) : (sls n gs).length = gs.length := by simp [sls]
theorem sls_at (n : Nat) (gs : List Nat) (k : Nat) (h : k < (sls n gs).length) : (sls n gs)[k] = .slice (some ⟨gs[k]'(by simpa [sls] using h), 0, none⟩) n n := by simp [sls]
theorem conv_row {w : World} {g n c : Nat} {b : List UInt8} (h : Row w g b) (hn : b.length = n) : (convert 48 9 (.slice (some ⟨g, 0, none⟩) n c)).run Tryd.prog w = .ok (.string (tx b)) w := by
  subst hn
  have e : tx b = strOfNums (b.map fun b => (b.toNat : Int)) := by
    unfold tx strOfNums
    congr 1
    congr 1
    rw [List.map_map]
    conv => lhs; rw [← List.map_id b]
    exact List.map_congr_left fun b _ => by simp
  rw [e]
  refine run_convert_bytes_arg w 48 5 Tryd.underlying48 Tryd.underlying5 g 0 _ c _ (by simp) (fun i hi => ?_) 9 Tryd.underlying9
  obtain ⟨b', off', hb', _, hc⟩ := h.reads i (by rw [cs_length]; omega)
  injection hb' with hb'
  injection hb' with e1 e2
  subst e1; subst e2
  rw [hc, cs_at]
  simp [List.getD, List.getElem?_eq_getElem hi]

end Go.Proofs.YtebocfbnamcnoaaDoor
