/- The law file's awake: the chapter's example holds. No condition. -/
import Derived.Test.YtebocfbnamcnoaaDoorFdRefs
namespace Go.Proofs.YtebocfbnamcnoaaDoor
set_option maxRecDepth 50000
open Go.RowKit

theorem Reads.kept {M : Nat → Prop} {w w' : World} {B : Nat} {A : Option Addr} {xs : List Value} (h : Reads w B A xs) (hk : Kept M w w') (hB : B ≤ w.heap.size) (hM : ∀ b o s, A = some ⟨b, o, s⟩ → ¬ M b) : Reads w' B A xs := fun k hl => by
  obtain ⟨b, off, e, hb, hc⟩ := h k hl
  exact ⟨b, off, e, hb, (World.cell?_of_block (w := w) (hk.block b (by omega) (hM b off none e))).trans hc⟩
/-- what Put has answered, where the blocks and the rest are known -/
theorem PutAt.known {w0 w : World} {B F n t : Nat} {lz : Bool} {v0 vb : Value} {X h : List UInt8} {bs : List (List UInt8)} (p : PutAt w0 w B F n lz v0 t X vb) (hc : Cut n lz X bs h) :
    ∃ v gs A c, vb = .slice A bs.length c ∧ Put1 w0 w B F n lz v0 (.slice A bs.length c) v h t gs bs := by
  obtain ⟨v, h', gs, bs', q, hc'⟩ := p
  obtain ⟨rfl, rfl⟩ := cut_one hc hc'
  obtain ⟨A, c, rfl, h1, h2, h3⟩ := own_form q.list
  rw [q.outs.1] at *
  exact ⟨v, gs, A, c, rfl, q⟩
theorem PutAt.some {w0 w : World} {B F n t : Nat} {lz : Bool} {v0 vb : Value} {X : List UInt8} (p : PutAt w0 w B F n lz v0 t X vb) : ∃ bs h, Cut n lz X bs h := by
  obtain ⟨v, h', gs, bs', q, hc'⟩ := p
  exact ⟨bs', h', hc'⟩
section
variable {w0 w w' : World} {B F n t c m : Nat} {lz : Bool} {v0 v : Value} {h : List UInt8} {gs : List Nat} {bs : List (List UInt8)} {A : Option Addr} {M : Nat → Prop}
theorem own_len {e : TypeId} {xs : List Value} (h : w.ownsRow B e 1 (.slice A n c) m xs) : n = m := by
  rcases h.2 with ⟨e, e2⟩ | ⟨g, cap, cur, e, _⟩
  · injection e with _ e1 _; omega
  · injection e
theorem Put1.reads (p : Put1 w0 w B F n lz v0 (.slice A m c) v h t gs bs) : Reads w w.heap.size A (sls n gs) := by
  have := p.list
  obtain rfl := own_len this
  exact Reads.of_own this
theorem Put1.at_ (p : Put1 w0 w B F n lz v0 (.slice A m c) v h t gs bs) : ∀ b o s, A = some ⟨b, o, s⟩ → w0.heap.size ≤ b := fun b o s e => (p.list.lt b (by rw [e]; rfl)).1
/-- the answer is still there, where nothing of it may have turned -/
theorem Put1.later (p : Put1 w0 w B F n lz v0 (.slice A m c) v h t gs bs) (hk : Kept M w w') (hM : ∀ k, M k → k < w0.heap.size) (hv : v0.ownBlock = none) : Reads w' w'.heap.size A (sls n gs) ∧ Outs w' gs bs := by
  refine ⟨(p.reads.kept hk (Nat.le_refl _) fun b o s e hm => ?_).more hk.size, p.outs.keep fun g hg hl => hk.block g hl fun hm => ?_⟩
  · have := p.at_ b o s e; have := hM b hm; omega
  · rcases p.gat g hg with e | e
    · rw [hv] at e; cases e
    · have := hM g hm; omega
end
theorem mine_nil {F k : Nat} (h : Mine F (.slice none 0 0) k) : k = F := by
  rcases h with h | h
  · exact h
  · simp [Value.ownBlock] at h
/-- a list of two texts, or of one, that was just made -/
theorem two_parts (w : World) (M : Nat → Prop) (hM : ¬ M w.heap.size) (s1 s2 : ByteArray) : Parts (w.alloc (.cells #[.string s1, .string s2] 9)) M (some ⟨w.heap.size, 0, none⟩) (stv [s1, s2]) := fun k hk => by
  refine ⟨w.heap.size, 0, rfl, by simp, hM, ?_⟩
  rw [cell_of_row _ w.heap.size (0 + k) _ _ _ (heap_alloc_new w _)]
  match k, hk with
  | 0, _ => rfl
  | 1, _ => rfl
theorem one_part (w : World) (M : Nat → Prop) (hM : ¬ M w.heap.size) (s1 : ByteArray) : Parts (w.alloc (.cells #[.string s1] 9)) M (some ⟨w.heap.size, 0, none⟩) (stv [s1]) := fun k hk => by
  refine ⟨w.heap.size, 0, rfl, by simp, hM, ?_⟩
  rw [cell_of_row _ w.heap.size (0 + k) _ _ _ (heap_alloc_new w _)]
  match k, hk with
  | 0, _ => rfl
theorem jn_two (s1 s2 : ByteArray) : jn [s1, s2] = tl s1 ++ tl s2 := by simp [jn]
theorem jn_one (s1 : ByteArray) : jn [s1] = tl s1 := by simp [jn]

def abc : ByteArray := ⟨#[97, 98, 99]⟩
def defgh : ByteArray := ⟨#[100, 101, 102, 103, 104]⟩
theorem cut_eager : Cut 4 false (tl abc ++ tl defgh) [[97, 98, 99, 100], [101, 102, 103, 104]] [] := ⟨rfl, by simp, ⟨by simp, by simp⟩, by simp⟩
theorem cut_lazy : Cut 4 true (tl abc ++ tl defgh) [[97, 98, 99, 100]] [101, 102, 103, 104] := ⟨rfl, by simp, ⟨by simp, by simp⟩, by simp⟩

end Go.Proofs.YtebocfbnamcnoaaDoor
