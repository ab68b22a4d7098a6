/- The law file's awake: the chapter's example holds. No condition. -/
import Derived.Test.YtbfnhkmehjggeaaFdRefs
namespace Go.Proofs.Ytbfnhkmehjggeaa
open Go.RowKit

theorem Reads.kept {M : Nat → Prop} {w w' : World} {B : Nat} {A : Option Addr} {xs : List Value} (h : Reads w B A xs) (hk : Kept M w w') (hB : B ≤ w.heap.size) (hM : ∀ b o s, A = some ⟨b, o, s⟩ → ¬ M b) : Reads w' B A xs := fun k hl => by
  obtain ⟨b, off, e, hb, hc⟩ := h k hl
  exact ⟨b, off, e, hb, (World.cell?_of_block (w := w) (hk.block b (by omega) (hM b off none e))).trans hc⟩
/-- what Put has answered, where the blocks and the rest are known -/
theorem PutAt.known {w0 w : World} {B F n t : Nat} {lz : Bool} {v0 vb : Value} {X h : List UInt8} {bs : List (List UInt8)} (p : PutAt w0 w B F n lz v0 t X vb) (hc : Cut n lz X bs h) :
    ∃ v gs A c, vb = .slice A bs.length c ∧ Put1 w0 w B F n lz v0 (.slice A bs.length c) v h t gs bs := by
  obtain ⟨v, h', gs, bs', q, hc'⟩ := p
  obtain ⟨rfl, rfl⟩ := cut_one hc hc'
  obtain ⟨A, c, rfl, h1, h2, h3⟩ := own_form q.list
  rw [q.outs.1] at *
  exact ⟨v, gs, A, c, rfl, q⟩
theorem PutAt.some {w0 w : World} {B F n t : Nat} {lz : Bool} {v0 vb : Value} {X : List UInt8} (p : PutAt w0 w B F n lz v0 t X vb) : ∃ bs h, Cut n lz X bs h := by
  obtain ⟨v, h', gs, bs', q, hc'⟩ := p
  exact ⟨bs', h', hc'⟩
section
variable {w0 w w' : World} {B F n t c m : Nat} {lz : Bool} {v0 v : Value} {h : List UInt8} {gs : List Nat} {bs : List (List UInt8)} {A : Option Addr} {M : Nat → Prop}
theorem own_len {e : TypeId} {xs : List Value} (h : w.ownsRow B e 1 (.slice A n c) m xs) : n = m := by
  rcases h.2 with ⟨e, e2⟩ | ⟨g, cap, cur, e, _⟩
  · injection e with _ e1 _; omega
  · injection e
theorem Put1.reads (p : Put1 w0 w B F n lz v0 (.slice A m c) v h t gs bs) : Reads w w.heap.size A (sls n gs) := by
  have := p.list
  obtain rfl := own_len this
  exact Reads.of_own this
theorem Put1.at_ (p : Put1 w0 w B F n lz v0 (.slice A m c) v h t gs bs) : ∀ b o s, A = some ⟨b, o, s⟩ → w0.heap.size ≤ b := fun b o s e => (p.list.lt b (by rw [e]; rfl)).1
/-- the answer is still there, where nothing of it may have turned -/
theorem Put1.later (p : Put1 w0 w B F n lz v0 (.slice A m c) v h t gs bs) (hk : Kept M w w') (hM : ∀ k, M k → k < w0.heap.size) (hv : v0.ownBlock = none) : Reads w' w'.heap.size A (sls n gs) ∧ Outs w' gs bs := by
  refine ⟨(p.reads.kept hk (Nat.le_refl _) fun b o s e hm => ?_).more hk.size, p.outs.keep fun g hg hl => hk.block g hl fun hm => ?_⟩
  · have := p.at_ b o s e; have := hM b hm; omega
  · rcases p.gat g hg with e | e
    · rw [hv] at e; cases e
    · have := hM g hm; omega
end
theorem mine_nil {F k : Nat} (h : Mine F (.slice none 0 0) k) : k = F := by
  rcases h with h | h
  · exact h
  · simp [Value.ownBlock] at h
/-- a list of two texts, or of one, that was just made -/
theorem two_parts (w : World) (M : Nat → Prop) (hM : ¬ M w.heap.size) (s1 s2 : ByteArray) : Parts (w.alloc (.cells #[.string s1, .string s2] 9)) M (some ⟨w.heap.size, 0, none⟩) (stv [s1, s2]) := fun k hk => by
  refine ⟨w.heap.size, 0, rfl, by simp, hM, ?_⟩
  rw [cell_of_row _ w.heap.size (0 + k) _ _ _ (heap_alloc_new w _)]
  match k, hk with
  | 0, _ => rfl
  | 1, _ => rfl
theorem one_part (w : World) (M : Nat → Prop) (hM : ¬ M w.heap.size) (s1 : ByteArray) : Parts (w.alloc (.cells #[.string s1] 9)) M (some ⟨w.heap.size, 0, none⟩) (stv [s1]) := fun k hk => by
  refine ⟨w.heap.size, 0, rfl, by simp, hM, ?_⟩
  rw [cell_of_row _ w.heap.size (0 + k) _ _ _ (heap_alloc_new w _)]
  match k, hk with
  | 0, _ => rfl
theorem jn_two (s1 s2 : ByteArray) : jn [s1, s2] = tl s1 ++ tl s2 := by simp [jn]
theorem jn_one (s1 : ByteArray) : jn [s1] = tl s1 := by simp [jn]

def abc : ByteArray := ⟨#[97, 98, 99]⟩
def defgh : ByteArray := ⟨#[100, 101, 102, 103, 104]⟩
theorem cut_eager : Cut 4 false (tl abc ++ tl defgh) [[97, 98, 99, 100], [101, 102, 103, 104]] [] := ⟨rfl, by simp, ⟨by simp, by simp⟩, by simp⟩
theorem cut_lazy : Cut 4 true (tl abc ++ tl defgh) [[97, 98, 99, 100]] [101, 102, 103, 104] := ⟨rfl, by simp, ⟨by simp, by simp⟩, by simp⟩

set_option maxHeartbeats 1600000 in
theorem awake_any (w : World) : Calls Try.prog 6 #[] w fun e w' => e = .returned (.bool true) ∧ Below w.heap.size w w' := by
  go_enter Try.func6, Try.ntmps6
  go_wp2_with fail
  refine (new_good 4 false (by omega) (by omega) w).mono ?_
  rintro e w1 ⟨rfl, r1, b1⟩
  go_wp2_with fail
  refine (new_good 4 true (by omega) (by omega) w1).mono ?_
  rintro e w2 ⟨rfl, r2, b2⟩
  have R1 := r1.below b2
  have hl1 := r1.lt
  have hl2 := r2.lt
  have hs := b2.size
  clear r1
  go_wp2_with fail
  have P1 := put_any w.heap.size 4 0 false (.slice none 0 0) (B := w.heap.size) [] (some ⟨w2.heap.size, 0, none⟩) 2 [abc, defgh] (w2.alloc (.cells #[.string abc, .string defgh] 9)) (R1.alloc _) (World.ownsRow_nil _ _ _ _) (by simp; omega) (by simp [Value.ownBlock]) (by omega) (by omega) ⟨by simp, by simp⟩ (two_parts w2 _ (fun h => by have := mine_nil h; omega) _ _) (by decide) (by decide)
  refine (P1).mono ?_
  rintro e w3 ⟨vb, rfl, hp⟩
  clear P1
  rw [jn_two, List.nil_append] at hp
  obtain ⟨v3, gs, A, c, rfl, q⟩ := hp.known cut_eager
  clear hp
  have r3 := (r2.alloc (.cells #[.string abc, .string defgh] 9)).keep q.kept (fun h => by have := mine_nil h; omega)
  have hl3 := r3.lt
  have b3 : Below w.heap.size w w3 := ((b1.trans (b2.mono b1.size)).alloc (by omega) _).trans (q.kept.below (by simp; omega) (fun x hx => by have := mine_nil hx; omega))
  have Q := Lib.hid q
  clear q r2 R1
  go_wp2_with fail
  have P2 := put_any w1.heap.size 4 0 true (.slice none 0 0) (B := w.heap.size) [] (some ⟨w3.heap.size, 0, none⟩) 2 [abc, defgh] (w3.alloc (.cells #[.string abc, .string defgh] 9)) (r3.alloc _) (World.ownsRow_nil _ _ _ _) (by simp; omega) (by simp [Value.ownBlock]) (by omega) (by omega) ⟨by simp, by simp⟩ (two_parts w3 _ (fun h => by have := mine_nil h; omega) _ _) (by decide) (by decide)
  refine (P2).mono ?_
  rintro e w4 ⟨vb, rfl, hp⟩
  clear P2
  rw [jn_two, List.nil_append] at hp
  obtain ⟨v4, gs4, A4, c4, rfl, q4⟩ := hp.known cut_lazy
  clear hp
  have hk : Kept (Mine w1.heap.size (.slice none 0 0)) w3 w4 := ((Kept.refl _ w3).alloc _).trans q4.kept (fun _ _ h => h)
  obtain ⟨hR, hO⟩ := Q.out.later hk (fun k h => by have := mine_nil h; simp; omega) rfl
  have b4 : Below w.heap.size w w4 := b3.trans (hk.below (by omega) (fun x hx => by have := mine_nil hx; omega))
  have hgl := hO.1
  obtain ⟨b, off, rfl, hbB, hcell⟩ := hR 1 (by rw [sls_length, hgl]; simp)
  rw [sls_at] at hcell
  have hrow := hO.2 1 (by rw [hgl]; simp) (by simp)
  have hcv : (convert 35 9 (.slice (some ⟨gs[1]'(by rw [hgl]; simp), 0, none⟩) 4 4)).run Try.prog w4 = .ok (.string ⟨#[101, 102, 103, 104]⟩) w4 := conv_row hrow rfl
  generalize gs[1]'(by rw [hgl]; simp) = g1 at hcell hcv hrow
  have hz : (4 : Nat) = List.length [(101 : UInt8), 102, 103, 104] := rfl
  have HC := Lib.hid (rest_any w4 q4.row _ _ q4.held (by simp))
  clear Q hR hO hk hgl hrow q4 b3 b1 b2 hl1 hl2 hl3 hs hz r3
  go_wp2_with fail
  refine (HC.out).mono ?_
  rintro e w5 ⟨v5, rfl, ho5, hb5⟩
  have hcv5 : (convert 35 9 v5).run Try.prog w5 = .ok (.string ⟨#[101, 102, 103, 104]⟩) w5 := conv_text w5 ho5
  have b5 := b4.trans (hb5.mono b4.size)
  clear ho5 hb5 hcv hcell
  go_wp2
  go_ret
  exact ⟨rfl, b5⟩
end Go.Proofs.Ytbfnhkmehjggeaa
