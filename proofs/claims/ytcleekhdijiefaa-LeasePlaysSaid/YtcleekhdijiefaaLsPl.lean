/- The state of the law's play: three leases of one arena, and the document's rows. Conditions: those typed. -/
import Derived.Test.YtcleekhdijiefaaLsAwake
import Derived.Test.YtcleekhdijiefaaLsRef
namespace Go.Proofs.Ytcleekhdijiefaa
set_option maxRecDepth 50000
open Go.RowKit Bb

structure Rz where
  A : Option Addr
  c : Nat
  zs : List Nat
  high : Nat
  closed : Bool
def rzc (r : Rz) : List Value := [.slice r.A r.zs.length r.c, .int .i64 (r.high : Int), .bool r.closed]
def rzs (Z : List Rz) : List Value := Z.flatMap rzc
theorem rzs_length : ∀ Z : List Rz, (rzs Z).length = Z.length * 3
  | [] => rfl
  | x :: l => by
    have := rzs_length l
    unfold rzs at *
    rw [List.flatMap_cons, List.length_append, this, List.length_cons]
    simp [rzc]
    omega
theorem rzs_at : ∀ (l : List Rz) (i : Nat) (h : i < l.length) (j : Nat), j < 3 → (rzs l)[i * 3 + j]? = (rzc l[i])[j]?
  | x :: l, 0, _, j, hj => by
    rw [show rzs (x :: l) = rzc x ++ rzs l by simp [rzs], List.getElem?_append_left (by simp [rzc]; omega)]; simp
  | x :: l, i + 1, h, j, hj => by
    have := rzs_at l i (by simpa using h) j hj
    rw [show rzs (x :: l) = rzc x ++ rzs l by simp [rzs], List.getElem?_append_right (by simp [rzc]; omega), show (i + 1) * 3 + j - (rzc x).length = i * 3 + j by simp [rzc]; omega, this]
    simp
theorem rzs_set : ∀ (l : List Rz) (i : Nat) (_ : i < l.length) (r : Rz), rzs (l.set i r) = (rzs l).take (i * 3) ++ rzc r ++ (rzs l).drop (i * 3 + 3)
  | x :: l, 0, _, r => by simp [rzs, rzc]
  | x :: l, i + 1, h, r => by
    have := rzs_set l i (by simpa using h) r
    have e : ∀ y (m : List Rz), rzs (y :: m) = rzc y ++ rzs m := fun y m => by simp [rzs]
    rw [List.set_cons_succ, e, this, e, show (i + 1) * 3 = i * 3 + 3 by omega]
    simp [rzc]
theorem rzc_one (r : Rz) : ∀ v ∈ rzc r, v.oneCell' = true := by
  intro v hv
  simp only [rzc, List.mem_cons, List.not_mem_nil, or_false] at hv
  rcases hv with rfl | rfl | rfl <;> rfl
def zt : List Rz → Nat
  | [] => 0
  | x :: l => sm x.zs + zt l
theorem zt_append (a b : List Rz) : zt (a ++ b) = zt a + zt b := by
  induction a with
  | nil => simp [zt]
  | cons x a ih => simp [zt, ih]; omega
theorem zt_take (l : List Rz) (i : Nat) (h : i < l.length) : zt (l.take (i + 1)) = zt (l.take i) + sm l[i].zs := by
  rw [List.take_add_one, List.getElem?_eq_getElem h, zt_append]; simp [zt]
theorem zt_part (l : List Rz) (i : Nat) : zt (l.take i) ≤ zt l := by
  conv => rhs; rw [← List.take_append_drop i l, zt_append]
  omega

def ht : List Ls → Nat
  | [] => 0
  | x :: l => hs x.qs + ht l
def ct : List Ls → Nat
  | [] => 0
  | x :: l => x.qs.length + ct l
theorem ht_set : ∀ (L : List Ls) (k : Nat) (h : k < L.length) (x : Ls), ht (L.set k x) + hs L[k].qs = ht L + hs x.qs
  | y :: L, 0, _, x => by simp [ht]; omega
  | y :: L, k + 1, h, x => by
    have := ht_set L k (by simpa using h) x
    simp only [List.set_cons_succ, ht, List.getElem_cons_succ]
    omega
theorem ct_set : ∀ (L : List Ls) (k : Nat) (h : k < L.length) (x : Ls), ct (L.set k x) + L[k].qs.length = ct L + x.qs.length
  | y :: L, 0, _, x => by simp [ct]; omega
  | y :: L, k + 1, h, x => by
    have := ct_set L k (by simpa using h) x
    simp only [List.set_cons_succ, ct, List.getElem_cons_succ]
    omega
theorem ht_ge : ∀ (L : List Ls) (k : Nat) (h : k < L.length), hs L[k].qs ≤ ht L
  | y :: L, 0, _ => by simp [ht]
  | y :: L, k + 1, h => by
    have := ht_ge L k (by simpa using h)
    simp only [List.getElem_cons_succ, ht]
    omega
theorem ct_ge : ∀ (L : List Ls) (k : Nat) (h : k < L.length), L[k].qs.length ≤ ct L
  | y :: L, 0, _ => by simp [ct]
  | y :: L, k + 1, h => by
    have := ct_ge L k (by simpa using h)
    simp only [List.getElem_cons_succ, ct]
    omega

def lp (L : List Ls) : List Value := L.map fun x => .pointer (some ⟨x.b, 0, none⟩)
/-- an arena, its leases, and the law's array of them -/
structure Pa (W w : World) (a B h ob : Nat) (L : List Ls) : Prop where
  len : L.length = 3
  are : AreAt w a B (ht L) h (ct L)
  ls : ∀ k, (hk : k < L.length) → LeaseIs w W.heap.size a L[k]
  apart : ∀ i j, (hi : i < L.length) → (hj : j < L.length) → i ≠ j → Apart L[i] L[j]
  own : RowAt w ob 29 (lp L).toArray
  newA : W.heap.size ≤ a
  below : Below W.heap.size W w
  fit : ht L ≤ B ∧ B ≤ 1000
/-- the document's rows -/
structure Rw (W w : World) (rb : Nat) (Z : List Rz) : Prop where
  len : Z.length = 3
  row : RowAt w rb 33 (rzs Z).toArray
  own : ∀ k, (hk : k < Z.length) → w.ownsRow W.heap.size 3 1 (.slice Z[k].A Z[k].zs.length Z[k].c) Z[k].zs.length (ints Z[k].zs)
  newR : W.heap.size ≤ rb
/-- what is told of one lease -/
def Like (x : Ls) (r : Rz) : Prop := sm r.zs = hs x.qs ∧ r.zs.length = x.qs.length ∧ r.high = x.peak ∧ r.closed = x.closed ∧ (x.closed = true → x.qs = [])
def Same (L : List Ls) (Z : List Rz) : Prop := ∀ k, (h1 : k < L.length) → (h2 : k < Z.length) → Like L[k] Z[k]
theorem Same.total : ∀ {L : List Ls} {Z : List Rz}, Same L Z → L.length = Z.length → zt Z = ht L
  | [], [], _, _ => rfl
  | x :: L, r :: Z, h, hl => by
    have h0 := h 0 (by simp) (by simp)
    have := Same.total (L := L) (Z := Z) (fun k h1 h2 => h (k + 1) (by simpa using h1) (by simpa using h2)) (by simpa using hl)
    simp only [zt, ht, this]
    have e : sm r.zs = hs x.qs := h0.1
    omega
theorem Same.set {L : List Ls} {Z : List Rz} (h : Same L Z) (k : Nat) {x : Ls} {r : Rz} (hx : Like x r) : Same (L.set k x) (Z.set k r) := fun i h1 h2 => by
  by_cases e : k = i
  · subst e; simpa using hx
  · rw [List.getElem_set_ne e, List.getElem_set_ne e]
    exact h i (by simpa using h1) (by simpa using h2)

section
variable {W w w' : World} {a B h ob rb : Nat} {L : List Ls} {Z : List Rz}
theorem Pa.step (H : Pa W w a B h ob L) (hb : Below w.heap.size w w') : Pa W w' a B h ob L :=
  ⟨H.len, RowAt.step H.are hb, fun k hk => (H.ls k hk).step hb, H.apart, H.own.step hb, H.newA, H.below.trans (hb.mono H.below.size), H.fit⟩
theorem Pa.drewN (H : Pa W w a B h ob L) (q : Nat) : Pa W (w.drewN q) a B h ob L := H.step (below_drewN (Below.refl _ _) q)
theorem Rw.step (H : Rw W w rb Z) (hb : Below w.heap.size w w') : Rw W w' rb Z := ⟨H.len, H.row.step hb, fun k hk => own_leaves (H.own k hk) (.below hb _), H.newR⟩
theorem Rw.leaves (H : Rw W w rb Z) (h1 : Leaves w w' 33) (h2 : Leaves w w' 3) : Rw W w' rb Z := ⟨H.len, h1 _ _ H.row, fun k hk => own_leaves (H.own k hk) h2, H.newR⟩
theorem Rw.reads (H : Rw W w rb Z) (k : Nat) (hk : k < Z.length) : Reads w w.heap.size Z[k].A (ints Z[k].zs) := Reads.of_own (H.own k hk)
/-- what one lease's act leaves -/
theorem Pa.kept (H : Pa W w a B h ob L) (k : Nat) (hk : k < L.length) (hK : Kept (mine a L[k]) w w') (t : TypeId) (h0 : (t == 55) = false) (h1 : (t == 48) = false) (h2 : (t == 41) = false) (h3 : (t == 58) = false) (h4 : (t == 78) = false) : Leaves w w' t :=
  (H.ls k hk).leaves H.are hK t h0 h1 h2 h3 h4
/-- one lease is turned -/
theorem Pa.turn (H : Pa W w a B h ob L) (k : Nat) (hk : k < L.length) {x : Ls} {h' : Nat} (hx : LeaseIs w' W.heap.size a x) (hb : x.b = L[k].b) (hap : ∀ y, LeaseIs w W.heap.size a y → Apart L[k] y → Apart x y) (hK : Kept (mine a L[k]) w w') (hA : AreAt w' a B (ht (L.set k x)) h' (ct (L.set k x))) (hf : ht (L.set k x) ≤ B) : Pa W w' a B h' ob (L.set k x) := by
  have G : ∀ j, (hj : j < (L.set k x).length) → (j = k ∧ (L.set k x)[j] = x) ∨ (j ≠ k ∧ ∃ hj' : j < L.length, (L.set k x)[j] = L[j]) := fun j hj => by
    by_cases e : j = k
    · subst e; exact .inl ⟨rfl, by simp⟩
    · exact .inr ⟨e, by simpa using hj, by rw [List.getElem_set_ne (fun h => e h.symm)]⟩
  refine ⟨by rw [List.length_set, H.len], hA, fun j hj => ?_, fun i j hi hj hne => ?_, ?_, H.newA, H.below.trans (hK.under ((H.ls k hk).under H.newA) H.below.size), hf, H.fit.2⟩
  · rcases G j hj with ⟨rfl, e⟩ | ⟨hne, hj', e⟩
    · rw [e]; exact hx
    · rw [e]; exact (H.ls k hk).other (H.ls j hj') H.are (H.apart k j hk hj' (Ne.symm hne)) hK
  · rcases G i hi with ⟨e0, e⟩ | ⟨hne1, hi', e⟩ <;> rcases G j hj with ⟨e0', e'⟩ | ⟨hne2, hj', e'⟩
    · exact absurd (e0.trans e0'.symm) hne
    all_goals rw [e, e']
    · exact hap _ (H.ls j hj') (H.apart k j hk hj' (fun e => hne2 e.symm))
    · exact (hap _ (H.ls i hi') (H.apart k i hk hi' (fun e => hne1 e.symm))).symm
    · exact H.apart i j hi' hj' hne
  · have : lp (L.set k x) = lp L := by
      unfold lp
      rw [List.map_set, hb]
      exact List.ext_getElem (by simp) fun j h1 h2 => by
        rw [List.getElem_set]
        split
        · rename_i e; subst e; simp
        · rfl
    rw [this]
    exact H.kept k hk hK _ (by rfl) (by rfl) (by rfl) (by rfl) (by rfl) _ _ H.own
/-- blocks of other types are none of these -/
theorem Pa.far {M : Nat → Prop} (H : Pa W w a B h ob L) (hK : Kept M w w') (hN : ∀ k, M k → W.heap.size ≤ k) (hM : ∀ k, M k → ∃ t C, RowAt w k t C ∧ (t == 48) = false ∧ (t == 41) = false ∧ (t == 58) = false ∧ (t == 78) = false ∧ (t == 55) = false ∧ (t == 29) = false) : Pa W w' a B h ob L := by
  refine ⟨H.len, RowAt.kept H.are hK ?_, fun k hk => (H.ls k hk).far hK fun j hj => ?_, H.apart, RowAt.kept H.own hK ?_, H.newA, H.below.trans (hK.under hN H.below.size), H.fit⟩
  · intro m
    obtain ⟨t, C, hR, h1, h2, h3, h4, h5, h6⟩ := hM _ m
    exact RowAt.unlike hR H.are h5 rfl
  · obtain ⟨t, C, hR, h1, h2, h3, h4, h5, h6⟩ := hM _ hj
    exact ⟨t, C, hR, h1, h2, h3, h4⟩
  · intro m
    obtain ⟨t, C, hR, h1, h2, h3, h4, h5, h6⟩ := hM _ m
    exact RowAt.unlike hR H.own h6 rfl
/-- a row of the document's is stored -/
theorem Rw.set (H : Rw W w rb Z) (k : Nat) (hk : k < Z.length) {r : Rz} (ho : w.ownsRow W.heap.size 3 1 (.slice r.A r.zs.length r.c) r.zs.length (ints r.zs)) :
    (storeVar 32 ⟨rb, k * 3, none⟩ (.agg (rzc r).toArray)).run Try.prog w = .ok () (w.setRow rb (rzs (Z.set k r)).toArray) ∧ Rw W (w.setRow rb (rzs (Z.set k r)).toArray) rb (Z.set k r) ∧ Kept (fun k => k = rb) w (w.setRow rb (rzs (Z.set k r)).toArray) := by
  have hK : Kept (fun k => k = rb) w (w.setRow rb (rzs (Z.set k r)).toArray) := ⟨rfl, rfl, rfl, Nat.le_of_eq (setRow_size _ _ _).symm, fun j hj hne => setRow_other _ _ _ _ hne⟩
  refine ⟨?_, ⟨by rw [List.length_set, H.len], RowAt.setRow H.row _, fun j hj => ?_, H.newR⟩, hK⟩
  · rw [rzs_set Z k hk r]
    exact sub_store H.row row_size (k * 3) (rzc r) rfl (by rw [List.size_toArray, rzs_length]; omega) (rzc_one r)
  · by_cases e : k = j
    · subst e
      simp only [List.getElem_set_self]
      exact own_kept' ho hK fun k e1 e2 => by subst e2; exact own_unlike ho H.row (by rfl) e1
    · rw [List.getElem_set_ne e]
      have ho := H.own j (by simpa using hj)
      exact own_kept' ho hK fun k e1 e2 => by subst e2; exact own_unlike ho H.row (by rfl) e1
theorem Rw.load (H : Rw W w rb Z) (k : Nat) (hk : k < Z.length) : (loadVar 32 ⟨rb, k * 3, none⟩).run Try.prog w = .ok (.agg (rzc Z[k]).toArray) w :=
  sub_load H.row row_agg row_size (k * 3) (rzc Z[k]) rfl fun j v h => by
    have hj : j < 3 := by
      have := (List.getElem?_eq_some_iff.1 h).1
      simpa [rzc] using this
    rw [List.getElem?_toArray, rzs_at Z k hk j hj]
    exact h
theorem Rw.loads (H : Rw W w rb Z) : (loadVar 33 ⟨rb, 0, none⟩).run Try.prog w = .ok (.agg (rzs Z).toArray) w :=
  sub_load H.row rows_agg rows_size 0 (rzs Z) (by rw [rzs_length, H.len]) fun j v h => by simpa using h
theorem row_index (Z : List Rz) (hZ : Z.length = 3) (k : Nat) (hk : k < Z.length) (w : World) : (Instr.index 33 (.agg (rzs Z).toArray) (.int .i64 (k : Int))).run Try.prog w = .ok (.agg (rzc Z[k]).toArray) w := by
  have hs := row_size
  cases hq : Try.prog.info? 32 with
  | none => rw [hq] at hs; simp at hs
  | some i =>
    have hz : i.size = 3 := by rw [hq] at hs; simpa using hs
    have hk3 : k < 3 := by omega
    simp [Instr.index, run_underlying Try.underlying33, asIntOf, hk3, go_sem, sizeOf, typeInfo, hq, hz]
    apply List.ext_getElem?
    intro j
    by_cases hj : j < 3
    · rw [List.getElem?_take, if_pos hj, List.getElem?_drop, rzs_at Z k hk j hj]
    · rw [List.getElem?_eq_none (by simp; omega), List.getElem?_eq_none (by simp [rzc]; omega)]
end
end Go.Proofs.Ytcleekhdijiefaa
