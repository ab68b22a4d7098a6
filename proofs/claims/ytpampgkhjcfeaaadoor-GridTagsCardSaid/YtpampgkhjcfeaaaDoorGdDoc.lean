/- The document's grid: rows of blocks, by lanes and columns, as they lie in memory, told by one list of blocks; an empty one. Conditions: those typed. -/
import Derived.Test.YtpampgkhjcfeaaaDoorGdMade
import Derived.OwnWalk
namespace Go.Proofs.YtpampgkhjcfeaaaDoor
set_option maxRecDepth 50000
open Go.RowKit Bb

/-- the columns of one lane -/
def lane (c : Nat) (L : List (List Nat)) (i : Nat) : List (List Nat) := (L.drop (i * c)).take c
theorem lane_length {c n i : Nat} {L : List (List Nat)} (hL : L.length = n * c) (hi : i < n) : (lane c L i).length = c := by
  have h1 : (i + 1) * c ≤ n * c := Nat.mul_le_mul_right c hi
  rw [Nat.add_mul, Nat.one_mul] at h1
  unfold lane
  rw [List.length_take, List.length_drop]
  omega
theorem lane_ok {c i : Nat} {L : List (List Nat)} (h : ∀ b ∈ L, okb b) : ∀ b ∈ lane c L i, okb b := fun b hb => h b (List.mem_of_mem_drop (List.mem_of_mem_take hb))
theorem lane_at {c i k : Nat} {L : List (List Nat)} (hk : k < c) : (lane c L i).getD k [] = L.getD (i * c + k) [] := by
  unfold lane
  simp only [List.getD_eq_getElem?_getD]
  rw [List.getElem?_take_of_lt hk, List.getElem?_drop]
theorem lane_set {c i k : Nat} {L : List (List Nat)} (_ : k < c) (x : List Nat) : lane c (L.set (i * c + k) x) i = (lane c L i).set k x := by
  unfold lane
  rw [List.drop_set, if_neg (by omega), show i * c + k - i * c = k by omega, List.take_set]
theorem lane_other {c i j k : Nat} {L : List (List Nat)} (hk : k < c) (h : j ≠ i) (x : List Nat) : lane c (L.set (i * c + k) x) j = lane c L j := by
  unfold lane
  rcases Nat.lt_or_ge i j with hij | hij
  · have h1 : (i + 1) * c ≤ j * c := Nat.mul_le_mul_right c hij
    rw [Nat.add_mul, Nat.one_mul] at h1
    rw [List.drop_set, if_pos (by omega)]
  · have h1 : (j + 1) * c ≤ i * c := Nat.mul_le_mul_right c (by omega)
    rw [Nat.add_mul, Nat.one_mul] at h1
    rw [List.drop_set, if_neg (by omega), List.take_set, List.set_eq_of_length_le]
    rw [List.length_take]; omega
theorem lane_rep {c i n : Nat} (hi : i < n) : lane c (List.replicate (n * c) zb) i = List.replicate c zb := by
  have h1 : (i + 1) * c ≤ n * c := Nat.mul_le_mul_right c hi
  rw [Nat.add_mul, Nat.one_mul] at h1
  unfold lane
  rw [List.drop_replicate, List.take_replicate, show min c (n * c - i * c) = c by omega]

/-- a row of blocks, as a slice -/
def hdr (c g : Nat) : Value := .slice (some ⟨g, 0, none⟩) c c
def hds (c : Nat) (gs : List Nat) : List Value := gs.map (hdr c)
theorem hds_one (c : Nat) (gs : List Nat) : ∀ u ∈ hds c gs, u.oneCell' = true := fun u hu => by
  obtain ⟨g, _, rfl⟩ := List.mem_map.1 hu
  rfl
theorem hds_at (c : Nat) (gs : List Nat) (i : Nat) (hi : i < gs.length) : (hds c gs)[i]? = some (hdr c (gs.getD i 0)) := by
  simp [hds, List.getD_eq_getElem?_getD, List.getElem?_eq_getElem hi]

theorem own_unlike {w : World} {N s n b : Nat} {e t : TypeId} {v : Value} {xs : List Value} {C : Array Value} (h : w.ownsRow N e s v n xs) (hr : RowAt w b t C) (ht : (e == t) = false) : v.ownBlock ≠ some b := by
  rcases h.2 with ⟨rfl, _⟩ | ⟨g, cap, cur, rfl, _, hg, _⟩
  · simp [Value.ownBlock]
  · intro e'
    simp only [Value.ownBlock, Option.some.injEq] at e'
    exact RowAt.unlike hg hr ht e'
theorem wpList_append_of {P : Program} {ops : Array Oper} {rest : List Oper} {o : Oper} {a : Act} {w w' : World} {Q : Exit → Act → World → Prop} (hgd : o.guard = none) (x y : Operand) (t : TypeId) (ho : o.op = .call { callee := .builtin .append, args := #[x, y], argTypes := #[t, t] }) (vx vy v' : Value) (hx : a.eval x = vx) (hy : a.eval y = vy)
    (hr : (Builtin.append_ #[t, t] o.type #[vx, vy]).run P w = .ok v' w') (h : wpList P ops Q rest (a.put o.dst v') w') : wpList P ops Q (o :: rest) a w := wpList_plain hgd fun _ hK => by
  unfold Oper.wp execOp
  simp only [ho, resolve, invoke, builtin, Sem.run_bind, Sem.run_pure, Result.andThen_ok, List.map_toArray, List.map_cons, List.map_nil, hx, hy, hr]
  exact hK _ _ h

theorem hd_info : (Tryd.prog.info? 52).map (fun i => (i.zero, i.size, i.bytes)) = some (some (.slice none 0 0), 1, 24) := by kernel_rfl
/-- the document's grid: a row of its rows' slices, and each row's blocks; all of it made since N -/
structure DocAt (w : World) (N : Nat) (v : Value) (c : Nat) (gs : List Nat) (L : List (List Nat)) : Prop where
  own : w.ownsRow N 52 1 v gs.length (hds c gs)
  ge : ∀ g ∈ gs, N ≤ g
  nd : gs.Nodup
  blk : ∀ i, i < gs.length → BlkAt w (gs.getD i 0) (lane c L i)
  ok : ∀ b ∈ L, okb b
  len : L.length = gs.length * c
theorem getD_mem {gs : List Nat} {i : Nat} (hi : i < gs.length) : gs.getD i 0 ∈ gs := by
  rw [List.getD_eq_getElem?_getD, List.getElem?_eq_getElem hi]
  exact List.getElem_mem hi
section
variable {w w' : World} {N c : Nat} {v : Value} {gs : List Nat} {L : List (List Nat)}
theorem DocAt.own_ge (h : DocAt w N v c gs L) : ∀ k, v.ownBlock = some k → N ≤ k := fun k hk => (h.own.lt k hk).1
theorem DocAt.kept {M : Nat → Prop} (h : DocAt w N v c gs L) (hk : Kept M w w') (hM : ∀ k, M k → k < N) : DocAt w' N v c gs L :=
  ⟨own_kept h.own hk fun k hv hm => by have := h.own_ge k hv; have := hM k hm; omega, h.ge, h.nd, fun i hi => RowAt.kept (h.blk i hi) hk fun hm => by have := h.ge _ (getD_mem hi); have := hM _ hm; omega, h.ok, h.len⟩
theorem DocAt.step (h : DocAt w N v c gs L) (hb : Below w.heap.size w w') : DocAt w' N v c gs L := h.kept (M := fun _ => False) (Kept.of_below hb) fun _ h => h.elim
theorem DocAt.drew (h : DocAt w N v c gs L) : DocAt w.drew N v c gs L := ⟨h.own, h.ge, h.nd, h.blk, h.ok, h.len⟩
theorem DocAt.nil (w : World) (N c : Nat) : DocAt w N (.slice none 0 0) c [] [] :=
  ⟨⟨rfl, .inl ⟨rfl, rfl⟩⟩, fun _ h => absurd h (by simp), List.nodup_nil, fun i h => absurd h (by simp), fun _ h => absurd h (by simp), by simp⟩
/-- where row i lies, and what its slice is -/
theorem DocAt.form (h : DocAt w N v c gs L) : ∃ A k, v = .slice A gs.length k ∧ Reads w w.heap.size A (hds c gs) := by
  obtain ⟨A, k, rfl, _, _, _⟩ := own_form h.own
  exact ⟨A, k, rfl, Reads.of_own h.own⟩
theorem gs_other {gs : List Nat} (h : gs.Nodup) {i j : Nat} (hi : i < gs.length) (hj : j < gs.length) (hij : j ≠ i) : gs.getD j 0 ≠ gs.getD i 0 := by
  rw [List.getD_eq_getElem?_getD, List.getD_eq_getElem?_getD, List.getElem?_eq_getElem hi, List.getElem?_eq_getElem hj]
  intro e
  exact hij ((List.getElem_inj h).1 e)
/-- a block is stored -/
theorem DocAt.store (h : DocAt w N v c gs L) {i k : Nat} (hi : i < gs.length) (hk : k < c) {x : List Nat} (hx : okb x) : ∃ w', (storeVar 29 ⟨gs.getD i 0, k * 128, none⟩ (.agg (wq x))).run Tryd.prog w = .ok () w' ∧ DocAt w' N v c gs (L.set (i * c + k) x) ∧ Kept (fun j => j = gs.getD i 0) w w' := by
  have hB := h.blk i hi
  have hll := lane_length h.len hi
  have hK : Kept (fun j => j = gs.getD i 0) w (w.setRow (gs.getD i 0) (bcs ((lane c L i).set k x)).toArray) := ⟨rfl, rfl, rfl, Nat.le_of_eq (setRow_size _ _ _).symm, fun j _ hj => setRow_other _ _ _ _ fun e => hj e⟩
  refine ⟨_, hB.store (lane_ok h.ok) k (by omega) hx, ⟨?_, h.ge, h.nd, ?_, okl_set h.ok _ hx, ?_⟩, hK⟩
  · exact own_kept h.own hK fun j hv hj => by subst hj; exact own_unlike h.own hB (by rfl) hv
  · intro j hj
    by_cases e : j = i
    · subst e
      rw [lane_set hk]
      exact RowAt.setRow hB _
    · rw [lane_other hk e]
      exact RowAt.kept (h.blk j hj) hK (gs_other h.nd hi hj e)
  · rw [List.length_set]; exact h.len
/-- one more row -/
theorem DocAt.more (h : DocAt w N v c gs (List.replicate (gs.length * c) zb)) (hN : N ≤ w.heap.size) {b g : Nat} (hb : RowAt w b 52 #[hdr c g]) (hg : BlkAt w g (List.replicate c zb)) (hgN : N ≤ g) (hgn : g ∉ gs) (hl : gs.length ≤ 1000000) (ty : TypeId) :
    ∃ v' w', (Builtin.append_ #[42, 42] ty #[v, .slice (some ⟨b, 0, none⟩) 1 1]).run Tryd.prog w = .ok v' w' ∧ DocAt w' N v' c (gs ++ [g]) (List.replicate ((gs ++ [g]).length * c) zb) ∧ Below N w w' := by
  obtain ⟨i, hi, hz, hs, hby⟩ := info_parts hd_info
  obtain ⟨v', w', hr, ho, hgr, _, _⟩ := run_append_own_at (P := Tryd.prog) w N 42 ty 52 i _ 1 24 Tryd.underlying42 hi hz hs hby rfl (by decide) v gs.length (hds c gs) h.own ⟨b, 0, none⟩ 1 1 [hdr c g] rfl
    (fun j u hj => by
      rw [Go.WideShapes.add_plain, Nat.zero_add, hb.cell j]
      simpa using hj) (fun u hu => by rw [List.mem_singleton.1 hu]; rfl) (by unfold maxLen; omega) (by omega) hN
  have hK : Kept (fun k => v.ownBlock = some k) w w' := (Kept.refl _ w).grown hgr fun k hk => .inl hk
  refine ⟨v', w', hr, ⟨?_, ?_, ?_, ?_, zeros_ok _, by simp⟩, (Below.refl N w).grown hgr hN (fun k hk => (h.own.lt k hk).1)⟩
  · rw [show hds c (gs ++ [g]) = hds c gs ++ [hdr c g] by simp [hds], List.length_append]
    exact ho
  · intro x hx
    rcases List.mem_append.1 hx with hx | hx
    · exact h.ge x hx
    · rw [List.mem_singleton.1 hx]; exact hgN
  · rw [List.nodup_append]
    refine ⟨h.nd, by simp, ?_⟩
    intro x hx y hy e
    rw [List.mem_singleton.1 hy] at e
    exact hgn (e ▸ hx)
  · intro j hj
    rw [lane_rep hj]
    rw [List.length_append] at hj
    rcases Nat.lt_or_ge j gs.length with hlt | hge
    · have hB := h.blk j hlt
      rw [lane_rep hlt] at hB
      rw [show (gs ++ [g]).getD j 0 = gs.getD j 0 by rw [List.getD_eq_getElem?_getD, List.getD_eq_getElem?_getD, List.getElem?_append_left hlt]]
      exact RowAt.kept hB hK (own_unlike h.own hB (by rfl))
    · obtain rfl : j = gs.length := by simp at hj; omega
      rw [show (gs ++ [g]).getD gs.length 0 = g by simp [List.getD_eq_getElem?_getD]]
      exact RowAt.kept hg hK (own_unlike h.own hg (by rfl))
end
end Go.Proofs.YtpampgkhjcfeaaaDoor
