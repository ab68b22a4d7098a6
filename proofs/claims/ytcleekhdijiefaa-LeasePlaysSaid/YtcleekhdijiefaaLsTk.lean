/- What Take of a lease comes to, by the document's row and by the lease. Conditions: those typed. -/
import Derived.Test.YtcleekhdijiefaaLsPo
import Derived.Test.YtcleekhdijiefaaLag
namespace Go.Proofs.Ytcleekhdijiefaa
set_option maxRecDepth 50000
open Go.RowKit Bb

/-- why nothing is taken -/
def Bad (closed : Bool) (left n z : Int) : Prop := closed = true ∧ z = 12 ∨ closed = false ∧ n < 0 ∧ z = 1 ∨ closed = false ∧ 0 ≤ n ∧ left < n ∧ z = 4
/-- the row behind it, and the error -/
def Tk (r : Rz) (left n : Int) (zs : List Nat) (hi : Nat) (cl : Bool) (z : Int) : Prop := Bad r.closed left n z ∧ zs = r.zs ∧ hi = r.high ∧ cl = r.closed ∨ r.closed = false ∧ z = 0 ∧ ∃ k : Nat, n = k ∧ n ≤ left ∧ zs = r.zs ++ [k] ∧ hi = max r.high (sm r.zs + k) ∧ cl = false
theorem bad_not (closed : Bool) (left n z : Int) (h : Bad closed left n z) : z ≠ 0 := by
  rcases h with ⟨_, rfl⟩ | ⟨_, _, rfl⟩ | ⟨_, _, _, rfl⟩ <;> decide
theorem bad_or (closed : Bool) (left n : Int) : (∃ z, Bad closed left n z) ∨ closed = false ∧ 0 ≤ n ∧ n ≤ left := by
  cases closed
  · by_cases h1 : n < 0
    · exact .inl ⟨1, .inr (.inl ⟨rfl, h1, rfl⟩)⟩
    · by_cases h2 : left < n
      · exact .inl ⟨4, .inr (.inr ⟨rfl, by omega, h2, rfl⟩)⟩
      · exact .inr ⟨rfl, by omega, by omega⟩
  · exact .inl ⟨12, .inl ⟨rfl, rfl⟩⟩
theorem bad_same {closed : Bool} {left n z z' : Int} (h : Bad closed left n z) (h' : Bad closed left n z') : z = z' := by
  rcases h with ⟨h1, rfl⟩ | ⟨h1, h2, rfl⟩ | ⟨h1, h2, h3, rfl⟩ <;> rcases h' with ⟨k1, rfl⟩ | ⟨k1, k2, rfl⟩ | ⟨k1, k2, k3, rfl⟩ <;> first | rfl | (exfalso; rw [h1] at k1; cases k1; done) | omega
theorem rtk_any (r : Rz) (left : Nat) (n : Int) (hleft : left ≤ 1000000) (hl : r.zs.length ≤ 100000) (hu : sm r.zs ≤ 1000000) : ∃ zs hi cl z, Tk r left n zs hi cl z ∧
    ∀ (w : World) (N : Nat), w.ownsRow N 3 1 (.slice r.A r.zs.length r.c) r.zs.length (ints r.zs) → N ≤ w.heap.size →
    Calls Try.prog 9 #[.agg (rzc r).toArray, .int .i64 (left : Int), .int .i64 n] w fun e w' => ∃ A c, e = .returned (.tuple #[.agg (rzc ⟨A, c, zs, hi, cl⟩).toArray, .int .i64 z]) ∧ w'.ownsRow N 3 1 (.slice A zs.length c) zs.length (ints zs) ∧ Below w.heap.size w w' := by
  rcases bad_or r.closed left n with ⟨z, hz⟩ | ⟨hc, h0, h1⟩
  · refine ⟨r.zs, r.high, r.closed, z, .inl ⟨hz, rfl, rfl, rfl⟩, fun w N ho hN => (rtake_bad r.A r.zs.length r.c r.high r.closed left n z hz w).mono ?_⟩
    rintro e w' ⟨rfl, hb⟩
    exact ⟨r.A, r.c, rfl, own_leaves ho (.below hb _), hb⟩
  · obtain ⟨k, rfl⟩ := Int.eq_ofNat_of_zero_le h0
    refine ⟨r.zs ++ [k], max r.high (sm r.zs + k), r.closed, 0, .inr ⟨hc, rfl, k, rfl, h1, rfl, rfl, hc⟩, fun w N ho hN => ?_⟩
    have := rtake_any r.A r.c r.high r.zs left k (by omega) hleft w (Reads.of_own ho) hl hu
    rw [← hc] at this
    refine this.mono ?_
    rintro e w' ⟨A', c', rfl, ho', hb⟩
    exact ⟨A', c', rfl, own_base' ho' hN, hb⟩
/-- what a statement's operations yield: a row that was made, a pair with it, a new variable -/
def MadeR (N : Nat) (zs : List Nat) (hi : Nat) (cl : Bool) : Value → World → Prop := fun v w => ∃ A c, v = .agg (rzc ⟨A, c, zs, hi, cl⟩).toArray ∧ w.ownsRow N 3 1 (.slice A zs.length c) zs.length (ints zs)
def MadeT (N : Nat) (zs : List Nat) (hi : Nat) (cl : Bool) (z : Int) : Value → World → Prop := fun v w => ∃ A c, v = .tuple #[.agg (rzc ⟨A, c, zs, hi, cl⟩).toArray, .int .i64 z] ∧ w.ownsRow N 3 1 (.slice A zs.length c) zs.length (ints zs)
def PairT (zs : List Nat) (hi : Nat) (cl : Bool) (z : Int) : Value → World → Prop := fun v _ => ∃ A c, v = .tuple #[.agg (rzc ⟨A, c, zs, hi, cl⟩).toArray, .int .i64 z] ∧ True
def FreshR (N : Nat) : Value → World → Prop := fun v w => ∃ q, v = .pointer (some ⟨q, 0, none⟩) ∧ N ≤ q ∧ RowAt w q 32 #[.slice none 0 0, .int .i64 0, .bool false]
def HasR (M N : Nat) (zs : List Nat) (hi : Nat) (cl : Bool) : Value → World → Prop := fun v w => ∃ q A c, v = .pointer (some ⟨q, 0, none⟩) ∧ N ≤ q ∧ RowAt w q 32 (rzc ⟨A, c, zs, hi, cl⟩).toArray ∧ w.ownsRow M 3 1 (.slice A zs.length c) zs.length (ints zs)
theorem stable_mader (N : Nat) (zs : List Nat) (hi : Nat) (cl : Bool) : Stable (MadeR N zs hi cl) := fun _ _ _ ⟨A, c, e, h⟩ hb => ⟨A, c, e, own_leaves h (.below hb _)⟩
theorem stable_madet (N : Nat) (zs : List Nat) (hi : Nat) (cl : Bool) (z : Int) : Stable (MadeT N zs hi cl z) := fun _ _ _ ⟨A, c, e, h⟩ hb => ⟨A, c, e, own_leaves h (.below hb _)⟩
theorem stable_pairt (zs : List Nat) (hi : Nat) (cl : Bool) (z : Int) : Stable (PairT zs hi cl z) := fun _ _ _ h _ => h
theorem stable_freshr (N : Nat) : Stable (FreshR N) := fun _ _ _ ⟨q, e, h1, h2⟩ hb => ⟨q, e, h1, h2.step hb⟩
theorem stable_hasr (M N : Nat) (zs : List Nat) (hi : Nat) (cl : Bool) : Stable (HasR M N zs hi cl) := fun _ _ _ ⟨q, A, c, e, h1, h2, h3⟩ hb => ⟨q, A, c, e, h1, h2.step hb, own_leaves h3 (.below hb _)⟩
section
variable {P : Program} {ops : List Oper} {ds es : List (Value → World → Prop)} {n : Nat} {o : Oper} {a : Act} {w0 w w' : World} {Q : Exit → Act → World → Prop} {p : Value → World → Prop} {ev : Operand → Value} {x y : Operand}
theorem op_made {v : Value} (h : (execOp a.eval o).run P w = .ok (.value v) w') (hp : p v w') (hb : Below w.heap.size w w') : Does P p o a w Q := by
  unfold Does Oper.wp
  rw [h]
  exact ⟨v, rfl, hp, hb⟩
theorem turns_store {t : TypeId} {ad : Addr} {v : Value} (ho : o.op = .store t x y) (hx : a.eval x = .pointer (some ad)) (hy : a.eval y = v) (hs : (storeVar t ad v).run P w = .ok () w') (hn : Ds es n undef w') (hb : Below w0.heap.size w0 w')
    (hc : ∀ i o' d, ops[i]? = some o' → o'.dst = some d → i ≠ n → Ds ds i (a.tmps.getD d undef) w → Ds es i (a.tmps.getD d undef) w') : TurnsAll P ops ds es n o a w0 w Q := by
  unfold TurnsAll Oper.wp execOp
  simp only [ho, hx, hy, Instr.storeAt, Instr.sureAddr, Sem.run_bind, Sem.run_pure, Result.andThen_ok, hs]
  exact ⟨undef, rfl, hn, hb, hc⟩
theorem op_call3 {f : FuncId} {x y z : Operand} {ts : Array TypeId} {v1 v2 v3 : Value} (ho : o.op = .call { callee := .value (.func f), args := #[x, y, z], argTypes := ts }) (he : ∀ (args : Array Value) (w : World), (callFunc f args).run P w = .ok (.enter f args) w)
    (hx : a.eval x = v1) (hy : a.eval y = v2) (hz : a.eval z = v3) (hc : Calls P f #[v1, v2, v3] w fun e w' => ∃ v, e = .returned v ∧ p v w' ∧ Below w.heap.size w w') : Does P p o a w Q := by
  subst hx; subst hy; subst hz
  exact op_call ho he hc
theorem extract_run {k : Nat} {vs : Array Value} {v : Value} (hop : o.op = .extract x k) (hx : ev x = .tuple vs) (hv : vs[k]? = some v) : (execOp ev o).run P w = .ok (.value v) w := by
  simp [execOp, hop, hx, Instr.extract, hv, go_sem]
theorem alloc_run (hop : o.op = .alloc 32) : (execOp ev o).run Try.prog w = .ok (.value (.pointer (some ⟨w.heap.size, 0, none⟩))) (w.alloc (.cells #[.slice none 0 0, .int .i64 0, .bool false] 32)) := by
  simp [execOp, hop, go_sem]
end
theorem actf_run {w : World} {b : Nat} {ev : Operand → Value} {x : Operand} {o : Oper} {k : Nat} (hop : o.op = .fieldAddr 37 x k) (hk : k = 1 ∨ k = 2) (hx : ev x = .pointer (some ⟨b, 0, none⟩)) : (execOp ev o).run Try.prog w = .ok (.value (.pointer (some ⟨b, k, none⟩))) w := by
  rcases hk with rfl | rfl
  all_goals
    simp [execOp, hop, hx, go_sem]
theorem ixrow_run {w : World} {b i : Nat} {ev : Operand → Value} {x y : Operand} {o : Oper} (hop : o.op = .indexAddr 33 x y) (hx : ev x = .pointer (some ⟨b, 0, none⟩)) (hy : ev y = .int .i64 (i : Int)) (hi : i < 3) : (execOp ev o).run Try.prog w = .ok (.value (.pointer (some ⟨b, i * 3, none⟩))) w := by
  simp [execOp, hop, hx, hy, go_sem]
  intro h
  omega
/-- the lease's Take -/
theorem ltk_bad {W w : World} {a B h ob : Nat} {L : List Ls} (H : Pa W w a B h ob L) (k : Nat) (hk : k < L.length) (n z : Int) (hz : Bad L[k].closed ((B : Int) - ht L) n z) :
    Calls Try.prog 10 #[.pointer (some ⟨L[k].b, 0, none⟩), .int .i64 n] w fun e w' => e = .returned (.tuple #[.pointer none, .int .i64 z]) ∧ ∃ q, w' = w.drewN q := by
  have hrow := (H.ls k hk).row
  rcases hz with ⟨hc, rfl⟩ | ⟨hc, hn, rfl⟩ | ⟨hc, hn0, hn, rfl⟩ <;> rw [hc] at hrow
  · exact (ltake_closed hrow n).mono fun e w' h => ⟨h.1, 0, h.2⟩
  · exact (ltake_neg hrow n hn).mono fun e w' h => ⟨h.1, 0, h.2⟩
  · exact ltake_full hrow H.are n hn0 hn (by have := H.fit; omega) H.fit.1
theorem ltk_good {W w : World} {a B h ob : Nat} {L : List Ls} (H : Pa W w a B h ob L) (k : Nat) (hk : k < L.length) (hc : L[k].closed = false) (n : Nat) (hn : (n : Int) ≤ (B : Int) - ht L) (hct : ct L ≤ 100) :
    Calls Try.prog 10 #[.pointer (some ⟨L[k].b, 0, none⟩), .int .i64 (n : Int)] w fun e w' => ∃ p g h' x v, e = .returned (.tuple #[.pointer (some ⟨p, 0, none⟩), .int .i64 0]) ∧ PceAt w' p a n true v ∧ Pa W w' a B h' ob (L.set k x) ∧ x = L[k].more p g x.v n ∧ Kept (mine a L[k]) w w' := by
  have hf := H.fit
  have hge := ht_ge L k hk
  have hcg := ct_ge L k hk
  refine (ltake_is (H.ls k hk) hc H.are H.below.size (by omega) n (by omega) (by omega) (by omega) (by omega)).mono ?_
  rintro e w' ⟨p, g, v, rfl, hI, hP, hA, hK, hap⟩
  have e1 := ht_set L k hk (L[k].more p g v n)
  have e2 := ct_set L k hk (L[k].more p g v n)
  rw [hs_more] at e1
  rw [more_len] at e2
  refine ⟨p, g, max h (ht L + n), L[k].more p g v n, _, rfl, hP, H.turn k hk hI rfl hap hK ?_ (by omega), rfl, hK⟩
  rw [show ht (L.set k (L[k].more p g v n)) = ht L + n by omega, show ct (L.set k (L[k].more p g v n)) = ct L + 1 by omega]
  exact hA
/-- the rows tell of the leases still -/
theorem like_more {x : Ls} {r r' : Rz} {p g n : Nat} {v : Value} (h : Like x r) (hz : r'.zs = r.zs ++ [n]) (hh : r'.high = max r.high (sm r.zs + n)) (hc : r'.closed = false) (hx : x.closed = false) : Like (x.more p g v n) r' := by
  obtain ⟨h1, h2, h3, h4, _⟩ := h
  refine ⟨?_, ?_, ?_, ?_, fun e => ?_⟩
  · rw [hs_more, hz, sm_append, ← h1]; simp [sm]
  · rw [more_len, hz, ← h2]; simp
  · rw [hh, more_peak, h3, h1]
  · rw [hc]; exact hx.symm
  · have e' : x.closed = true := e
    rw [hx] at e'; cases e'
/-- a lease is closed -/
theorem lshut_any {W w : World} {a B h ob : Nat} {L : List Ls} (H : Pa W w a B h ob L) (k : Nat) (hk : k < L.length) (hc : L[k].closed = false) (hct : ct L ≤ 100) :
    Calls Try.prog 12 #[.pointer (some ⟨L[k].b, 0, none⟩)] w fun e w' => e = .returned (.int .i64 0) ∧ Pa W w' a B h ob (L.set k L[k].shut) ∧ Kept (mine a L[k]) w w' := by
  have hf := H.fit
  have hge := ht_ge L k hk
  have hcg := ct_ge L k hk
  refine (lclose_any (H.ls k hk) hc H.are hge (by omega) hcg (by omega)).mono ?_
  rintro e w' ⟨rfl, hA, hI, hK⟩
  have e1 := ht_set L k hk L[k].shut
  have e2 := ct_set L k hk L[k].shut
  have e3 : hs L[k].shut.qs = 0 := rfl
  have e4 : L[k].shut.qs.length = 0 := rfl
  refine ⟨rfl, H.turn k hk hI rfl (fun y _ hap => ⟨hap.b, fun j hj => by simp [Ls.shut, Value.ownBlock] at hj, fun i j hi => absurd hi (by simp [Ls.shut])⟩) hK ?_ (by omega), hK⟩
  rw [show ht (L.set k L[k].shut) = ht L - hs L[k].qs by omega, show ct (L.set k L[k].shut) = ct L - L[k].qs.length by omega]
  exact hA
theorem like_shut {x : Ls} {r : Rz} (h : Like x r) : Like x.shut ⟨none, 0, [], r.high, true⟩ := ⟨rfl, rfl, h.2.2.1, rfl, fun _ => rfl⟩
theorem like_again {x : Ls} {r : Rz} (h : Like x r) (hx : x.closed = true) : Like x ⟨none, 0, [], r.high, true⟩ := by
  have hq := h.2.2.2.2 hx
  exact ⟨by rw [hq]; rfl, by rw [hq]; rfl, h.2.2.1, hx.symm, fun _ => hq⟩
theorem shut_same (L : List Ls) (k : Nat) (hk : k < L.length) : lp (L.set k L[k].shut) = lp L := by
  unfold lp
  rw [List.map_set]
  exact List.ext_getElem (by simp) fun j h1 h2 => by
    rw [List.getElem_set]
    split
    · rename_i e; subst e; simp [Ls.shut]
    · rfl
theorem build_row {w : World} {ev : Operand → Value} {x : Operand} {o : Oper} {hi : Nat} (hop : o.op = .build 32 #[(1, x), (2, .const (.bool true))]) (hx : ev x = .int .i64 (hi : Int)) (hc : ev (.const (.bool true)) = .bool true) : (execOp ev o).run Try.prog w = .ok (.value (.agg (rzc ⟨none, 0, [], hi, true⟩).toArray)) w := by
  simp [execOp, hop, hx, hc, go_sem]
  rfl
theorem ixls_run {w : World} {b i : Nat} {ev : Operand → Value} {x y : Operand} {o : Oper} (hop : o.op = .indexAddr 29 x y) (hx : ev x = .pointer (some ⟨b, 0, none⟩)) (hy : ev y = .int .i64 (i : Int)) (hi : i < 3) : (execOp ev o).run Try.prog w = .ok (.value (.pointer (some ⟨b, i, none⟩))) w := by
  simp [execOp, hop, hx, hy, go_sem]
  intro h
  omega
end Go.Proofs.Ytcleekhdijiefaa
