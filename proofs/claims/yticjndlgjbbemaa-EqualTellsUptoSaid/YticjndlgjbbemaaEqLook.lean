/- What was looked at, in memory; one more look (the method at), by its contract. Conditions: the place lies within both texts; fewer than 2^44 places were looked at. -/
import Derived.Test.YticjndlgjbbemaaEqPure
import Derived.Test.YticjndlgjbbemaaArr
namespace Go.Proofs.Yticjndlgjbbemaa
set_option maxRecDepth 50000
open Go.RowKit

/-- the places below n, as cells -/
def stp (n : Nat) : List Value := (List.range n).map fun i : Nat => Value.int .i64 (i : Int)
theorem stp_length (n : Nat) : (stp n).length = n := by simp [stp]
theorem stp_next (n : Nat) : stp (n + 1) = stp n ++ [.int .i64 (n : Int)] := by unfold stp; rw [List.range_succ, List.map_append]; rfl
theorem stp_at (n k : Nat) (h : k < (stp n).length) : (stp n)[k] = .int .i64 (k : Int) := by simp [stp]
theorem eq_info_step : (Try.prog.info? 28).map (fun i => (i.zero, i.size, i.bytes)) = some (some (.agg #[.int .i64 0]), 1, 8) := by kernel_rfl

/-- block F tells m looks, and the n places that were kept; all that lies since w0 -/
structure Lk (w0 w : World) (F m : Nat) (kept : Bool) (v : Value) (n : Nat) : Prop where
  row : RowAt w F 38 #[.int .i64 (m : Int), .bool kept, v]
  own : w.ownsRow w0.heap.size 28 1 v n (stp n)
  apart : v.ownBlock ≠ some F
  new : w0.heap.size ≤ F
  below : Below w0.heap.size w0 w
section
variable {w0 w w' : World} {F m n : Nat} {kept : Bool} {v : Value}
theorem Lk.at_ (h : Lk w0 w F m kept v n) : w.cell? ⟨F, 0, none⟩ = some (.int .i64 (m : Int)) ∧ w.cell? ⟨F, 1, none⟩ = some (.bool kept) ∧ w.cell? ⟨F, 2, none⟩ = some v ∧ w.frozen? ⟨F, 0, none⟩ = false ∧ w.frozen? ⟨F, 1, none⟩ = false ∧ w.frozen? ⟨F, 2, none⟩ = false :=
  ⟨by rw [h.row.cell 0]; rfl, by rw [h.row.cell 1]; rfl, by rw [h.row.cell 2]; rfl, h.row.frozen 0, h.row.frozen 1, h.row.frozen 2⟩
theorem Lk.drewN (h : Lk w0 w F m kept v n) (q : Nat) : Lk w0 (w.drewN q) F m kept v n := ⟨h.row, h.own, h.apart, h.new, ⟨h.below.os, h.below.tape, h.below.output, h.below.size, h.below.block⟩⟩
theorem Lk.setM (h : Lk w0 w F m kept v n) (m' : Nat) : Lk w0 (w.setCell ⟨F, 0, none⟩ (.int .i64 (m' : Int))) F m' kept v n :=
  ⟨h.row.setCell 0 _, own_kept (M := fun x => x = F) h.own ((Kept.refl (fun x => x = F) w).set (.inl rfl) _) (fun k hk e => h.apart (by rw [hk, e])), h.apart, h.new, h.below.setCell h.new _⟩
theorem Lk.more (h : Lk w0 w F m kept v n) {v' : Value} {o : Obj} (ho : w'.ownsRow w0.heap.size 28 1 v' (n + 1) (stp (n + 1))) (hg : (w.alloc o).grownBy w' v.ownBlock) (hat : v'.ownBlock = v.ownBlock ∨ v'.ownBlock = some (w.alloc o).heap.size) :
    RowAt w' F 38 #[.int .i64 (m : Int), .bool kept, v] ∧ Lk w0 (w'.setCell ⟨F, 2, none⟩ v') F m kept v' (n + 1) := by
  have hF := h.row.lt
  have hr : RowAt w' F 38 #[.int .i64 (m : Int), .bool kept, v] := (hg.block F (by simp; omega) (fun e => h.apart e.symm)).trans (h.row.alloc o)
  have hap : v'.ownBlock ≠ some F := by
    rcases hat with e | e
    · rw [e]; exact h.apart
    · rw [e]; simp; omega
  refine ⟨hr, hr.setCell 2 _, own_kept (M := fun x => x = F) ho ((Kept.refl (fun x => x = F) w').set (.inl rfl) _) (fun k hk e => hap (by rw [hk, e])), hap, h.new, ?_⟩
  refine Below.setCell ?_ h.new _
  exact (h.below.alloc h.below.size o).grown hg (by simp; have := h.below.size; omega) (fun k hk => (h.own.lt k hk).1)
theorem Lk.new_ (w : World) (kept : Bool) : Lk w (w.alloc (.cells #[.int .i64 0, .bool kept, .slice none 0 0] 38)) w.heap.size 0 kept (.slice none 0 0) 0 :=
  ⟨RowAt.new _ _ _, World.ownsRow_nil _ _ _ _, by simp [Value.ownBlock], Nat.le_refl _, (Below.refl _ w).alloc (Nat.le_refl _) _⟩
end

set_option maxHeartbeats 1600000 in
theorem look_any {w0 w : World} {F m n : Nat} {v : Value} (h : Lk w0 w F m false v n) (a b : ByteArray) (i : Nat) (hi : i < a.size) (hj : i < b.size) (hm : m ≤ 1152921504606846976) :
    Calls Try.prog 13 #[.pointer (some ⟨F, 0, none⟩), .string a, .string b, .int .i64 (i : Int)] w fun e w' => e = .returned (.int .u8 ((bt a i ^^^ bt b i : Nat) : Int)) ∧ Lk w0 w' F (m + 1) false v n := by
  obtain ⟨x0, x1, x2, f0, f1, f2⟩ := h.at_
  have HL := Lib.hid (h.setM (m + 1))
  clear h
  obtain ⟨x, hx⟩ : ∃ x : Nat, x = bt a i := ⟨_, rfl⟩
  obtain ⟨y, hy⟩ : ∃ y : Nat, y = bt b i := ⟨_, rfl⟩
  have hxI : ((a[i]'hi).toNat : Int) = (x : Int) := by rw [bt_at a i hi, hx]
  have hyI : ((b[i]'hj).toNat : Int) = (y : Int) := by rw [bt_at b i hj, hy]
  have hxb : x < 256 := by rw [hx]; exact bt_lt a i
  have hyb : y < 256 := by rw [hy]; exact bt_lt b i
  have hxor := u8_xor_nat x y hxb hyb
  rw [← hx, ← hy]
  clear hx hy
  generalize x ^^^ y = z at *
  have em : ((m + 1 : Nat) : Int) = (m : Int) + 1 := by omega
  rw [em] at HL
  go_enter Try.func13, Try.ntmps13
  go_wp2
  go_quiet (fail)
  go_wp2
  go_ret
  exact ⟨rfl, HL.out.drewN _⟩

set_option maxHeartbeats 1600000 in
theorem look_kept {w0 w : World} {F m n : Nat} {v : Value} (h : Lk w0 w F m true v n) (a b : ByteArray) (hi : n < a.size) (hj : n < b.size) (ha : a.size ≤ 17592186044416) (hm : m ≤ 1152921504606846976) :
    Calls Try.prog 13 #[.pointer (some ⟨F, 0, none⟩), .string a, .string b, .int .i64 (n : Int)] w fun e w' => e = .returned (.int .u8 ((bt a n ^^^ bt b n : Nat) : Int)) ∧ ∃ v', Lk w0 w' F (m + 1) true v' (n + 1) := by
  obtain ⟨i0, hi0, hz0, hz1, hz2⟩ := info_parts eq_info_step
  obtain ⟨x0, x1, x2, f0, f1, f2⟩ := h.at_
  have hb := h.below.size
  obtain ⟨A, c, rfl, hl, _, _⟩ := own_form h.own
  clear hl
  have HL := Lib.hid (h.setM (m + 1))
  clear h
  obtain ⟨x, hx⟩ : ∃ x : Nat, x = bt a n := ⟨_, rfl⟩
  obtain ⟨y, hy⟩ : ∃ y : Nat, y = bt b n := ⟨_, rfl⟩
  have hxI : ((a[n]'hi).toNat : Int) = (x : Int) := by rw [bt_at a n hi, hx]
  have hyI : ((b[n]'hj).toNat : Int) = (y : Int) := by rw [bt_at b n hj, hy]
  have hxb : x < 256 := by rw [hx]; exact bt_lt a n
  have hyb : y < 256 := by rw [hy]; exact bt_lt b n
  have hxor := u8_xor_nat x y hxb hyb
  rw [← hx, ← hy]
  clear hx hy
  generalize x ^^^ y = z at *
  have em : ((m + 1 : Nat) : Int) = (m : Int) + 1 := by omega
  rw [em] at HL
  go_enter Try.func13, Try.ntmps13
  go_wp2_with (at_builtin; refine wpList_append_own_at _ rfl (.tmp 24) (.tmp 27) 23 rfl w0.heap.size 28 i0 (.agg #[.int .i64 0]) 1 8 Try.underlying23 hi0 hz0 hz1 hz2 rfl (by decide) _ n (stp n) rfl (HL.out.own.alloc _) ⟨w.heap.size, 0, none⟩ 1 1 [.int .i64 (n : Int)] rfl rfl ?c1 ?c2 ?c3 ?c4 ?c5 ?_)
  case c1 => exact fun j u hj => cell_one_new (w.setCell ⟨F, 0, none⟩ (.int .i64 ((m : Int) + 1))) _ _ j u hj |> fun h => by simpa [World.setCell] using h
  case c2 => intro u hu; simp at hu; subst hu; rfl
  case c3 => unfold maxLen; omega
  case c4 => omega
  case c5 => simp; omega
  intro v' w2 ho2 hg2 hq2 hat2
  obtain ⟨hr, hQ⟩ := HL.out.more (by rw [stp_next]; exact ho2) hg2 (by simpa using hat2)
  have HQ := Lib.hid hQ
  obtain ⟨A', c', rfl, hl', _, _⟩ := own_form ho2
  have y2 : w2.cell? ⟨F, 2, none⟩ = some (.slice A n c) := by rw [hr.cell 2]; rfl
  have y3 := hr.frozen 2
  clear hr hQ ho2 hg2 hq2 hat2 hl' x0 x1 x2 f0 f1 f2 HL
  go_wp2
  go_quiet (fail)
  go_wp2
  go_ret
  exact ⟨rfl, _, HQ.out.drewN _⟩
end Go.Proofs.Yticjndlgjbbemaa
