/- SizeKept's body: it returns true, and old memory is as it was. Condition: the list reads as a list of ints. -/
import Derived.Test.YtphgcgoobclakaaLaws
namespace Go.Proofs.Ytphgcgoobclakaa
open Go.ChangeShapes Go.WideShapes Go.ChangeAt Go.RowKit

theorem rev_step (zs : List Int) (m : Nat) (h : m < zs.length) : (zs.drop m).reverse = (zs.drop (m + 1)).reverse ++ [zs[m]] := by
  rw [List.drop_eq_getElem_cons h, List.reverse_cons]
theorem i64s_append (a b : List Int) : i64s (a ++ b) = i64s a ++ i64s b := by simp [i64s]
theorem allIn_rev (zs : List Int) : allIn zs.reverse = allIn zs := by unfold allIn; rw [List.all_reverse]
theorem natsOf_rev (zs : List Int) : natsOf zs.reverse = (natsOf zs).reverse := by unfold natsOf; rw [List.map_reverse]
theorem prod_rev : ∀ xs : List Nat, prodOf xs.reverse = prodOf xs
  | [] => rfl
  | x :: xs => by
    rw [List.reverse_cons, prod_append, prod_rev xs]
    show prodOf xs * (x * 1) = x * prodOf xs
    rw [Nat.mul_one, Nat.mul_comm]
theorem sum_rev (xs : List Nat) : xs.reverse.sum = xs.sum := List.sum_reverse xs
theorem kept_rev (zs : List Int) : sumN zs.reverse = sumN zs ∧ sumE zs.reverse = sumE zs ∧ proN zs.reverse = proN zs ∧ proE zs.reverse = proE zs := by
  unfold sumN sumE proN proE
  rw [allIn_rev, natsOf_rev, prod_rev, sum_rev]
  exact ⟨rfl, rfl, rfl, rfl⟩
theorem fit_bound (p : Nat) : 0 ≤ fitN p ∧ fitN p ≤ 4611686018427387904 := by unfold fitN; split <;> omega
theorem kept_bound (zs : List Int) : 0 ≤ sumN zs ∧ sumN zs ≤ 4611686018427387904 ∧ 0 ≤ proN zs ∧ proN zs ≤ 4611686018427387904 := by
  have h1 := fit_bound (natsOf zs).sum
  have h2 := fit_bound (prodOf (natsOf zs))
  unfold sumN proN
  split <;> omega
theorem Try.info3 : (Try.prog.info? 3).map (fun i => (i.zero, i.size, i.bytes)) = some (some (.int .i64 0), 1, 8) := by kernel_rfl
theorem one_new (w : World) (u : Value) (t : TypeId) : ∀ j v, [u][j]? = some v → (w.alloc (.cells #[u] t)).cell? ((⟨w.heap.size, 0, none⟩ : Addr).add j) = some v := by
  intro j v hj
  match j, hj with
  | 0, hj => simp at hj; subst hj; simp [Addr.add]
theorem one_cell (u : Value) (h : u.oneCell' = true) : ∀ v ∈ [u], v.oneCell' = true := by
  intro v hv; simp at hv; subst hv; exact h
theorem rel_step {w wr w2 : World} {e : TypeId} {v v' : Value} {n n' : Nat} {xs ys : List Value} {o : Obj} (hb : Below w.heap.size w wr) (hsz : w.heap.size ≤ wr.heap.size) (hown : wr.ownsRow w.heap.size e 1 v n xs)
    (hown2 : w2.ownsRow w.heap.size e 1 v' n' ys) (hg : (wr.alloc o).grownBy w2 v.ownBlock) : w2.ownsRow w.heap.size e 1 v' n' ys ∧ Below w.heap.size w w2 :=
  ⟨hown2, (hb.alloc hsz o).grown hg (by simp; omega) (fun k hk => (hown.lt k hk).1)⟩

set_option maxHeartbeats 1600000 in
theorem kept_any (A : Option Addr) (c : Nat) (zs : List Int) (w : World) (hr : Reads w w.heap.size A (i64s zs)) (hlen : zs.length ≤ maxLen) :
    Calls Try.prog 6 #[.slice A zs.length c] w fun e w' => e = .returned (.bool true) ∧ Below w.heap.size w w' := by
  obtain ⟨i0, hi, hz0, hz1, hz2⟩ := info_parts Try.info3
  unfold maxLen at hlen
  have Hr := Lib.hid hr
  clear hr
  by_cases hl : zs.length ≤ 500
  · go_enter Try.func6, Try.ntmps6
    go_wp2_with (go_at_call 7; refine (awake_any _).mono ?_; rintro e w1 ⟨rfl, hb⟩)
    have hsz1 := hb.size
    go_loopw [3, 4] (fun v i wr => ∃ j : Nat, j ≤ zs.length ∧ (j = 0 ∧ i = .int .i64 (-1) ∨ ∃ m : Nat, j = m + 1 ∧ i = .int .i64 (m : Int)) ∧ wr.ownsRow w.heap.size 3 1 v (zs.length - j) (i64s (zs.drop j).reverse) ∧ Below w.heap.size w wr) (fun _ i _ => (intOf i + 1).toNat)
    case atStart =>
      refine ⟨zs.length, Nat.le_refl _, ?_, by rw [Nat.sub_self, List.drop_length]; exact World.ownsRow_nil _ _ _ _, hb⟩
      cases zs with
      | nil => exact .inl ⟨rfl, rfl⟩
      | cons z zs => exact .inr ⟨zs.length, rfl, by simp⟩
    case round =>
      obtain ⟨j, hj, hi', hown, hb⟩ := hrel
      rcases hi' with ⟨rfl, rfl⟩ | ⟨m, rfl, rfl⟩
      · rw [Nat.sub_zero, List.drop_zero] at hown
        obtain ⟨A', c', rfl, ho1, ho2, ho3⟩ := own_form hown
        clear ho1 ho2 ho3
        have R := Lib.hid (Hr.out.below hb)
        have R' := Lib.hid (Reads.of_own hown)
        clear hown
        have hk := kept_rev zs
        have hkb := kept_bound zs
        have Ca := Lib.hid (add_any A c zs _ R.out (by omega))
        have Cb := add_any A' c' zs.reverse _ R'.out (by simp; omega)
        have Cc := Lib.hid (mul_any A c zs _ R.out (by omega))
        have Cd := mul_any A' c' zs.reverse _ R'.out (by simp; omega)
        rw [hk.1, hk.2.1, List.length_reverse] at Cb
        rw [hk.2.2.1, hk.2.2.2, List.length_reverse] at Cd
        have Hb := Lib.hid Cb
        have Hd := Lib.hid Cd
        clear hk Cb Cd
        obtain ⟨b1, b2, b3, b4⟩ := hkb
        go_wp2_with fail
        refine (Ca.out).mono ?_
        rintro e w' ⟨rfl, rfl⟩
        go_wp2_with fail
        refine (Hb.out).mono ?_
        rintro e w' ⟨rfl, rfl⟩
        go_wp2_with fail
        refine (Cc.out).mono ?_
        rintro e w' ⟨rfl, rfl⟩
        go_wp2_with fail
        refine (Hd.out).mono ?_
        rintro e w' ⟨rfl, rfl⟩
        go_wp2
        go_ret
        exact ⟨rfl, hb⟩
      · have hlt : m < zs.length := by omega
        obtain ⟨b, off, rfl, hbB, hcell⟩ := (Hr.out.below hb) m (by rw [i64s_length]; exact hlt)
        rw [i64_at] at hcell
        have hst := Lib.hid (rev_step zs m hlt)
        have hsz := hb.size
        generalize zs[m] = x at *
        go_wp2_with (at_builtin; refine wpList_append_own _ rfl (.tmp 25) (.tmp 30) 22 rfl w.heap.size 3 i0 (.int .i64 0) 1 8 Try.underlying22 hi hz0 hz1 hz2 rfl (by decide) _ _ _ rfl (hown.alloc _) ⟨wr.heap.size, 0, none⟩ 1 1 [.int .i64 x] rfl rfl ?c1 ?c2 ?c3 ?c4 ?c5 ?_)
        case c1 => exact one_new _ _ _
        case c2 => exact one_cell _ rfl
        case c3 => unfold maxLen; omega
        case c4 => omega
        case c5 => simp; omega
        intro v' w2 hown2 hg2 _
        have R := rel_step hb hsz hown hown2 hg2
        clear hown2 hg2 hown hb
        go_wp2
        go_roundw
        case rel =>
          refine ⟨m, by omega, ?_, ?_, R.2⟩
          · cases m with
            | zero => exact .inl ⟨rfl, rfl⟩
            | succ p => exact .inr ⟨p, rfl, by go_num⟩
          · rw [hst.out, i64s_append, show zs.length - m = zs.length - (m + 1) + 1 from by omega]
            exact R.1
        case measure => simp [intOf]
  · go_enter Try.func6, Try.ntmps6
    go_wp2_with (go_at_call 7; refine (awake_any _).mono ?_; rintro e w1 ⟨rfl, hb⟩)
    go_ret
    exact ⟨rfl, hb⟩
end Go.Proofs.Ytphgcgoobclakaa
