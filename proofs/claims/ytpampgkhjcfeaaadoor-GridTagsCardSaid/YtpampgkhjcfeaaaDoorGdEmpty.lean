/- The document's empty grid by its contract. Conditions: those typed. -/
import Derived.Test.YtpampgkhjcfeaaaDoorGdDoc
namespace Go.Proofs.YtpampgkhjcfeaaaDoor
set_option maxRecDepth 50000
open Go.RowKit Bb

theorem DocAt.weak {w : World} {N N' c : Nat} {v : Value} {gs : List Nat} {L : List (List Nat)} (h : DocAt w N v c gs L) (hN : N' ≤ N) : DocAt w N' v c gs L :=
  ⟨own_base h.own fun k hk => Nat.le_trans hN (h.own_ge k hk), fun g hg => Nat.le_trans hN (h.ge g hg), h.nd, h.blk, h.ok, h.len⟩
theorem DocAt.not_new {w : World} {N c : Nat} {v : Value} {gs : List Nat} {L : List (List Nat)} (h : DocAt w N v c gs L) : w.heap.size ∉ gs := fun hm => by
  obtain ⟨i, hi, e⟩ := List.getElem_of_mem hm
  have := (h.blk i hi).lt
  rw [List.getD_eq_getElem?_getD, List.getElem?_eq_getElem hi] at this
  simp [e] at this

set_option maxHeartbeats 1600000 in
theorem rempty_any (a t l m b c g z : Nat) (hl : l ≤ 1000) (hc : c ≤ 4194304) (w : World) : Calls Tryd.prog 12 #[spv a t l m b c g z] w fun e w' => ∃ v gs, e = .returned v ∧ DocAt w' w.heap.size v c gs (List.replicate (l * c) zb) ∧ gs.length = l ∧ Below w.heap.size w w' := by
  obtain ⟨N, hN⟩ : ∃ N, N = w.heap.size := ⟨_, rfl⟩
  obtain ⟨w1, e1⟩ : ∃ w1, w1 = w.alloc (.cells (spc a t l m b c g z) 45) := ⟨_, rfl⟩
  have HB1 : Hid (Below N w w1) := Lib.hid (by rw [e1, hN]; exact one_box _ _)
  have HS1 : Hid (RowAt w1 N 45 (spc a t l m b c g z)) := Lib.hid (by rw [e1, hN]; exact RowAt.new _ _ _)
  have hs1 : w1.heap.size = N + 1 := by rw [e1, hN, World.size_alloc]
  have E1 := Lib.hid e1
  have HN := Lib.hid hN
  have hmk := make_blocks c hc
  have HR : Hid (∀ wr : World, ∀ v gs, DocAt wr (N + 1) v c gs (List.replicate (gs.length * c) zb) → Below (N + 1) w1 wr → gs.length ≤ 1000 → ∃ v' w', (Builtin.append_ #[42, 42] 42 #[v, .slice (some ⟨wr.heap.size + 1, 0, none⟩) 1 1]).run Tryd.prog ((wr.alloc (.cells (bcs (List.replicate c zb)).toArray 29)).alloc (.cells #[.slice (some ⟨wr.heap.size, 0, none⟩) c c] 52)) = .ok v' w' ∧ DocAt w' (N + 1) v' c (gs ++ [wr.heap.size]) (List.replicate ((gs ++ [wr.heap.size]).length * c) zb) ∧ Below (N + 1) w1 w') := Lib.hid fun wr v gs hd hb hg => by
    have hs := hb.size
    have b2 : Below wr.heap.size wr ((wr.alloc (.cells (bcs (List.replicate c zb)).toArray 29)).alloc (.cells #[.slice (some ⟨wr.heap.size, 0, none⟩) c c] 52)) := two_box _ _ _
    have r1 : RowAt ((wr.alloc (.cells (bcs (List.replicate c zb)).toArray 29)).alloc (.cells #[.slice (some ⟨wr.heap.size, 0, none⟩) c c] 52)) wr.heap.size 29 (bcs (List.replicate c zb)).toArray := (RowAt.new wr _ _).alloc _
    have r2 := RowAt.new (wr.alloc (.cells (bcs (List.replicate c zb)).toArray 29)) 52 #[.slice (some ⟨wr.heap.size, 0, none⟩) c c]
    rw [World.size_alloc] at r2
    obtain ⟨v', w', hr, hd', hb'⟩ := (hd.step b2).more (by have := b2.size; omega) r2 r1 (by omega) hd.not_new (by omega) 42
    exact ⟨v', w', hr, hd', hb.trans ((b2.mono (by omega)).trans hb')⟩
  have HD0 : Hid (DocAt w1 (N + 1) (.slice none 0 0) c [] (List.replicate (([] : List Nat).length * c) zb)) := Lib.hid (by simpa using DocAt.nil w1 (N + 1) c)
  clear e1 hN
  go_enter Tryd.func12, Tryd.ntmps12
  go_wp2
  rw [← E1.out, ← HN.out]
  go_loopw [3, 4] (fun v3 v4 wr => ∃ i gs, i ≤ l ∧ v4 = .int .i64 (i : Int) ∧ Hid (gs.length = i) ∧ Hid (DocAt wr (N + 1) v3 c gs (List.replicate (gs.length * c) zb)) ∧ Hid (Below (N + 1) w1 wr)) (fun _ v4 _ => l - (intOf v4).toNat)
  case atStart => exact ⟨0, [], Nat.zero_le _, rfl, Lib.hid rfl, HD0, Lib.hid (Below.refl _ _)⟩
  case round =>
    obtain ⟨i, gs, hi, rfl, HG, HD, HB⟩ := hrel
    have hS := HS1.out.below HB.out (by omega)
    have k2 : wr.cell? ⟨N, 2, none⟩ = some (.int .i64 (l : Int)) := (hS.cell 2).trans rfl
    have k5 : wr.cell? ⟨N, 5, none⟩ = some (.int .i64 (c : Int)) := (hS.cell 5).trans rfl
    clear hS
    by_cases h : i < l
    · have hd : decide ((i : Int) < (l : Int)) = true := by simp; omega
      have hd2 : decide (i < l) = true := by simp; omega
      obtain ⟨v', w', hr, hd', hb'⟩ := HR.out wr _ gs HD.out HB.out (by have := HG.out; omega)
      have HAP := Lib.hid hr
      have HD' := Lib.hid hd'
      have HB' := Lib.hid hb'
      clear hr hd' hb'
      go_wp2_with (at_builtin; refine wpList_append_of rfl (.tmp 11) (.tmp 15) 42 rfl _ _ _ rfl rfl HAP.out ?_)
      go_roundw
      case measure => simp [intOf]; omega
      case rel => exact ⟨i + 1, gs ++ [wr.heap.size], by omega, by go_num, Lib.hid (by rw [List.length_append, HG.out]; rfl), HD', HB'⟩
    · obtain rfl : i = l := by omega
      have hd : decide ((i : Int) < (i : Int)) = false := by simp
      go_wp2
      refine bodyPost_ret (results_tmp rfl _ _ _) rfl ⟨_, gs, rfl, ?_, HG.out, ?_⟩
      · rw [← HN.out]
        have h := HD.out.weak (Nat.le_succ N)
        rw [HG.out] at h
        exact h
      · rw [← HN.out]
        exact HB1.out.trans (HB.out.mono (Nat.le_succ N))
end Go.Proofs.YtpampgkhjcfeaaaDoor
