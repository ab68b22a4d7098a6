/- put of package scrypt by its contract: a store's first rows are bytes. Conditions: those typed. -/
import Derived.Test.YtlifpplhinmajaaGreatDoorScPure
import Derived.Test.YtlifpplhinmajaaGreatDoorRmc
namespace Go.Proofs.YtlifpplhinmajaaGreatDoor
set_option maxRecDepth 50000
open Go.RowKit Sl Sf Rm

section
variable {w wr w' : World} {s p a g n r : Nat} {X : List (List Nat)}
theorem own_full {base : Nat} {e : TypeId} {n : Nat} {v : Value} {xs : List Value} (h : w.ownsRow base e 1 v n xs) (hn : 0 < n) : ∃ b c, v = .slice (some ⟨b, 0, none⟩) n c ∧ base ≤ b ∧ b < w.heap.size ∧ n ≤ c ∧ c ≤ maxLen ∧ ∀ j, j < n → w.cell? ⟨b, j, none⟩ = xs[j]? := by
  rcases h.2 with ⟨rfl, rfl⟩ | ⟨b, cap, cur, rfl, hb, hg, h1, h2, _⟩
  · omega
  · refine ⟨b, cap, rfl, hb, ?_, h1, h2, fun j hj => h.cellAt j (by omega)⟩
    rcases Nat.lt_or_ge b w.heap.size with h | h
    · exact h
    · rw [Array.getElem?_eq_none h] at hg; cases hg

set_option maxHeartbeats 6400000 in
theorem sput_any (hS : St w s p a g n r X) (P : Nat) (hP : 1 ≤ P) (hPX : P ≤ X.length) (t : ByteArray) (ht : t.size = 128 * r * P) (ht2 : t.size ≤ 1000000) :
    Calls Tryz.prog 27 #[.pointer (some ⟨s, 0, none⟩), .int .i64 (P : Int), .string t] w fun e w' => e = .returned (.tuple #[]) ∧ St w' s p a g n r (putT (rowW r (tl t)) X P) ∧ Kept (fun b => b = g) w w' := by
  have hr1 := hS.r1
  obtain ⟨m, hm⟩ : ∃ m, 32 * r = m := ⟨_, rfl⟩
  obtain ⟨M, hM⟩ : ∃ M, m * P = M := ⟨_, rfl⟩
  have hM4 : t.size = 4 * M := by rw [ht, ← hM, ← hm, ← Nat.mul_assoc, ← Nat.mul_assoc]
  have hM0 : 0 < M := by rw [← hM]; exact Nat.mul_pos (by omega) hP
  obtain ⟨W, cap, hcv, hbW, hBuf, hWs⟩ := bytes_of_text w t
  have CT := Lib.hid (take32_any _ cap (nb t) M (by rw [nb_length]; exact hM4) W (hBuf.reads (B := W.heap.size) (by rw [hWs]; omega)) (by rw [nb_length]; exact ht2) (nb_lt t))
  rw [nb_length, link4 M (nb t) (nb_lt t), nb_nats, show hornsAt 4 (nats (tl t)) M = leW M (tl t) from rfl] at CT
  have HL : Hid (∀ k i q, m * k + i = q → i < m → q < M → (leW M (tl t)).getD q 0 = (rowW r (tl t) k).getD i 0) := Lib.hid fun k i q hq hi hqM => by
    have := rowW_at r P (tl t) k i q (by rw [hm]; exact hq) (by rw [hm]; exact hi) (by rw [hm, hM]; exact hqM)
    rwa [hm, hM] at this
  have HLL := Lib.hid (leW_length M (tl t))
  have HRL := Lib.hid fun k => rowW_length r (tl t) k
  have HRO := Lib.hid fun k => rowW_ok r (tl t) k
  have HT0 : Hid (putT (rowW r (tl t)) X 0 = X) := Lib.hid rfl
  have HTS : Hid (∀ k, putT (rowW r (tl t)) X (k + 1) = (putT (rowW r (tl t)) X k).set k (rowW r (tl t) k)) := Lib.hid fun _ => rfl
  have HTL := Lib.hid fun k => putT_length (rowW r (tl t)) X k
  have HS := Lib.hid hS
  have HSW := Lib.hid (hS.step hbW)
  have HBW := Lib.hid hbW
  have HM := Lib.hid hM
  have hMb : M ≤ 250000 := by omega
  have hq1 : (M : Int) / (P : Int) = (m : Int) := by rw [← hM, Int.natCast_mul]; exact Int.mul_ediv_cancel _ (by omega)
  have hq2 : (M : Int).tdiv (P : Int) = (m : Int) := by rw [← hM, Int.natCast_mul]; exact Int.mul_tdiv_cancel _ (by omega)
  have hmM : m ≤ M := by rw [← hM]; exact Nat.le_mul_of_pos_right _ hP
  have hq3 : IntKind.i64.wrap (m : Int) = (m : Int) := by rw [IntKind.wrap_i64]; omega
  have hm1 : 1 ≤ m := by omega
  have hP0 : ¬ P = 0 := by omega
  have hPM : P ≤ M := by rw [← hM]; exact Nat.le_mul_of_pos_left _ hm1
  have HPX := Lib.hid hPX
  generalize rowW r (tl t) = f at *
  generalize putT f X = T at *
  generalize leW M (tl t) = L at *
  clear hM4 hM hBuf ht ht2 hS hbW hPX
  go_enter Tryz.func27, Tryz.ntmps27
  go_wp2_with fail
  refine CT.out.mono ?_
  rintro e w1 ⟨v, rfl, hown, hb⟩
  obtain ⟨b, c, rfl, hbW, hb1, hMc, hcm, hcell⟩ := own_full hown hM0
  have hbg : b ≠ g := by have := HS.out.apart.2.2.2.2; have := HBW.out.size; omega
  have HC : Hid (∀ q, q < M → w1.cell? ⟨b, q, none⟩ = some (.int .u32 ((L.getD q 0 : Nat) : Int))) := Lib.hid fun q hq => by
    rw [hcell q hq, List.getElem?_eq_getElem (by rw [u32s_length, HLL.out]; exact hq), u32_at, List.getD_eq_getElem?_getD, List.getElem?_eq_getElem (by rw [HLL.out]; exact hq)]; rfl
  have HS1 : Hid (St w1 s p a g n r (T 0)) := Lib.hid (by rw [HT0.out]; exact HSW.out.step hb)
  have HK1 : Hid (Kept (fun b => b = g) w w1) := Lib.hid (Kept.of_below (below_step HBW.out hb))
  clear hown hcell CT hb HBW HSW hbW
  unfold maxLen at hcm
  go_wp2
  go_loopw [21] (fun v21 wr => ∃ k : Nat, k ≤ P ∧ v21 = .int .i64 (k : Int) ∧ St wr s p a g n r (T k) ∧ Kept (fun b => b = g) w1 wr) (fun v21 _ => P - (intOf v21).toNat)
  case atStart => exact ⟨0, Nat.zero_le _, rfl, HS1.out, Kept.refl _ _⟩
  case round =>
    obtain ⟨k, hk, rfl, hSk, hKk⟩ := hrel
    by_cases h : k < P
    · have hd : decide ((k : Int) < (P : Int)) = true := by simp; omega
      have hle : m * (k + 1) ≤ M := by rw [← HM.out]; exact Nat.mul_le_mul_left _ h
      rw [Nat.mul_succ] at hle
      have CP := put_in hSk k (by rw [HTL.out]; have := HPX.out; omega) b (m * k) (c - m * k) (f k) (HRL.out k) (HRO.out k) hbg (Nat.lt_of_lt_of_le hb1 hKk.size) (fun i hi => by
        rw [World.cell?_of_block (w := w1) (a := ⟨b, m * k + i, none⟩) (hKk.block b hb1 hbg), HC.out _ (by omega), HL.out k i _ rfl (by omega) (by omega)])
      rw [← HTS.out, hm] at CP
      have e1 : (m : Int) * (k : Int) = ((m * k : Nat) : Int) := (Int.natCast_mul ..).symm
      have e2 : (m : Int) * ((k : Int) + 1) = ((m * k + m : Nat) : Int) := by rw [Int.mul_add, e1]; omega
      obtain ⟨lo, hlo⟩ : ∃ lo, m * k = lo := ⟨_, rfl⟩
      rw [hlo] at CP e1 e2 hle
      obtain ⟨hi, hhi⟩ : ∃ hi, lo + m = hi := ⟨_, rfl⟩
      rw [hhi] at e2 hle
      have e3 : IntKind.i64.wrap (lo : Int) = (lo : Int) := by rw [IntKind.wrap_i64]; omega
      have e4 : IntKind.i64.wrap (hi : Int) = (hi : Int) := by rw [IntKind.wrap_i64]; omega
      have e5 : hi - lo = m := by omega
      have e6 : (hi : Int) - (lo : Int) = (m : Int) := by omega
      have l1 : lo ≤ hi := by omega
      have l2 : hi ≤ c := by omega
      have l3 : lo < c := by omega
      have l4 : ¬ c = lo := by omega
      have l5 : lo ≤ M := by omega
      have CPP := Lib.hid CP
      have HKK := Lib.hid hKk
      clear CP hSk hKk hlo hhi
      go_wp2_with fail
      refine CPP.out.mono ?_
      rintro e w2 ⟨rfl, hS2, hK2⟩
      have HS2 := Lib.hid hS2
      have HK2 : Hid (Kept (fun b => b = g) w1 w2) := Lib.hid (HKK.out.trans hK2 fun _ _ e => e)
      clear hS2 hK2 CPP
      go_wp2
      go_roundw
      case rel => exact ⟨k + 1, by omega, by go_num, HS2.out, HK2.out⟩
      case measure => simp [intOf]; omega
    · obtain rfl : k = P := by omega
      have hd : decide ((k : Int) < (k : Int)) = false := by simp
      have HSk := Lib.hid hSk
      have HKk : Hid (Kept (fun b => b = g) w wr) := Lib.hid (HK1.out.trans hKk fun _ _ e => e)
      clear hSk hKk
      go_wp2
      simp [bodyPost, results, Tryz.results27, go_sem]
      exact ⟨HSk.out, HKk.out⟩
end
end Go.Proofs.YtlifpplhinmajaaGreatDoor
