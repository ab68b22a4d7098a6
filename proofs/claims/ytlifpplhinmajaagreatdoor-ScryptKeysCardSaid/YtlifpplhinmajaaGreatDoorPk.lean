/- Part of package pbkdf by its contract: no Mac; rounds or a number that may not be; all tags put together. Conditions: those typed. Key of package pbkdf by its contract, by those of Part, New and strings.Join. The document's Part and Key by their contracts. Conditions: those typed. Chapter 22's example, and whether rounds and a size may be. Condition: the package's table lies at its place. -/
import Derived.Test.YtlifpplhinmajaaGreatDoorMr
import Derived.Test.YtlifpplhinmajaaGreatDoorSz
import Derived.Test.YtlifpplhinmajaaGreatDoorFh
namespace Go.Proofs.YtlifpplhinmajaaGreatDoor
set_option maxRecDepth 50000
open Go.RowKit Sha

theorem wide_any (n : Int) (w : World) : Calls Tryz.prog 61 #[.int .i64 n] w fun e w' => e = .returned (.bool (inB n 1 4294967295)) ∧ w = w' := by
  go_enter Tryz.func61, Tryz.ntmps61
  go_wp2_with fail
  refine (within_any n 1 4294967295 w).mono ?_
  rintro e w' ⟨rfl, rfl⟩
  go_wp2
  go_ret
  exact ⟨rfl, rfl⟩

theorem part_nil (S : ByteArray) (m i : Int) (w : World) : Calls Tryz.prog 41 #[.pointer none, .string S, .int .i64 m, .int .i64 i] w fun e w' => e = .returned (.tuple #[.string ⟨#[]⟩, .int .i64 11]) ∧ w = w' := by
  go_enter Tryz.func41, Tryz.ntmps41
  go_wp2
  go_ret2
  exact ⟨rfl, rfl⟩

theorem part_bad (M : Nat) (S : ByteArray) (m i : Int) (h : inB m 1 4294967295 = false ∨ inB m 1 4294967295 = true ∧ inB i 1 4294967295 = false) (w : World) : Calls Tryz.prog 41 #[.pointer (some ⟨M, 0, none⟩), .string S, .int .i64 m, .int .i64 i] w fun e w' => e = .returned (.tuple #[.string ⟨#[]⟩, .int .i64 2]) ∧ w = w' := by
  have CM := wide_any m
  have CI := wide_any i
  rcases h with h | ⟨h1, h2⟩
  · rw [h] at CM
    have C1 := Lib.hid CM
    clear CM CI h
    go_enter Tryz.func41, Tryz.ntmps41
    go_wp2_with fail
    refine (C1.out _).mono ?_
    rintro e w' ⟨rfl, rfl⟩
    go_wp2
    go_ret2
    exact ⟨rfl, rfl⟩
  · rw [h1] at CM
    rw [h2] at CI
    have C1 := Lib.hid CM
    have C2 := Lib.hid CI
    clear CM CI h1 h2
    go_enter Tryz.func41, Tryz.ntmps41
    go_wp2_with fail
    refine (C1.out _).mono ?_
    rintro e w' ⟨rfl, rfl⟩
    go_wp2_with fail
    refine (C2.out _).mono ?_
    rintro e w' ⟨rfl, rfl⟩
    go_wp2
    go_ret2
    exact ⟨rfl, rfl⟩

/-- a part's number as bytes, the highest first -/
def beL (i : Nat) : List UInt8 := bytesL (bytesOf (downs 4) 4 i)
theorem beL_length (i : Nat) : (beL i).length = 4 := by unfold beL bytesL; rw [List.length_map, bytesOf_length]
theorem cs_beL (i : Nat) : u8s (bytesOf (downs 4) 4 i) = cs (beL i) := (cs_bytesL _ (by intro x hx; unfold bytesOf at hx; rw [List.mem_map] at hx; obtain ⟨a, _, rfl⟩ := hx; exact Nat.mod_lt _ (by decide))).symm
theorem big_one (w : World) (b i : Nat) (hi : i < 4294967296) (hc : w.cell? ⟨b, 0, none⟩ = some (.int .u32 (i : Int))) (hb : b < w.heap.size) :
    Calls Tryz.prog 65 #[.slice (some ⟨b, 0, none⟩) 1 1] w fun e w' => ∃ v, e = .returned v ∧ w'.ownsRow w.heap.size 5 1 v 4 (cs (beL i)) ∧ Below w.heap.size w w' := by
  have h := big32_any (some ⟨b, 0, none⟩) 1 [i] w (fun k hk => by
    have hk0 : k = 0 := by simp [u32s] at hk; omega
    subst hk0
    exact ⟨b, 0, rfl, hb, hc⟩) (by simp) (by intro x hx; simp at hx; omega)
  rw [← cs_beL]
  simpa using h

set_option maxHeartbeats 800000 in
theorem part_any (w : World) (M : Nat) (S : ByteArray) (n i : Nat) (hn : 1 ≤ n ∧ n ≤ 1000000) (hi : 1 ≤ i ∧ i ≤ 4294967295) (V : List UInt8)
    (CH : ∀ (W : World) (A : Option Addr) (c : Nat), Below w.heap.size w W → Reads W W.heap.size A (stv [S, tx (beL i)]) → Calls Tryz.prog 64 #[.pointer (some ⟨M, 0, none⟩), .int .i64 (n : Int), .slice A 2 c] W fun e w' => ∃ L, e = .returned (.tuple #[.string L, .string (tx V)]) ∧ Below W.heap.size W w') :
    Calls Tryz.prog 41 #[.pointer (some ⟨M, 0, none⟩), .string S, .int .i64 (n : Int), .int .i64 (i : Int)] w fun e w' => e = .returned (.tuple #[.string (tx V), .int .i64 0]) ∧ Below w.heap.size w w' := by
  have CM := wide_any n
  have CI := wide_any i
  rw [show inB (n : Int) 1 4294967295 = true by unfold inB; simp; omega] at CM
  rw [show inB (i : Int) 1 4294967295 = true by unfold inB; simp; omega] at CI
  have C1 := Lib.hid CM
  have C2 := Lib.hid CI
  have CC := Lib.hid CH
  have hi2 : i ≤ 4294967295 := hi.2
  have HI := Lib.hid hi
  obtain ⟨TX, hTX⟩ : ∃ TX, TX = tx (beL i) := ⟨_, rfl⟩
  rw [← hTX] at CC
  obtain ⟨TV, hTV⟩ : ∃ TV, TV = tx V := ⟨_, rfl⟩
  rw [← hTV] at CC ⊢
  have HT := Lib.hid hTX
  have hw : IntKind.u32.wrap (i : Int) = (i : Int) := by rw [IntKind.wrap_u32]; omega
  clear CM CI CH hn hTX hTV
  go_enter Tryz.func41, Tryz.ntmps41
  go_wp2_with fail
  refine (C1.out _).mono ?_
  rintro e w' ⟨rfl, rfl⟩
  go_wp2_with fail
  refine (C2.out _).mono ?_
  rintro e w' ⟨rfl, rfl⟩
  have B0 : Hid (Below w.heap.size w (w.alloc (.cells #[.int .u32 (i : Int)] 36))) := Lib.hid ((Below.refl _ w).alloc (Nat.le_refl _) _)
  go_wp2_with fail
  refine (big_one _ w.heap.size i (by have := HI.out; omega) (by rw [cell_of_row _ _ _ _ _ (0, 0) (heap_alloc_last w _)]; rfl) (by simp)).mono ?_
  rintro e w1 ⟨v, rfl, h1, b1⟩
  have hcv := conv_text w1 h1
  rw [← HT.out] at hcv
  have B1 := Lib.hid (below_step B0.out b1)
  clear b1 h1 B0
  go_wp2_with fail
  have HA : Hid (Below w1.heap.size w1 (w1.alloc (.cells #[.string S, .string TX] 9))) := Lib.hid ((Below.refl _ w1).alloc (Nat.le_refl _) _)
  refine (CC.out _ _ _ (below_step B1.out HA.out) (fun k hk => by
    have hk2 : k < 2 := by simpa [stv] using hk
    refine ⟨w1.heap.size, 0, rfl, by simp, ?_⟩
    rw [cell_of_row _ _ _ _ _ (0, 0) (heap_alloc_last w1 _)]
    rcases (by omega : k = 0 ∨ k = 1) with rfl | rfl <;> rfl)).mono ?_
  rintro e w2 ⟨L, rfl, b2⟩
  have B2 := Lib.hid (below_step B1.out (below_step HA.out b2))
  clear b2
  go_wp2
  go_ret2
  exact ⟨rfl, B2.out⟩

/-- the i-th part's bytes -/
def partV (K S : List UInt8) (m i : Nat) : List UInt8 := allL K [] (S ++ beL i) (m - 1)
theorem partV_length (K S : List UInt8) (m i : Nat) : (partV K S m i).length = 32 := allL_length _ _ _ _
theorem part_good (w : World) (M : Nat) (K : List UInt8) (h : MacIs w M K []) (hk : KAt w) (S : ByteArray) (hS : S.size ≤ 5000) (n i : Nat) (hn : 1 ≤ n ∧ n ≤ 1000000) (hi : 1 ≤ i ∧ i ≤ 4294967295) :
    Calls Tryz.prog 41 #[.pointer (some ⟨M, 0, none⟩), .string S, .int .i64 (n : Int), .int .i64 (i : Int)] w fun e w' => e = .returned (.tuple #[.string (tx (partV K (tl S) n i)), .int .i64 0]) ∧ Below w.heap.size w w' := by
  have ej : jn [S, tx (beL i)] = tl S ++ beL i := by simp [jn, tl_tx]
  refine part_any w M S n i hn hi (partV K (tl S) n i) (fun W A c hb hr => ?_)
  refine (chain_any W M K [] (h.below hb) (hk.next hb) n (by omega) hn.2 A c [S, tx (beL i)] hr (by rw [ej, List.length_append, beL_length, tl_length]; simp; omega) (by simp)).mono ?_
  rintro e w' ⟨rfl, hb⟩
  exact ⟨_, by rw [ej]; rfl, hb⟩
end Go.Proofs.YtlifpplhinmajaaGreatDoor

namespace Go.Proofs.YtlifpplhinmajaaGreatDoor
set_option maxRecDepth 50000
open Go.RowKit Sha

theorem str_info : (Tryz.prog.info? 9).map (fun i => (i.zero, i.size, i.bytes)) = some (some (.string ⟨#[]⟩), 1, 16) := by kernel_rfl

theorem kcheck_bad (m b : Int) (h : inB m 1 4294967295 = false ∨ inB m 1 4294967295 = true ∧ inB b 1 65536 = false) (w : World) : Calls Tryz.prog 39 #[.int .i64 m, .int .i64 b] w fun e w' => e = .returned (.int .i64 2) ∧ w = w' := by
  have CM := wide_any m
  have CB := within_any b 1 65536
  rcases h with h | ⟨h1, h2⟩
  · rw [h] at CM
    have C1 := Lib.hid CM
    clear CM CB h
    go_enter Tryz.func39, Tryz.ntmps39
    go_wp2_with fail
    refine (C1.out _).mono ?_
    rintro e w' ⟨rfl, rfl⟩
    go_wp2
    go_ret
    exact ⟨rfl, rfl⟩
  · rw [h1] at CM
    rw [h2] at CB
    have C1 := Lib.hid CM
    have C2 := Lib.hid CB
    clear CM CB h1 h2
    go_enter Tryz.func39, Tryz.ntmps39
    go_wp2_with fail
    refine (C1.out _).mono ?_
    rintro e w' ⟨rfl, rfl⟩
    go_wp2_with fail
    refine (C2.out _).mono ?_
    rintro e w' ⟨rfl, rfl⟩
    go_wp2
    go_ret
    exact ⟨rfl, rfl⟩
theorem kcheck_ok (m b : Int) (h1 : inB m 1 4294967295 = true) (h2 : inB b 1 65536 = true) (w : World) : Calls Tryz.prog 39 #[.int .i64 m, .int .i64 b] w fun e w' => e = .returned (.int .i64 0) ∧ w = w' := by
  have CM := wide_any m
  have CB := within_any b 1 65536
  rw [h1] at CM
  rw [h2] at CB
  have C1 := Lib.hid CM
  have C2 := Lib.hid CB
  clear CM CB h1 h2
  go_enter Tryz.func39, Tryz.ntmps39
  go_wp2_with fail
  refine (C1.out _).mono ?_
  rintro e w' ⟨rfl, rfl⟩
  go_wp2_with fail
  refine (C2.out _).mono ?_
  rintro e w' ⟨rfl, rfl⟩
  go_wp2
  go_ret
  exact ⟨rfl, rfl⟩

/-- n parts, each as a text -/
def kpcs (V : Nat → List UInt8) (n : Nat) : List ByteArray := (List.range n).map fun j => tx (V (j + 1))
theorem kpcs_length (V : Nat → List UInt8) (n : Nat) : (kpcs V n).length = n := by simp [kpcs]
theorem kpcs_snoc (V : Nat → List UInt8) (n : Nat) : kpcs V (n + 1) = kpcs V n ++ [tx (V (n + 1))] := by unfold kpcs; rw [List.range_succ, List.map_append]; rfl
/-- their bytes, one behind the other -/
def allV (V : Nat → List UInt8) (n : Nat) : List UInt8 := (List.range n).flatMap fun j => V (j + 1)
theorem allV_snoc (V : Nat → List UInt8) (n : Nat) : allV V (n + 1) = allV V n ++ V (n + 1) := by unfold allV; rw [List.range_succ, List.flatMap_append]; simp
theorem jn_pcs (V : Nat → List UInt8) (n : Nat) : jn (kpcs V n) = allV V n := by unfold jn kpcs allV; rw [List.flatMap_map]; simp only [tl_tx]
theorem allV_length (V : Nat → List UInt8) (hV : ∀ i, (V i).length = 32) : ∀ n, (allV V n).length = 32 * n
  | 0 => rfl
  | n + 1 => by rw [allV_snoc, List.length_append, allV_length V hV n, hV]; omega
theorem kpcs_set (V : Nat → List UInt8) (k r : Nat) : (stv (kpcs V k) ++ stv (List.replicate (r + 1) ⟨#[]⟩)).set k (.string (tx (V (k + 1)))) = stv (kpcs V (k + 1)) ++ stv (List.replicate r ⟨#[]⟩) := by
  have hl : (stv (kpcs V k)).length = k := by rw [stv_length, kpcs_length]
  rw [kpcs_snoc, List.replicate_succ]
  unfold stv at *
  rw [List.map_append, List.map_cons, List.set_append_right _ _ (by omega), hl, Nat.sub_self, List.set_cons_zero, List.map_cons, List.map_nil, List.append_assoc]
  rfl
/-- how many parts a key has -/
def ups32 (b : Nat) : Nat := if b % 32 = 0 then b / 32 else b / 32 + 1
theorem ups32_le (b : Nat) : b ≤ 32 * ups32 b ∧ 32 * ups32 b < b + 32 := by unfold ups32; split <;> omega
theorem up32 (b : Nat) (hb : b ≤ 65536) : upN b 32 = (ups32 b : Int) := by
  have h := upN_yes (n := b) (u := 32) (by unfold partOK inB; simp; omega)
  exact h

theorem beginning_any (w : World) (n : Nat) (A : Option Addr) (k c : Nat) (X : List UInt8) (hn : n ≤ X.length) (CJ : Calls Tryz.prog 66 #[.slice A k c, .string ⟨#[]⟩] w fun e w' => e = .returned (.string (tx X)) ∧ Below w.heap.size w w') :
    Calls Tryz.prog 42 #[.int .i64 (n : Int), .slice A k c] w fun e w' => e = .returned (.string (tx (X.take n))) ∧ Below w.heap.size w w' := by
  obtain ⟨T, hT⟩ : ∃ T, T = tx X := ⟨_, rfl⟩
  rw [← hT] at CJ
  have e1 : T.extract 0 n = tx (X.take n) := by
    rw [hT]
    refine tl_inj ?_
    rw [tl_tx]
    unfold tl tx
    rw [ByteArray.data_extract]
    simp [List.extract_eq_take_drop]
  have hs : n ≤ T.size := by rw [hT, tx_size]; exact hn
  have hs2 : (n : Int) ≤ (T.size : Int) := by omega
  have C1 := Lib.hid CJ
  have E := Lib.hid e1
  clear CJ hT e1 hn
  go_enter Tryz.func42, Tryz.ntmps42
  go_wp2_with fail
  refine C1.out.mono ?_
  rintro e w1 ⟨rfl, b1⟩
  have B1 := Lib.hid b1
  clear b1
  go_wp2
  go_ret
  exact ⟨by rw [← E.out]; rfl, B1.out⟩

theorem key_bad (word S : ByteArray) (m b : Int) (h : inB m 1 4294967295 = false ∨ inB m 1 4294967295 = true ∧ inB b 1 65536 = false) (w : World) : Calls Tryz.prog 26 #[.string word, .string S, .int .i64 m, .int .i64 b] w fun e w' => e = .returned (.tuple #[.string ⟨#[]⟩, .int .i64 2]) ∧ w = w' := by
  have C1 := Lib.hid (kcheck_bad m b h)
  clear h
  go_enter Tryz.func26, Tryz.ntmps26
  go_wp2_with fail
  refine (C1.out _).mono ?_
  rintro e w' ⟨rfl, rfl⟩
  go_wp2
  go_ret2
  exact ⟨rfl, rfl⟩

set_option maxHeartbeats 1600000 in
theorem key_walk (word S : ByteArray) (m b : Nat) (hm : 1 ≤ m ∧ m ≤ 1000000) (hb : 1 ≤ b ∧ b ≤ 65536) (w : World) (V : Nat → List UInt8) (hV : ∀ i, (V i).length = 32)
    (CN : ∀ W : World, Below w.heap.size w W → Calls Tryz.prog 40 #[.string word] W fun e w' => ∃ M, e = .returned (.pointer (some ⟨M, 0, none⟩)) ∧ Below W.heap.size W w' ∧ ∀ (U : World), Below w'.heap.size w' U → ∀ i : Nat, 1 ≤ i → i ≤ 100000 → Calls Tryz.prog 41 #[.pointer (some ⟨M, 0, none⟩), .string S, .int .i64 (m : Int), .int .i64 (i : Int)] U fun e w' => e = .returned (.tuple #[.string (tx (V i)), .int .i64 0]) ∧ Below U.heap.size U w')
    (CJ : ∀ (W : World) (g c : Nat) (xs : List ByteArray), (∀ (j : Nat) x, xs[j]? = some x → W.cell? ⟨g, j, none⟩ = some (.string x)) → g < W.heap.size → xs.length ≤ 100000 → xs.length ≤ c → (jn xs).length ≤ 10000000 → Calls Tryz.prog 66 #[.slice (some ⟨g, 0, none⟩) xs.length c, .string ⟨#[]⟩] W fun e w' => e = .returned (.string (tx (jn xs))) ∧ Below W.heap.size W w') :
    Calls Tryz.prog 26 #[.string word, .string S, .int .i64 (m : Int), .int .i64 (b : Int)] w fun e w' => e = .returned (.tuple #[.string (tx ((allV V (ups32 b)).take b)), .int .i64 0]) ∧ Below w.heap.size w w' := by
  obtain ⟨i0, hi, hz0, hz1, hz2⟩ := info_parts str_info
  have C1 := Lib.hid (kcheck_ok m b (by unfold inB; simp; omega) (by unfold inB; simp; omega))
  have CU0 := up_any b 32 (by omega)
  rw [up32 b hb.2, partE_yes (n := b) (u := 32) (by unfold partOK inB; simp; omega)] at CU0
  have hup := ups32_le b
  generalize ups32 b = N at *
  have hN : N ≤ 2048 := by omega
  have HUP := Lib.hid hup
  have CU := Lib.hid CU0
  have CNN := Lib.hid CN
  have CJJ := Lib.hid CJ
  have HV := Lib.hid hV
  have HB := Lib.hid hb
  obtain ⟨TV, hTV⟩ : ∃ TV : Nat → ByteArray, TV = fun i => tx (V i) := ⟨_, rfl⟩
  clear CN CJ CU0 hm hV hup hb hTV
  go_enter Tryz.func26, Tryz.ntmps26
  go_wp2_with fail
  refine (C1.out _).mono ?_
  rintro e w' ⟨rfl, rfl⟩
  go_wp2_with fail
  refine (CNN.out _ (Below.refl _ _)).mono ?_
  rintro e w1 ⟨M, rfl, b1, CP0⟩
  have B1 := Lib.hid b1
  have CP1 := Lib.hid CP0
  clear b1 CP0
  go_wp2_with fail
  refine (CU.out _).mono ?_
  rintro e w2 ⟨rfl, b2⟩
  have B2 := Lib.hid (below_step B1.out b2)
  have B12 := Lib.hid b2
  clear b2
  go_wp2_with (at_make; refine wpList_make_full _ rfl _ _ 82 rfl w2.heap.size 9 i0 (.string ⟨#[]⟩) 1 Tryz.underlying82 hi hz0 hz1 _ _ _ _ N rfl rfl ?c0 ?c00 ?c1 ?c2 ?c3 ?_)
  case c0 => rfl
  case c00 => rfl
  case c1 => rw [hz2]; omega
  case c2 => unfold maxLen; omega
  case c3 => exact Nat.le_refl _
  intro w3 hown3 hg3
  have e0 : (madeCells #[.string ⟨#[]⟩] N).toList = stv (List.replicate N ⟨#[]⟩) := by
    rw [toList_madeCells_one]
    unfold stv
    rw [List.map_replicate]
  rw [e0] at hown3
  have b23 : Below w2.heap.size w2 w3 := (Below.refl _ _).grown hg3 (Nat.le_refl _) (by simp)
  have B3 := Lib.hid (below_step B2.out b23)
  have B23 := b23
  clear hg3 e0 b23
  go_wp2
  obtain ⟨g, hg⟩ : ∃ g, g = w2.heap.size := ⟨_, rfl⟩
  have B13g : Hid (Below g w2 w3) := Lib.hid (by rw [hg]; exact B23)
  rw [← hg] at hown3 ⊢
  have HG := Lib.hid hg
  clear hg B23
  go_loopw [33] (fun v33 wr => ∃ k : Nat, k ≤ N ∧ v33 = .int .i64 (k : Int) ∧ wr.ownsRow g 9 1 (.slice (some ⟨g, 0, none⟩) N N) N (stv (kpcs V k) ++ stv (List.replicate (N - k) ⟨#[]⟩)) ∧ Below g w2 wr) (fun v33 _ => N - (intOf v33).toNat)
  case atStart => exact ⟨0, Nat.zero_le _, rfl, by simpa [kpcs, stv] using hown3, B13g.out⟩
  case round =>
    obtain ⟨k, hk, rfl, hown, hb⟩ := hrel
    have HB := Lib.hid hb
    have HW : Hid (Below w1.heap.size w1 wr) := Lib.hid (by rw [HG.out] at hb; exact below_step B12.out hb)
    clear hb hown3
    by_cases hlt : k < N
    · have hdt : decide ((k : Int) < (N : Int)) = true := by simp; omega
      have CP := CP1.out wr HW.out (k + 1) (by omega) (by omega)
      have e1 : (k : Int) + 1 = ((k + 1 : Nat) : Int) := by omega
      rw [← e1] at CP
      obtain ⟨T, hT⟩ : ∃ T, T = tx (V (k + 1)) := ⟨_, rfl⟩
      rw [← hT] at CP
      have HT := Lib.hid hT
      have CPP := Lib.hid CP
      have Hown := Lib.hid hown
      clear CP e1 hT hown
      go_wp2_with fail
      refine CPP.out.mono ?_
      rintro e w5 ⟨rfl, b5⟩
      have hown5 := own_kept Hown.out (Kept.of_below (M := fun _ => False) b5) (fun _ _ => id)
      have HB5 : Hid (Below g w2 w5) := Lib.hid (HB.out.trans (b5.mono (by have := Hown.out.lt _ rfl; omega)))
      have hfz := hown5.frozenAt k
      have hcell := hown5.cellAt k (by omega)
      have hst := fun u => hown5.stored k u
      have Hown5 := Lib.hid hown5
      clear b5 CPP hown5
      obtain ⟨c0, hc0⟩ : ∃ c0, w5.cell? ⟨g, k, none⟩ = some c0 := ⟨(stv (kpcs V k) ++ stv (List.replicate (N - k) ⟨#[]⟩))[k]'(by rw [List.length_append, stv_length, stv_length, kpcs_length, List.length_replicate]; omega), by rw [hcell, List.getElem?_eq_getElem]⟩
      clear hcell
      go_wp2
      go_roundw
      case measure => simp [intOf]; omega
      case rel =>
        have R := Hown5.out.stored k (.string T)
        have e2 : (stv (kpcs V k) ++ stv (List.replicate (N - k) ⟨#[]⟩)).set k (.string T) = stv (kpcs V (k + 1)) ++ stv (List.replicate (N - (k + 1)) ⟨#[]⟩) := by
          rw [HT.out, show N - k = N - (k + 1) + 1 by omega]
          exact kpcs_set V k _
        rw [e2] at R
        exact ⟨k + 1, by omega, by go_num, R.1, HB5.out.setCell (Nat.le_refl _) _⟩
    · obtain rfl : k = N := by omega
      have hdt : decide ((k : Int) < (k : Int)) = false := by simp
      have hl : (kpcs V k).length = k := kpcs_length V k
      rw [Nat.sub_self, List.replicate_zero, show stv [] = [] from rfl, List.append_nil] at hown
      have CB := beginning_any wr b (some ⟨g, 0, none⟩) k k (allV V k) (by rw [allV_length V HV.out]; exact HUP.out.1) (by
        have h := CJJ.out wr g k (kpcs V k) (fun j x hx => by
          have hj : j < k := by
            rw [← hl]
            exact (List.getElem?_eq_some_iff.1 hx).1
          rw [hown.cellAt j (by omega)]
          unfold stv
          rw [List.getElem?_map, hx]; rfl) (hown.lt _ rfl).2 (by omega) (by omega) (by rw [jn_pcs, allV_length V HV.out]; omega)
        rw [hl, jn_pcs] at h
        exact h)
      have CBB := Lib.hid CB
      clear CB hl hown
      go_wp2_with fail
      refine CBB.out.mono ?_
      rintro e w7 ⟨rfl, b7⟩
      go_wp2
      go_ret2
      exact ⟨rfl, below_step B1.out (below_step HW.out b7)⟩

theorem inter_nil : ∀ ls : List (List UInt8), List.intercalate [] ls = ls.flatten
  | [] => rfl
  | [x] => by simp [List.intercalate]
  | x :: y :: r => by
    have ih := inter_nil (y :: r)
    simp only [List.intercalate, List.intersperse_cons_cons, List.flatten_cons, List.nil_append] at ih ⊢
    rw [ih]
theorem join_nil (xs : List ByteArray) : Lib.join (xs.map (·.data.toList)) [] = jn xs := by
  have h := inter_nil (xs.map (·.data.toList))
  rw [show jn xs = (xs.map (·.data.toList)).flatten from List.flatMap_def]
  exact h
/-- the key's bytes -/
def pkK (K S : List UInt8) (m b : Nat) : List UInt8 := (allV (partV K S m) (ups32 b)).take b
theorem pkK_length (K S : List UInt8) (m b : Nat) : (pkK K S m b).length = b := by
  have := ups32_le b
  unfold pkK
  rw [List.length_take, allV_length _ (partV_length K S m)]; omega
theorem allV_take (V : Nat → List UInt8) (n : Nat) : ∀ r, (allV V (n + r)) = allV V n ++ (allV (fun i => V (n + i)) r)
  | 0 => by simp [allV]
  | r + 1 => by rw [← Nat.add_assoc, allV_snoc, allV_take V n r, allV_snoc, List.append_assoc]; rfl
theorem pkK_begins (K S : List UInt8) (m b r : Nat) : (pkK K S m (b + r)).take b = pkK K S m b := by
  have h1 := ups32_le b
  have h2 := ups32_le (b + r)
  obtain ⟨d, hd⟩ : ∃ d, ups32 (b + r) = ups32 b + d := ⟨ups32 (b + r) - ups32 b, by omega⟩
  unfold pkK
  rw [List.take_take, Nat.min_eq_left (by omega), hd, allV_take, List.take_append_of_le_length (by rw [allV_length _ (partV_length K S m)]; omega)]

theorem key_good (word S : ByteArray) (m b : Nat) (hm : 1 ≤ m ∧ m ≤ 1000000) (hb : 1 ≤ b ∧ b ≤ 65536) (hw : word.size ≤ 5000) (hS : S.size ≤ 5000) (w : World) (hk : KAt w) :
    Calls Tryz.prog 26 #[.string word, .string S, .int .i64 (m : Int), .int .i64 (b : Int)] w fun e w' => e = .returned (.tuple #[.string (tx (pkK (tl word) (tl S) m b)), .int .i64 0]) ∧ Below w.heap.size w w' := by
  refine key_walk word S m b hm hb w (partV (tl word) (tl S) m) (partV_length _ _ _) (fun W hB => ?_) (fun W g c xs hc hg hx hxc hj => ?_)
  · refine (newmac_any word (by omega) W (hk.next hB)).mono ?_
    rintro e w2 ⟨M, rfl, h2, b2⟩
    exact ⟨M, rfl, b2, fun U hU i h1 h3 => part_good U M (tl word) (h2.below hU) ((hk.next (below_step hB b2)).next (hU)) S hS m i hm ⟨h1, by omega⟩⟩
  · have h := strings_Join g 0 c xs ⟨#[]⟩ W (by simpa using hc) hg (by omega) hxc (by
      rw [show ((⟨#[]⟩ : ByteArray)).data.toList = [] from rfl, join_nil]; omega)
    rw [show ((⟨#[]⟩ : ByteArray)).data.toList = [] from rfl, join_nil] at h
    exact h
end Go.Proofs.YtlifpplhinmajaaGreatDoor

namespace Go.Proofs.YtlifpplhinmajaaGreatDoor
set_option maxRecDepth 50000
open Go.RowKit Sha

set_option maxHeartbeats 1600000 in
theorem rpart_any (word S : ByteArray) (hw : word.size ≤ 1000) (hS : S.size ≤ 80000) (m i : Nat) (hm : 1 ≤ m ∧ m ≤ 1000000) (hi : 1 ≤ i ∧ i ≤ 4294967295) (w : World) :
    Calls Tryz.prog 52 #[.agg (wd (kk ++ hh)), .string word, .string S, .int .i64 (m : Int), .int .i64 (i : Int)] w fun e w' => e = .returned (.string (tx (partV (tl word) (tl S) m i))) ∧ Below w.heap.size w w' := by
  have hfl : (wd (kk ++ hh)).size = 72 := by rw [wd_size]; rfl
  have hx : i < 2 ^ 32 := by omega
  have CO := of32_own i
  have CR := rchain_any word ⟨#[]⟩ (S ++ tx (beL i)) hw (by rw [ByteArray.size_append, tx_size, beL_length]; show 0 + _ ≤ _; omega) m (by omega) hm.2
  have e1 : tl (S ++ tx (beL i)) = tl S ++ beL i := by unfold tl tx; rw [ByteArray.data_append]; simp
  rw [e1, show tl (⟨#[]⟩ : ByteArray) = [] from rfl] at CR
  obtain ⟨FX, hFX⟩ : ∃ FX, FX = wd (kk ++ hh) := ⟨_, rfl⟩
  rw [← hFX] at hfl CR ⊢
  obtain ⟨TX, hTX⟩ : ∃ TX, TX = tx (beL i) := ⟨_, rfl⟩
  rw [← hTX] at CR
  obtain ⟨L, hL⟩ : ∃ L, L = tx (lastL (tl word) [] (tl S ++ beL i) (m - 1)) := ⟨_, rfl⟩
  obtain ⟨TV, hTV⟩ : ∃ TV, TV = tx (partV (tl word) (tl S) m i) := ⟨_, rfl⟩
  rw [← hL, show tx (allL (tl word) [] (tl S ++ beL i) (m - 1)) = TV from hTV.symm] at CR
  rw [← hTV]
  have hTs : TX.size = 4 := by rw [hTX, tx_size, beL_length]
  have HT := Lib.hid hTX
  have hT4 : TX.size ≤ 4 := by omega
  have HFL := Lib.hid hfl
  have HX := Lib.hid hx
  have CC := Lib.hid CR
  have hw2 : IntKind.u32.wrap (i : Int) = (i : Int) := by rw [IntKind.wrap_u32]; omega
  clear CR CO hfl hFX hTX hL hTV hTs e1 hx hm hw
  go_enter Tryz.func52, Tryz.ntmps52
  have R0 := Lib.hid (RowAt.new w 40 FX)
  have B0 : Hid (Below w.heap.size w (w.alloc (.cells FX 40))) := Lib.hid ((Below.refl _ w).alloc (Nat.le_refl _) _)
  have hlt0 : w.heap.size < (w.alloc (.cells FX 40)).heap.size := by simp
  go_wp2_with fail
  refine (of32_own i _ HX.out).mono ?_
  rintro e w1 ⟨g1, c1, rfl, h1, b1⟩
  have R1 := Lib.hid (R0.out.below b1 hlt0)
  have hlt1 : w.heap.size < w1.heap.size := Nat.lt_of_lt_of_le hlt0 b1.size
  have B1 := Lib.hid (below_step B0.out b1)
  have CT := Lib.hid (turned_own 4 (by omega) i g1 c1 w1 h1)
  clear b1 h1 hlt0
  go_wp2_with fail
  refine CT.out.mono ?_
  rintro e w2 ⟨g2, c2, rfl, h2, b2⟩
  rw [cs_beL] at h2
  have hcv := conv_text w2 h2
  rw [← HT.out] at hcv
  have R2 := Lib.hid (R1.out.below b2 hlt1)
  have B2 := Lib.hid (below_step B1.out b2)
  clear b2 h2 hlt1 CT
  go_wp2_with (first
    | refine wpList_load_of rfl 40 (.tmp 5) rfl ⟨w.heap.size, 0, none⟩ _ rfl (fx_load R2.out HFL.out) ?_)
  refine (CC.out _).mono ?_
  rintro e w3 ⟨rfl, b3⟩
  have B3 := Lib.hid (below_step B2.out b3)
  clear b3
  go_wp2
  go_ret
  exact ⟨rfl, B3.out⟩

set_option maxHeartbeats 1600000 in
theorem rkey_any (word S : ByteArray) (hw : word.size ≤ 1000) (hS : S.size ≤ 80000) (m b : Nat) (hm : 1 ≤ m ∧ m ≤ 1000000) (hb : 1 ≤ b ∧ b ≤ 65536) (w : World) :
    Calls Tryz.prog 31 #[.agg (wd (kk ++ hh)), .string word, .string S, .int .i64 (m : Int), .int .i64 (b : Int)] w fun e w' => e = .returned (.string (tx (pkK (tl word) (tl S) m b))) ∧ Below w.heap.size w w' := by
  have hfl : (wd (kk ++ hh)).size = 72 := by rw [wd_size]; rfl
  have CR := fun (i : Nat) (hi : 1 ≤ i ∧ i ≤ 4294967295) (W : World) => rpart_any word S hw hS m i hm hi W
  obtain ⟨FX, hFX⟩ : ∃ FX, FX = wd (kk ++ hh) := ⟨_, rfl⟩
  rw [← hFX] at hfl CR ⊢
  have hV := partV_length (tl word) (tl S) m
  have hK : pkK (tl word) (tl S) m b = (allV (partV (tl word) (tl S) m) (ups32 b)).take b := rfl
  rw [hK]
  clear hK
  have hup := ups32_le b
  generalize ups32 b = N at *
  generalize partV (tl word) (tl S) m = V at *
  have hN : N ≤ 2048 := by omega
  have HUP := Lib.hid hup
  have HV := Lib.hid hV
  have HFL := Lib.hid hfl
  have CC := Lib.hid CR
  clear CR hfl hFX hV hup hm hw hS
  go_enter Tryz.func31, Tryz.ntmps31
  have R0 := Lib.hid (RowAt.new w 40 FX)
  have B0 : Hid (Below w.heap.size w (w.alloc (.cells FX 40))) := Lib.hid ((Below.refl _ w).alloc (Nat.le_refl _) _)
  have hlt0 : w.heap.size < (w.alloc (.cells FX 40)).heap.size := by simp
  have HLT := Lib.hid hlt0
  clear hlt0
  go_wp2
  generalize hW0 : World.alloc w _ = w0 at *
  clear hW0
  go_loopw [11, 12] (fun v11 v12 wr => ∃ k : Nat, k ≤ N ∧ v11 = .string (tx (allV V k)) ∧ v12 = .int .i64 ((k : Int) + 1) ∧ Below w0.heap.size w0 wr) (fun _ v12 _ => N + 1 - (intOf v12).toNat)
  case atStart => exact ⟨0, Nat.zero_le _, rfl, rfl, Below.refl _ _⟩
  case round =>
    obtain ⟨k, hk, rfl, rfl, hb0⟩ := hrel
    have HB := Lib.hid hb0
    obtain ⟨T, hT⟩ : ∃ T, T = tx (allV V k) := ⟨_, rfl⟩
    have hs : T.size = 32 * k := by rw [hT, tx_size, allV_length V HV.out]
    rw [← hT]
    have HT := Lib.hid hT
    have LF := Lib.hid (fx_load ((R0.out.below HB.out HLT.out)) HFL.out)
    have hup := HUP.out
    clear hb0 hT
    by_cases hlt : k < N
    · have hT2 : T.size < b := by omega
      have hdt : decide (T.size < b) = true := by simp; omega
      have hT3 : T.size ≤ 100000 := by omega
      have CP := CC.out (k + 1) (by omega)
      rw [show ((k + 1 : Nat) : Int) = (k : Int) + 1 from rfl] at CP
      obtain ⟨P, hP⟩ : ∃ P, P = tx (V (k + 1)) := ⟨_, rfl⟩
      have hps : P.size = 32 := by rw [hP, tx_size, HV.out]
      rw [← hP] at CP
      have CPP := Lib.hid CP
      have HP := Lib.hid hP
      have HPS := Lib.hid hps
      have HS := Lib.hid hs
      clear CP hP hps hup hs
      go_wp2_with (first
        | refine wpList_load_of rfl 40 (.tmp 5) rfl ⟨w.heap.size, 0, none⟩ _ rfl LF.out ?_)
      refine (CPP.out _).mono ?_
      rintro e w3 ⟨rfl, b3⟩
      have B3 := Lib.hid (HB.out.trans (b3.mono HB.out.size))
      clear b3
      have hp3 : P.size ≤ 32 := by rw [HPS.out]; exact Nat.le_refl _
      go_wp2
      go_roundw
      case measure => simp [intOf]; omega
      case rel => exact ⟨k + 1, by omega, by rw [allV_snoc, tx_append, HT.out, HP.out], by go_num, B3.out⟩
    · obtain rfl : k = N := by omega
      have hT2 : b ≤ T.size := by omega
      have hdt : decide (T.size < b) = false := by simp; omega
      have e1 : T.extract 0 b = tx ((allV V k).take b) := by
        rw [HT.out]
        refine tl_inj ?_
        rw [tl_tx]
        unfold tl tx
        rw [ByteArray.data_extract]
        simp [List.extract_eq_take_drop]
      have HE := Lib.hid e1
      have hT3 : (b : Int) ≤ (T.size : Int) := by omega
      clear e1 hs hup
      go_wp2
      go_ret
      exact ⟨by rw [← HE.out]; rfl, below_step B0.out HB.out⟩
end Go.Proofs.YtlifpplhinmajaaGreatDoor

namespace Go.Proofs.YtlifpplhinmajaaGreatDoor
set_option maxRecDepth 50000
open Go.RowKit Sha

theorem example_is : (pkK [112, 97, 115, 115, 119, 100] [115, 97, 108, 116] 1 64).take 8 = [85, 172, 4, 110, 86, 227, 8, 159] := by kernel_rfl

/-- may rounds and a size be? -/
def rgt (m b : Int) : Bool := inB m 1 4294967295 && inB b 1 65536
theorem rgt_bad {m b : Int} (h : rgt m b = false) : inB m 1 4294967295 = false ∨ inB m 1 4294967295 = true ∧ inB b 1 65536 = false := by
  unfold rgt at h
  cases h1 : inB m 1 4294967295
  · exact .inl rfl
  · rw [h1] at h
    exact .inr ⟨rfl, by simpa using h⟩
theorem rgt_good {m b : Int} (h : rgt m b = true) : inB m 1 4294967295 = true ∧ inB b 1 65536 = true ∧ ∃ n c : Nat, m = (n : Int) ∧ b = (c : Int) ∧ 1 ≤ n ∧ n ≤ 4294967295 ∧ 1 ≤ c ∧ c ≤ 65536 := by
  unfold rgt at h
  rw [Bool.and_eq_true] at h
  obtain ⟨a1, a2⟩ := in_true _ _ _ h.1
  obtain ⟨a3, a4⟩ := in_true _ _ _ h.2
  exact ⟨h.1, h.2, m.toNat, b.toNat, by omega, by omega, by omega, by omega, by omega, by omega⟩
end Go.Proofs.YtlifpplhinmajaaGreatDoor
